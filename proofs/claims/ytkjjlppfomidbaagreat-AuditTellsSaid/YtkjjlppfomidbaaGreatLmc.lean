/- What sums of spaces come to, as facts; a tree's nodes below a node are it, and those below its children; conditions: none. -/
import Derived.Test.YtkjjlppfomidbaaGreatLcy
import Derived.Test.YtkjjlppfomidbaaGreatTrd
import Derived.Test.YtkjjlppfomidbaaGreatSve
import Derived.Test.YtkjjlppfomidbaaGreatTrl
import Derived.Test.YtkjjlppfomidbaaGreatLcl
/- Laa: What sums of spaces come to, as facts; a tree's nodes below a node are it, and those below its children; conditions: none. -/
namespace Go.Proofs.YtkjjlppfomidbaaGreat
namespace Aut
open Go Go.RowKit Sx Vec Ojt Scp Lct
def foldA (L : List Su) (i : Int) : List Tx → List Ent → List Ent
  | [], out => out
  | s :: l, out => foldA L i l (combV false out (getS L (s, i))).1
def allA (L : List Su) (t : Trt.Tr) (s : Tx) (i : Int) : List Ent := foldA L i (Trt.belowT t s) []
theorem fold_snoc (L : List Su) (i : Int) (s : Tx) : ∀ (l : List Tx) (out : List Ent), foldA L i (l ++ [s]) out = (combV false (foldA L i l out) (getS L (s, i))).1
  | [], out => rfl
  | a :: l, out => by rw [List.cons_append, foldA, foldA]; exact fold_snoc L i s l _
def sumL (g : Tx → Int) : List Tx → Int
  | [] => 0
  | s :: l => g s + sumL g l
theorem sumL_app (g : Tx → Int) : ∀ (l m : List Tx), sumL g (l ++ m) = sumL g l + sumL g m
  | [], m => by simp [sumL]
  | s :: l, m => by rw [List.cons_append, sumL, sumL, sumL_app g l m]; omega
theorem sumL_rng {g : Tx → Int} {B : Int} (h : ∀ s, 0 ≤ g s ∧ g s ≤ B) : ∀ l : List Tx, 0 ≤ sumL g l ∧ sumL g l ≤ (l.length : Int) * B
  | [] => ⟨Int.le_refl _, by simp [sumL]⟩
  | s :: l => by
    have h1 := sumL_rng h l
    have h2 := h s
    rw [sumL, List.length_cons, Int.natCast_succ, Int.add_mul]
    omega
theorem sumL_some {g : Tx → Int} : ∀ {l : List Tx}, sumL g l ≠ 0 → ∃ s ∈ l, g s ≠ 0
  | [], h => absurd rfl h
  | s :: l, h => by
    by_cases h0 : g s = 0
    · rw [sumL, h0] at h
      obtain ⟨x, hx, e⟩ := sumL_some (l := l) (g := g) (fun e => h (by rw [e]; rfl))
      exact ⟨x, List.mem_cons_of_mem _ hx, e⟩
    · exact ⟨s, List.mem_cons_self, h0⟩
structure SemA (L : List Su) (f : Bk → Tx → Int) : Prop where
  sem : ∃ sp, SemS sp L f
  ns : ∃ Ns : List Tx, Ns.length ≤ 10000 ∧ ∀ b n, f b n ≠ 0 → n ∈ Ns
  rng : ∀ b n, 0 ≤ f b n ∧ f b n ≤ 2951479051793528258560000
structure IsV (v : List Ent) (g : Tx → Int) : Prop where
  rt : rightV v = true
  get : ∀ n, getV v n = g n
theorem IsV.ext {u v : List Ent} {g : Tx → Int} (h : IsV u g) (k : IsV v g) : u = v := vec_ext h.rt k.rt fun n => by rw [h.get, k.get]
theorem IsV.congr {v : List Ent} {g k : Tx → Int} (h : IsV v g) (e : ∀ n, g n = k n) : IsV v k := ⟨h.rt, fun n => by rw [h.get, e]⟩
section
variable {L : List Su} {f : Bk → Tx → Int} (h : SemA L f)
include h
theorem SemA.one (b : Bk) : IsV (getS L b) (f b) := by
  obtain ⟨sp, hs⟩ := h.sem
  exact ⟨hs.rt b, hs.get b⟩
theorem SemA.wf {v : List Ent} {i : Int} {l : List Tx} (hv : IsV v (fun n => sumL (fun s => f (s, i) n) l)) (hl : l.length ≤ 100000) : wfV v ∧ v.length ≤ 17000 := by
  obtain ⟨Ns, hN, hs⟩ := h.ns
  refine vec_few hv.rt (Ns := Ns) (fun n hn => ?_) (fun n => ?_) (by omega)
  · rw [hv.get] at hn
    obtain ⟨s, -, h1⟩ := sumL_some hn
    exact hs _ _ h1
  · rw [hv.get]
    have := sumL_rng (g := fun s => f (s, i) n) (fun s => h.rng (s, i) n) l
    unfold inR
    rw [Bool.and_eq_true, decide_eq_true_eq, decide_eq_true_eq]
    omega
theorem SemA.add {u v : List Ent} {i : Int} {l m : List Tx} (hu : IsV u (fun n => sumL (fun s => f (s, i) n) l)) (hv : IsV v (fun n => sumL (fun s => f (s, i) n) m)) (hl : l.length + m.length ≤ 100000) :
    ∃ w, combV false u v = (w, 0) ∧ IsV w (fun n => sumL (fun s => f (s, i) n) (l ++ m)) := by
  have hw := (h.wf hu (by omega)).1
  obtain ⟨w, q1, q2, q3⟩ := comb_some (less := false) hw hu.rt hv.rt fun n => by
    rw [hu.get, hv.get]
    have := sumL_rng (g := fun s => f (s, i) n) (fun s => h.rng (s, i) n) (l ++ m)
    rw [sumL_app, List.length_append] at this
    show inR (sumL (fun s => f (s, i) n) l + sumL (fun s => f (s, i) n) m) = true
    unfold inR
    rw [Bool.and_eq_true, decide_eq_true_eq, decide_eq_true_eq]
    omega
  exact ⟨w, q1, q2, fun n => by rw [q3, hu.get, hv.get, sumL_app]; rfl⟩
theorem SemA.single (s : Tx) (i : Int) : IsV (getS L (s, i)) (fun n => sumL (fun x => f (x, i) n) [s]) := (h.one (s, i)).congr fun n => by simp [sumL]
theorem SemA.fold (i : Int) : ∀ (m : Nat) (l : List Tx), l.length = m → m ≤ 50000 → IsV (foldA L i l []) (fun n => sumL (fun s => f (s, i) n) l)
  | 0, l, hl, _ => by rw [List.eq_nil_of_length_eq_zero hl]; exact ⟨rfl, fun n => rfl⟩
  | m + 1, l, hl, hm => by
    obtain ⟨k, s, rfl⟩ : ∃ k s, l = k ++ [s] := by
      rcases List.eq_nil_or_concat l with e | ⟨k, s, e⟩
      · rw [e] at hl; cases hl
      · exact ⟨k, s, by rw [e, List.concat_eq_append]⟩
    rw [List.length_append, List.length_singleton] at hl
    have ih := SemA.fold i m k (by omega) (by omega)
    obtain ⟨w, q1, q2⟩ := h.add ih (h.single s i) (by simp; omega)
    rw [fold_snoc, q1]
    exact q2
theorem SemA.all (t : Trt.Tr) (ht : t.length ≤ 50000) (s : Tx) (i : Int) : IsV (allA L t s i) (fun n => sumL (fun x => f (x, i) n) (Trt.belowT t s)) :=
  h.fold i _ _ rfl (by unfold Trt.belowT; rw [List.length_map]; exact Nat.le_trans (List.length_filter_le _ _) ht)
end
def sumK (k : Tx → Int) : Trt.Tr → Int
  | [] => 0
  | e :: t => k e.1 + sumK k t
theorem sumK_filter (g : Tx → Int) (p : Tx → Bool) : ∀ t : Trt.Tr, sumL g ((t.filter fun e => p e.1).map (·.1)) = sumK (fun x => if p x = true then g x else 0) t
  | [] => rfl
  | e :: t => by
    rw [List.filter_cons, sumK]
    cases hp : p e.1
    · rw [if_neg (by decide), if_neg (by decide), sumK_filter g p t]; omega
    · rw [if_pos rfl, if_pos rfl, List.map_cons, sumL, sumK_filter g p t]
theorem below_sumK (g : Tx → Int) (t : Trt.Tr) (s : Tx) : sumL g (Trt.belowT t s) = sumK (fun x => if decide (s ∈ Trt.pathT t x) = true then g x else 0) t := by
  unfold Trt.belowT
  exact sumK_filter g (fun x => decide (s ∈ Trt.pathT t x)) t
theorem sumK_congr {k k' : Tx → Int} : ∀ {t : Trt.Tr}, (∀ e ∈ t, k e.1 = k' e.1) → sumK k t = sumK k' t
  | [], _ => rfl
  | e :: t, h => by rw [sumK, sumK, h e List.mem_cons_self, sumK_congr fun x hx => h x (List.mem_cons_of_mem _ hx)]
theorem sumK_add (k k' : Tx → Int) : ∀ t : Trt.Tr, sumK (fun x => k x + k' x) t = sumK k t + sumK k' t
  | [] => rfl
  | e :: t => by rw [sumK, sumK, sumK, sumK_add k k' t]; omega
theorem sumK_zero : ∀ t : Trt.Tr, sumK (fun _ => 0) t = 0
  | [] => rfl
  | e :: t => by rw [sumK, sumK_zero t]; rfl
theorem sumK_none {g : Tx → Int} {s : Tx} : ∀ {t : Trt.Tr}, s ∉ t.map (·.1) → sumK (fun x => if x = s then g x else 0) t = 0
  | [], _ => rfl
  | e :: t, h => by
    rw [List.map_cons, List.mem_cons, not_or] at h
    rw [sumK, if_neg fun x => h.1 x.symm, sumK_none h.2]
    rfl
theorem sumK_one {g : Tx → Int} {s : Tx} : ∀ {t : Trt.Tr}, (t.map (·.1)).Nodup → s ∈ t.map (·.1) → sumK (fun x => if x = s then g x else 0) t = g s
  | [], _, h => by cases h
  | e :: t, hn, h => by
    rw [List.map_cons, List.nodup_cons] at hn
    rw [List.map_cons, List.mem_cons] at h
    rw [sumK]
    by_cases hs : e.1 = s
    · rw [if_pos hs, sumK_none (by rw [← hs]; exact hn.1), hs]; omega
    · rw [if_neg hs, sumK_one hn.2 (h.resolve_left fun x => hs x.symm)]; omega
def hits (P : List Tx) : List Tx → Int
  | [] => 0
  | c :: l => (if c ∈ P then 1 else 0) + hits P l
theorem sumK_hits (g : Tx → Int) (t0 t : Trt.Tr) : ∀ l : List Tx, sumL (fun c => sumK (fun x => if decide (c ∈ Trt.pathT t0 x) = true then g x else 0) t) l = sumK (fun x => hits (Trt.pathT t0 x) l * g x) t
  | [] => by
    rw [sumL, ← sumK_zero t]
    exact sumK_congr fun e _ => by simp [hits]
  | c :: l => by
    rw [sumL, sumK_hits g t0 t l, ← sumK_add]
    refine sumK_congr fun e _ => ?_
    simp only [hits]
    rw [Int.add_mul]
    by_cases hc : c ∈ Trt.pathT t0 e.1
    · rw [if_pos (decide_eq_true hc), if_pos hc]; omega
    · rw [if_neg (by rw [decide_eq_false hc]; decide), if_neg hc]; omega
theorem hits_none {P : List Tx} : ∀ {l : List Tx}, (∀ c ∈ l, c ∉ P) → hits P l = 0
  | [], _ => rfl
  | c :: l, h => by rw [hits, if_neg (h c List.mem_cons_self), hits_none fun x hx => h x (List.mem_cons_of_mem _ hx)]; rfl
theorem hits_cons {x : Tx} {P : List Tx} (hx : x ∉ P) : ∀ {l : List Tx}, l.Nodup → hits (x :: P) l = (if x ∈ l then 1 else 0) + hits P l
  | [], _ => rfl
  | c :: l, hn => by
    rw [List.nodup_cons] at hn
    rw [hits, hits, hits_cons hx hn.2]
    by_cases hc : c = x
    · subst hc
      rw [if_pos List.mem_cons_self, if_neg hx, if_neg hn.1, if_pos List.mem_cons_self]
      try omega
    · have e1 : (c ∈ x :: P) ↔ c ∈ P := ⟨fun h => (List.mem_cons.1 h).resolve_left hc, fun h => List.mem_cons_of_mem _ h⟩
      have e2 : (x ∈ c :: l) ↔ x ∈ l := ⟨fun h => (List.mem_cons.1 h).resolve_left fun e => hc e.symm, fun h => List.mem_cons_of_mem _ h⟩
      by_cases h1 : c ∈ P
      · by_cases h2 : x ∈ l
        · rw [if_pos (e1.2 h1), if_pos h1, if_pos h2, if_pos (e2.2 h2)]; try omega
        · rw [if_pos (e1.2 h1), if_pos h1, if_neg h2, if_neg fun h => h2 (e2.1 h)]; try omega
      · by_cases h2 : x ∈ l
        · rw [if_neg fun h => h1 (e1.1 h), if_neg h1, if_pos h2, if_pos (e2.2 h2)]; try omega
        · rw [if_neg fun h => h1 (e1.1 h), if_neg h1, if_neg h2, if_neg fun h => h2 (e2.1 h)]; try omega
section
variable {t : Trt.Tr} (h : Trt.WfT t)
include h
theorem keys_nd : (t.map (·.1)).Nodup := List.pairwise_map.2 (h.rise.imp fun {a b} hlt e => by rw [e, Bord.bl_irrefl] at hlt; cases hlt)
theorem child_nd (s : Tx) : (Trt.childT t s).Nodup := by
  unfold Trt.childT
  exact (keys_nd h).sublist (List.filter_sublist.map _)
theorem child_iff {e : Tx × Tx} (he : e ∈ t) (s : Tx) : e.1 ∈ Trt.childT t s ↔ e.2 = s ∧ e.1 ≠ Trt.rootN := by
  unfold Trt.childT
  rw [List.mem_map]
  constructor
  · rintro ⟨x, hx, e1⟩
    obtain ⟨h1, h2⟩ := List.mem_filter.1 hx
    have := h.inj h1 he e1
    subst this
    rw [Bool.and_eq_true, decide_eq_true_eq, decide_eq_true_eq] at h2
    exact h2
  · rintro ⟨h1, h2⟩
    exact ⟨e, List.mem_filter.2 ⟨he, by rw [decide_eq_true h1, decide_eq_true h2]; rfl⟩, rfl⟩
theorem path_notin {e : Tx × Tx} (he : e ∈ t) : e.1 ∉ Trt.pathT t e.2 := by
  have := h.nodup _ e he (Nat.le_refl _)
  rw [h.path he, List.nodup_cons] at this
  exact this.1
theorem hits_is (s : Tx) : ∀ m, ∀ e ∈ t, (Trt.pathT t e.1).length ≤ m → (if s ∈ Trt.pathT t e.1 then (1 : Int) else 0) = (if e.1 = s then 1 else 0) + hits (Trt.pathT t e.1) (Trt.childT t s)
  | 0, e, he, hl => by rw [h.path he, List.length_cons] at hl; omega
  | m + 1, e, he, hl => by
    have hp := h.path he
    rw [hp, List.length_cons] at hl
    have hn := path_notin h he
    have hch := child_nd h s
    rw [hp]
    rw [hits_cons hn hch]
    by_cases hr : e.1 = Trt.rootN
    · have h0 : Trt.pathT t e.2 = [] := by
        have := h.path_root
        rw [← hr, hp] at this
        exact (List.cons.inj this).2
      have hno : e.1 ∉ Trt.childT t s := fun hc => ((child_iff h he s).1 hc).2 hr
      rw [h0, if_neg hno, hits_none (fun c _ hc => by cases hc)]
      by_cases hs : e.1 = s
      · rw [if_pos hs, if_pos (by rw [hs]; exact List.mem_cons_self)]; rfl
      · rw [if_neg hs, if_neg (fun h => hs (List.mem_singleton.1 h).symm)]; rfl
    · obtain ⟨y, hy, hy1⟩ := Trt.has_iff.1 (h.up e he hr)
      have ih := hits_is s m y hy (by rw [hy1]; omega)
      rw [hy1] at ih
      by_cases hs : e.1 = s
      · have hns : s ∉ Trt.pathT t e.2 := by rw [← hs]; exact hn
        have hne : e.2 ≠ s := fun x => hns (by
          rw [← x, ← hy1, h.path hy]
          exact List.mem_cons_self)
        rw [if_neg hns, if_neg hne] at ih
        rw [if_pos hs, if_pos (by rw [hs]; exact List.mem_cons_self), if_neg (fun hc => hne ((child_iff h he s).1 hc).1)]
        omega
      · have hm : (s ∈ e.1 :: Trt.pathT t e.2) ↔ s ∈ Trt.pathT t e.2 := ⟨fun h => (List.mem_cons.1 h).resolve_left fun x => hs x.symm, fun h => List.mem_cons_of_mem _ h⟩
        have hc := child_iff h he s
        by_cases h1 : e.2 = s
        · rw [if_pos h1] at ih
          rw [if_neg hs, if_pos (hc.2 ⟨h1, hr⟩)]
          by_cases h2 : s ∈ Trt.pathT t e.2
          · rw [if_pos h2] at ih
            rw [if_pos (hm.2 h2)]
            omega
          · rw [if_neg h2] at ih
            rw [if_neg fun x => h2 (hm.1 x)]
            omega
        · rw [if_neg h1] at ih
          rw [if_neg hs, if_neg (fun x => h1 (hc.1 x).1)]
          by_cases h2 : s ∈ Trt.pathT t e.2
          · rw [if_pos h2] at ih
            rw [if_pos (hm.2 h2)]
            omega
          · rw [if_neg h2] at ih
            rw [if_neg fun x => h2 (hm.1 x)]
            omega
theorem below_split (g : Tx → Int) {s : Tx} (hs : Trt.hasT t s = true) : sumL g (Trt.belowT t s) = g s + sumL (fun c => sumL g (Trt.belowT t c)) (Trt.childT t s) := by
  have e1 : (fun c => sumL g (Trt.belowT t c)) = fun c => sumK (fun x => if decide (c ∈ Trt.pathT t x) = true then g x else 0) t := by funext c; exact below_sumK g t c
  obtain ⟨y, hy, rfl⟩ := Trt.has_iff.1 hs
  rw [e1, sumK_hits, below_sumK, ← sumK_one (g := g) (keys_nd h) (List.mem_map.2 ⟨y, hy, rfl⟩), ← sumK_add]
  refine sumK_congr fun e he => ?_
  have := hits_is h y.1 _ e he (Nat.le_refl _)
  by_cases h1 : y.1 ∈ Trt.pathT t e.1
  · rw [if_pos h1] at this
    rw [if_pos (decide_eq_true h1)]
    by_cases h2 : e.1 = y.1
    · rw [if_pos h2] at this ⊢
      rw [show hits (Trt.pathT t e.1) (Trt.childT t y.1) = 0 by omega, Int.zero_mul]; omega
    · rw [if_neg h2] at this ⊢
      rw [show hits (Trt.pathT t e.1) (Trt.childT t y.1) = 1 by omega, Int.one_mul]; omega
  · rw [if_neg h1] at this
    rw [if_neg (by rw [decide_eq_false h1]; decide)]
    by_cases h2 : e.1 = y.1
    · exact absurd (by rw [← h2, h.path he]; exact List.mem_cons_self) h1
    · rw [if_neg h2] at this ⊢
      rw [show hits (Trt.pathT t e.1) (Trt.childT t y.1) = 0 by omega, Int.zero_mul]; rfl
end
end Aut
end Go.Proofs.YtkjjlppfomidbaaGreat
/- Lma: The landed table: the nodes, none of them ahead of one that is below it; conditions: at most 200 nodes. -/
namespace Go.Proofs.YtkjjlppfomidbaaGreat
namespace Sx
open Go Go.RowKit
theorem Lies.below {w w' : World} {l : Hp} (h : Lies w l) (hb : Below w.heap.size w w') : Lies w' l := fun b o hm => by
  rw [hb.block b (lies_lt h hm)]
  exact h b o hm
end Sx
namespace Aut
open Go Go.RowKit Sx Srt
attribute [local irreducible] Go.Calls
def dep (t : Trt.Tr) (s : Lct.Tx) : Nat := (Trt.pathT t s).length
theorem dep_child {t : Trt.Tr} (h : Trt.WfT t) {s c : Lct.Tx} (hc : c ∈ Trt.childT t s) : dep t s < dep t c := by
  unfold Trt.childT at hc
  obtain ⟨e, he, rfl⟩ := List.mem_map.1 hc
  obtain ⟨h1, h2⟩ := List.mem_filter.1 he
  rw [Bool.and_eq_true, decide_eq_true_eq] at h2
  unfold dep
  rw [h.path h1, h2.1, List.length_cons]
  exact Nat.lt_succ_self _
structure DeepM (t : Trt.Tr) (M : List Lct.Tx) : Prop where
  perm : M.Perm (t.map (·.1))
  ord : ∀ (i j : Nat) (u v : Lct.Tx), i < j → M[i]? = some u → M[j]? = some v → dep t v ≤ dep t u
theorem DeepM.child {t : Trt.Tr} {M : List Lct.Tx} (h : DeepM t M) (hw : Trt.WfT t) {i : Nat} {s c : Lct.Tx} (hs : M[i]? = some s) (hc : c ∈ Trt.childT t s) : c ∈ M.take i := by
  have hm : c ∈ M := by
    refine h.perm.mem_iff.2 ?_
    unfold Trt.childT at hc
    obtain ⟨e, he, rfl⟩ := List.mem_map.1 hc
    exact List.mem_map.2 ⟨e, (List.mem_filter.1 he).1, rfl⟩
  obtain ⟨j, hj⟩ := List.getElem?_of_mem hm
  have hd := dep_child hw hc
  have hlt : j < i := by
    rcases Nat.lt_trichotomy j i with h1 | h1 | h1
    · exact h1
    · subst h1
      rw [hs] at hj
      cases hj
      omega
    · have := h.ord i j s c h1 hs hj
      omega
  refine List.mem_of_getElem? (i := j) ?_
  rw [List.getElem?_take_of_lt hlt]
  exact hj
def nmAt (ks : List Lct.Tx) (k : Nat) : Lct.Tx := (ks[k]?).getD []
def fN (ks : List Lct.Tx) (k : Nat) : Value := S (nmAt ks k)
def cmpN (t : Trt.Tr) (ks : List Lct.Tx) (u v : Nat) : Int := Wid.cmpI (dep t (nmAt ks v)) (dep t (nmAt ks u))
def ltN (t : Trt.Tr) (ks : List Lct.Tx) (u v : Nat) : Prop := dep t (nmAt ks v) < dep t (nmAt ks u) ∨ (dep t (nmAt ks v) = dep t (nmAt ks u) ∧ u < v)
theorem cmpN_lt (t : Trt.Tr) (ks : List Lct.Tx) (u v : Nat) : decide (cmpN t ks u v < 0) = decide (dep t (nmAt ks v) < dep t (nmAt ks u)) := by
  unfold cmpN Wid.cmpI
  by_cases h1 : dep t (nmAt ks v) < dep t (nmAt ks u)
  · rw [if_pos (by omega), decide_eq_true h1]; rfl
  · rw [if_neg (by omega), decide_eq_false h1]
    split <;> rfl
theorem names_at (ks : List Lct.Tx) : (List.range ks.length).map (nmAt ks) = ks := by
  apply List.ext_getElem?
  intro k
  rw [List.getElem?_map]
  by_cases hk : k < ks.length
  · rw [List.getElem?_range hk, List.getElem?_eq_getElem hk]
    simp [nmAt, hk]
  · rw [List.getElem?_eq_none (by simpa using hk), List.getElem?_eq_none (by omega)]
    rfl
theorem deep_of {t : Trt.Tr} {ks : List Lct.Tx} (hk : ks = t.map (·.1)) {e : Nat → Nat} (hm : Mv 0 ks.length id e) (ho : Ord (ltN t ks) e 0 ks.length) : DeepM t ((List.range ks.length).map fun k => nmAt ks (e k)) := by
  obtain ⟨p, q, h1, h2, h3, h4⟩ := hm
  have h5 : ∀ k, k < ks.length → p k < ks.length := fun k hk => by
    rcases Nat.lt_or_ge (p k) ks.length with h | h
    · exact h
    · have e1 := h3 (p k) (.inr h)
      have e2 := h2 (p k)
      rw [e1, h2 k] at e2
      omega
  have h6 : ∀ k, k < ks.length → q k < ks.length := fun k hk => by
    rcases Nat.lt_or_ge (q k) ks.length with h | h
    · exact h
    · have e1 := h3 (q k) (.inr h)
      rw [h1] at e1
      omega
  refine ⟨?_, fun i j u v hij hu hv => ?_⟩
  · have hp : ((List.range ks.length).map e).Perm (List.range ks.length) := by
      refine perm_mem ?_ List.nodup_range fun x => ?_
      · refine List.pairwise_map.2 (List.nodup_range.imp fun {a b} hne he => hne ?_)
        rw [h4, h4] at he
        have := congrArg q (show p a = p b from he)
        rwa [h2, h2] at this
      · rw [List.mem_map, List.mem_range]
        constructor
        · rintro ⟨k, hk, rfl⟩
          rw [h4]
          exact h5 k (List.mem_range.1 hk)
        · intro hx
          exact ⟨q x, List.mem_range.2 (h6 x hx), by rw [h4]; exact h1 x⟩
    have := hp.map (nmAt ks)
    rw [List.map_map, names_at] at this
    rw [← hk]
    exact this
  · rw [List.getElem?_map] at hu hv
    have hj : j < ks.length := by
      rcases Nat.lt_or_ge j ks.length with h | h
      · exact h
      · rw [List.getElem?_eq_none (by simpa using h)] at hv; cases hv
    rw [List.getElem?_range (by omega)] at hu
    rw [List.getElem?_range hj] at hv
    cases hu
    cases hv
    rcases ho i j (Nat.zero_le _) hij hj with h | h
    · exact Nat.le_of_lt h
    · exact Nat.le_of_eq h.1
theorem nan_g (n : Int) (w : World) : Calls Tryz.prog 137 #[I n] w fun e w' => e = .returned (.bool false) ∧ Below w.heap.size w w' := by
  refine calls1 (args := [I n]) Tryz.func137 rfl rfl rfl rfl ?_
  repeat' (first | refine aw_seq ?_ | refine zz ?_ | refine zon fun _ => ?_ | refine zoa fun vr lr hr => ?_ | refine zoS (fun _ => ?_) (fun _ => ?_) | refine zqS (fun _ => ?_) (fun _ => ?_) | refine zwS (fun _ => ?_) (fun _ => ?_))
  exact fun w' hw => ⟨by simp, hw.below⟩
set_option maxHeartbeats 2000000 in
theorem cmpg_ok (a b : Int) (w : World) : Calls Tryz.prog 109 #[I a, I b] w fun e w' => e = .returned (I (Wid.cmpI a b)) ∧ Below w.heap.size w w' := by
  refine calls1 (args := [I a, I b]) Tryz.func109 rfl rfl rfl rfl ?_
  rcases Int.lt_trichotomy a b with h | h | h
  · rw [Wid.cmpI_lt h]
    repeat' (first | refine aw_seq ?_ | refine zz ?_ | refine zon fun _ => ?_ | refine zoa fun vr lr hr => ?_ | ((first | apply ao_call | apply aq_call); exact wants_a; (first | exact oc_func rfl | exact oc_clos rfl rfl | exact oc_bnd rfl rfl); (exact rfl); (first | exact fun w hw => nan_g _ w)) | refine zoS (fun _ => ?_) (fun _ => ?_) | refine zqS (fun _ => ?_) (fun _ => ?_) | refine zwS (fun _ => ?_) (fun _ => ?_))
    exact fun w' hw => ⟨rfl, hw.below⟩
  · rw [Wid.cmpI_eq h]
    repeat' (first | refine aw_seq ?_ | refine zz ?_ | refine zon fun _ => ?_ | refine zoa fun vr lr hr => ?_ | ((first | apply ao_call | apply aq_call); exact wants_a; (first | exact oc_func rfl | exact oc_clos rfl rfl | exact oc_bnd rfl rfl); (exact rfl); (first | exact fun w hw => nan_g _ w)) | refine zoS (fun _ => ?_) (fun _ => ?_) | refine zqS (fun _ => ?_) (fun _ => ?_) | refine zwS (fun _ => ?_) (fun _ => ?_))
    exact fun w' hw => ⟨rfl, hw.below⟩
  · rw [Wid.cmpI_gt h]
    repeat' (first | refine aw_seq ?_ | refine zz ?_ | refine zon fun _ => ?_ | refine zoa fun vr lr hr => ?_ | ((first | apply ao_call | apply aq_call); exact wants_a; (first | exact oc_func rfl | exact oc_clos rfl rfl | exact oc_bnd rfl rfl); (exact rfl); (first | exact fun w hw => nan_g _ w)) | refine zoS (fun _ => ?_) (fun _ => ?_) | refine zqS (fun _ => ?_) (fun _ => ?_) | refine zwS (fun _ => ?_) (fun _ => ?_))
    exact fun w' hw => ⟨rfl, hw.below⟩
theorem cmpd_ok {w : World} {tb gt : Nat} {t : Trt.Tr} {lt : Hp} (hT : Trt.LTr t gt lt) (hF : Trt.FitT t) (hl : Lies w lt) (hb : w.cell? ⟨tb, 0, none⟩ = some (.pointer (some ⟨gt, 0, none⟩))) (htb : tb < w.heap.size) (x y : Lct.Tx) :
    Calls Tryz.prog 108 #[S x, S y, .pointer (some ⟨tb, 0, none⟩)] w fun e w' => e = .returned (I (Wid.cmpI (dep t y) (dep t x))) ∧ Below w.heap.size w w' := by
  have hp := fun s w' (hb : Below w.heap.size w w') => Trt.tpath_ok hT hF s w' (hl.below hb)
  refine calls1 (args := [S x, S y, .pointer (some ⟨tb, 0, none⟩)]) Tryz.func108 rfl rfl rfl rfl ?_
  repeat' (first | refine zhn ?_ | refine ah_end ?_ | (apply ah_one; (exact rfl)) | (apply ah_two; (exact rfl); (exact rfl)) | (apply ah_three; (exact rfl); (exact rfl); (exact rfl)) | (apply aw_held (id := 1) (pl := (.t 0 (.t 1 (.t 4 (.t 5 (.o 2 (.w 3 (.o 6 (.o 7 (.o 8 (.t 9 .e)))) 6 (.w 3 (.o 7 (.o 8 (.t 9 .e))) 7 (.o 3 (.o 8 (.t 9 .e))))))))))); (kernel_rfl); (kernel_rfl); (kernel_rfl); (solve | (exact List.Sublist.refl _))) | refine aw_seq ?_ | ((first | apply ao_val | apply aq_val | (apply ah_take; (exact rfl))); exact wants_a; (first | exact ov_load_o rfl htb hb | exact ov_nilcheck rfl | exact ov_lenr rfl (by assumption) | exact ov_a); (exact rfl)) | refine zu ?_ | (refine aw_is ?_; refine zwd ?_) | refine zhk ?_ | refine zhT ?_ | refine zhF ?_ | refine zon fun _ => ?_ | refine zoa fun vr lr hr => ?_ | ((first | apply ao_call | apply aq_call); exact wants_a; (first | exact oc_func rfl | exact oc_clos rfl rfl | exact oc_bnd rfl rfl); (exact rfl); (first | exact fun w hw => cmpg_ok _ _ w)) | (apply ao_callr; exact wants_a; (exact oc_func rfl); (exact rfl); (first | exact fun w hw => hp _ w hw.below); intro vr lr hr) | refine zoS (fun _ => ?_) (fun _ => ?_) | refine zqS (fun _ => ?_) (fun _ => ?_) | refine zwS (fun _ => ?_) (fun _ => ?_))
  all_goals exact fun w' hw => ⟨rfl, hw.below⟩
theorem rows_at (ks : List Lct.Tx) (e : Nat → Nat) (n : Nat) : rowL (fun a => [fN ks a]) n e = ((List.range n).map fun k => nmAt ks (e k)).flatMap Trt.cells1 := by
  unfold rowL
  rw [List.flatMap_map, List.flatMap_map]
  rfl
set_option maxHeartbeats 16000000 in
theorem deep_ok {w : World} {gt : Nat} {t : Trt.Tr} {lt : Hp} (hT : Trt.LTr t gt lt) (hF : Trt.FitT t) (hl : Lies w lt) :
    Calls Tryz.prog 65 #[.pointer (some ⟨gt, 0, none⟩)] w fun e w' => ∃ r, e = .returned r ∧ NewD (fun r l => ∃ M, DeepM t M ∧ RowB 9 1 r l M.length (M.flatMap Trt.cells1)) w w' r := by
  have hal := fun w' (hb : Below w.heap.size w w') => Trt.tall_ok hT hF w' (hl.below hb)
  have hpos : 0 < (t.map (·.1)).length := List.length_pos_iff.2 fun e => by
    have h1 : Trt.rootN ∈ t.map (·.1) := List.mem_map.2 ⟨_, hF.wf.root, rfl⟩
    rw [e] at h1
    cases h1
  have hlen : (t.map (·.1)).length ≤ 200 := by rw [List.length_map]; exact hF.len
  obtain ⟨ks, hks⟩ : ∃ ks, ks = t.map (·.1) := ⟨_, rfl⟩
  rw [← hks] at hal hpos hlen
  refine calls1 (args := [.pointer (some ⟨gt, 0, none⟩)]) Tryz.func65 rfl rfl rfl rfl ?_
  repeat' (first | refine aw_seq ?_ | ((first | apply ao_val | apply aq_val); exact wants_a; (first | exact ov_nilcheck rfl | exact ov_a); (exact rfl)) | refine zy ?_ | refine zon fun _ => ?_ | refine zoa fun vr lr hr => ?_ | (apply ao_callr; exact wants_a; (exact oc_func rfl); (exact rfl); (first | exact fun w hw => hal w hw.below); intro vr lr hr) | refine zoS (fun _ => ?_) (fun _ => ?_) | refine zqS (fun _ => ?_) (fun _ => ?_) | refine zwS (fun _ => ?_) (fun _ => ?_))
  obtain ⟨g, cap, cs, rfl, rfl, hc1, hc2, hc3⟩ := hr.open hpos
  rename_i tb
  have hcs : cs = Sst.rowT (fN ks) (cs.drop ks.length) ks.length id := by
    unfold Sst.rowT
    rw [rows_at, show ((List.range ks.length).map fun k => nmAt ks (id k)) = ks from names_at ks, ← hc3, Nat.mul_one, List.take_append_drop]
  rw [hcs]
  have hC : Sst.Cmp (fN ks) 108 (.pointer (some ⟨tb, 0, none⟩)) (ltN t ks) id (cmpN t ks) w.heap.size w [(tb, Trt.boxT (some ⟨gt, 0, none⟩))] :=
    ⟨fun _ => rfl, fun u v hx h => by
      rw [cmpN_lt, decide_eq_true_eq] at h
      exact .inl h, fun u v hx h => by
      rw [cmpN_lt, decide_eq_false_iff_not] at h
      unfold ltN
      have : u < v := hx
      omega, fun a b c h1 h2 => by
      unfold ltN at *
      omega, fun u v q w2 hw => cmpd_ok hT hF (hl.below hw.below) (by
        have h1 : w2.heap[tb]? = some (.cells (List.toArray [.pointer (some ⟨gt, 0, none⟩)]) 27 (0, 0)) := (hw.has Has.head).2
        rw [cell_of h1]
        rfl) (Trt.has_lt hw Has.head) _ _⟩
  repeat' (first | refine aw_seq ?_ | refine zz ?_ | refine zon fun _ => ?_ | refine zoa fun vr lr hr => ?_ | ((apply ao_callH; exact wants_a; (exact oc_func rfl); (exact rfl); (exact Cut.here1); (exact Sst.sst_ok hC g ks.length (by omega) id (fun i j h1 h2 => h1)); rintro _ _ ⟨rfl, e2, hmv2, hord2, rfl⟩)) | refine zoS (fun _ => ?_) (fun _ => ?_) | refine zqS (fun _ => ?_) (fun _ => ?_) | refine zwS (fun _ => ?_) (fun _ => ?_))
  have hD := deep_of hks hmv2 hord2
  have hfl : ∀ l : List Lct.Tx, (l.flatMap Trt.cells1).length = l.length * 1 := fun l => by
    induction l with
    | nil => rfl
    | cons a l ih => rw [List.flatMap_cons, List.length_append, ih, List.length_cons, Trt.cells1_len]; omega
  refine fun w' hw => ⟨_, rfl, hw.toD rfl (l := [Sst.RO (fN ks) (cs.drop ks.length) g ks.length e2]) (R := [_]) (List.Perm.refl _) ⟨_, hD, ?_, .inr ⟨g, cap, _, by rw [List.length_map, List.length_range], rfl, by rw [List.length_map, List.length_range]; exact hc1, ?_, ?_⟩⟩⟩
  · exact hfl _
  · show (Sst.rowT _ _ _ _).length = _
    unfold Sst.rowT
    rw [List.length_append, rowL_len (sz := 1) (fun _ => rfl), List.length_drop]
    omega
  · show List.take _ (Sst.rowT _ _ _ _) = _
    unfold Sst.rowT
    rw [rows_at, List.take_left' (hfl _)]
end Aut
end Go.Proofs.YtkjjlppfomidbaaGreat
/- Lmb: The landed table's sums of all: what is known of them; conditions: none. -/
namespace Go.Proofs.YtkjjlppfomidbaaGreat
namespace Aut
open Go Go.RowKit Sx Vec Ojt Scp Lct
theorem moveG_keys {o : Ob} {c : List Ent} {less : Bool} {N : Nat} : ∀ (scs : List (List Trm)) (i : Nat) (L : List Su), i + scs.length ≤ N → (∀ b ∈ L.map (·.1), 0 ≤ b.2 ∧ b.2 < (N : Int)) → ∀ b ∈ (moveG o c less i scs L).1.map (·.1), 0 ≤ b.2 ∧ b.2 < (N : Int)
  | [], _, _, _, h => h
  | sc :: rest, i, L, hi, h => by
    rw [List.length_cons] at hi
    unfold moveG
    split
    · exact moveG_keys rest (i + 1) L (by omega) h
    · split
      · exact h
      · refine moveG_keys rest (i + 1) _ (by omega) fun b hb => ?_
        rcases (put_mem _ _ _ _).1 hb with rfl | hb
        · exact ⟨by simp only; omega, by simp only; omega⟩
        · exact h b hb
theorem moveS_keys {scs : List (List Trm)} {o : Ob} {less : Bool} {L : List Su} (h : ∀ b ∈ L.map (·.1), 0 ≤ b.2 ∧ b.2 < (scs.length : Int)) : ∀ b ∈ (moveS scs L o less).1.map (·.1), 0 ≤ b.2 ∧ b.2 < (scs.length : Int) := by
  unfold moveS
  split
  · exact h
  · split
    · exact h
    · exact moveG_keys scs 0 L (by omega) h
theorem loadG_keys {scs : List (List Trm)} : ∀ (os : List Ob) (L : List Su), (∀ b ∈ L.map (·.1), 0 ≤ b.2 ∧ b.2 < (scs.length : Int)) → ∀ b ∈ (loadG scs os L).1.map (·.1), 0 ≤ b.2 ∧ b.2 < (scs.length : Int)
  | [], _, h => h
  | o :: os, L, h => by
    unfold loadG
    split
    · intro b hb; cases hb
    · exact loadG_keys os _ (moveS_keys h)
theorem loadS_keys (scs : List (List Trm)) (os : List Ob) : ∀ b ∈ (loadS scs os).1.map (·.1), 0 ≤ b.2 ∧ b.2 < (scs.length : Int) := by
  unfold loadS
  split
  · exact loadG_keys os [] fun b hb => by cases hb
  · intro b hb; cases hb
theorem fold_none {L : List Su} {i : Int} (h : ∀ x, getS L (x, i) = []) : ∀ l : List Tx, foldA L i l [] = []
  | [] => rfl
  | s :: l => by
    rw [foldA, h]
    exact fold_none h l
theorem allA_out {L : List Su} {n : Nat} (h : ∀ b ∈ L.map (·.1), 0 ≤ b.2 ∧ b.2 < (n : Int)) (t : Trt.Tr) (s : Tx) {i : Int} (hi : ¬ (0 ≤ i ∧ i < (n : Int))) : allA L t s i = [] :=
  fold_none (fun _ => getS_no fun hb => hi (h _ hb)) _
theorem allA_none {L : List Su} {t : Trt.Tr} (hw : Trt.WfT t) {s : Tx} (hs : Trt.hasT t s = false) (i : Int) : allA L t s i = [] := by
  unfold allA
  have : Trt.belowT t s = [] := by
    unfold Trt.belowT
    rw [List.filter_eq_nil_iff.2]
    · rfl
    · intro e he hd
      rw [decide_eq_true_eq] at hd
      have := (hw.mem_path _ e he (Nat.le_refl _) s hd).1
      rw [hs] at this
      cases this
  rw [this]
  rfl
structure AllF (L : List Su) (t : Trt.Tr) (n : Nat) (X : List (En Bk)) (c : Nat) (lv : Hp) : Prop where
  mp : MpK X c
  vs : VecsL (fun b => allA L t b.1 b.2) X lv
  ks : ∀ s, Trt.hasT t s = true → ∀ k : Nat, k < n → (s, (k : Int)) ∈ X.map (·.1)
theorem AllF.none {L : List Su} {t : Trt.Tr} {n : Nat} {X : List (En Bk)} {c : Nat} {lv : Hp} (h : AllF L t n X c lv) (hw : Trt.WfT t) (hk : ∀ b ∈ L.map (·.1), 0 ≤ b.2 ∧ b.2 < (n : Int)) {b : Bk} (hb : b ∉ X.map (·.1)) : allA L t b.1 b.2 = [] := by
  obtain ⟨s, i⟩ := b
  by_cases hi : 0 ≤ i ∧ i < (n : Int)
  · cases hs : Trt.hasT t s
    · exact allA_none hw hs i
    · refine absurd ?_ hb
      have := h.ks s hs i.toNat (by omega)
      rwa [show ((i.toNat : Nat) : Int) = i by omega] at this
  · exact allA_out hk t s hi
def partL (t : Trt.Tr) (s : Tx) (cs : List Tx) : List Tx := s :: cs.flatMap (Trt.belowT t)
theorem sumL_flat (g : Tx → Int) (b : Tx → List Tx) : ∀ cs : List Tx, sumL g (cs.flatMap b) = sumL (fun c => sumL g (b c)) cs
  | [] => rfl
  | c :: cs => by rw [List.flatMap_cons, sumL_app, sumL, sumL_flat g b cs]
theorem below_len (t : Trt.Tr) (s : Tx) : (Trt.belowT t s).length ≤ t.length := by
  unfold Trt.belowT
  rw [List.length_map]
  exact List.length_filter_le _ _
theorem child_len (t : Trt.Tr) (s : Tx) : (Trt.childT t s).length ≤ t.length := by
  unfold Trt.childT
  rw [List.length_map]
  exact List.length_filter_le _ _
theorem part_len {t : Trt.Tr} (hl : t.length ≤ 200) (s : Tx) {cs : List Tx} (hc : cs.length ≤ 200) : (partL t s cs).length ≤ 40001 := by
  unfold partL
  rw [List.length_cons]
  have : ∀ cs : List Tx, (cs.flatMap (Trt.belowT t)).length ≤ cs.length * 200 := fun cs => by
    induction cs with
    | nil => simp
    | cons c cs ih =>
      rw [List.flatMap_cons, List.length_append, List.length_cons]
      have := below_len t c
      omega
  have := this cs
  omega
theorem part_next {t : Trt.Tr} {s c : Tx} {cs : List Tx} {i : Nat} (h : cs[i]? = some c) : partL t s (cs.take (i + 1)) = partL t s (cs.take i) ++ Trt.belowT t c := by
  unfold partL
  rw [List.take_add_one, h, List.flatMap_append]
  simp
section
variable {L : List Su} {f : Bk → Tx → Int} (h : SemA L f) {t : Trt.Tr} (hw : Trt.WfT t) (hl : t.length ≤ 200)
include h hl
theorem part_add {s c : Tx} {i : Int} {cs : List Tx} {k : Nat} {u : List Ent} (hk : cs[k]? = some c) (hc : cs.length ≤ 200) (hu : IsV u (fun n => sumL (fun x => f (x, i) n) (partL t s (cs.take k)))) :
    ∃ w, combV false u (allA L t c i) = (w, 0) ∧ IsV w (fun n => sumL (fun x => f (x, i) n) (partL t s (cs.take (k + 1)))) := by
  rw [part_next hk]
  have h1 := part_len hl s (cs := cs.take k) (by rw [List.length_take]; omega)
  have h2 := below_len t c
  exact h.add hu (h.all t (by omega) c i) (by omega)
include hw
theorem part_all {s : Tx} {i : Int} {u : List Ent} (hs : Trt.hasT t s = true) (hu : IsV u (fun n => sumL (fun x => f (x, i) n) (partL t s (Trt.childT t s)))) : u = allA L t s i := by
  refine hu.ext ((h.all t (by omega) s i).congr fun n => ?_)
  unfold partL
  rw [sumL, sumL_flat, below_split hw _ hs]
end
end Aut
end Go.Proofs.YtkjjlppfomidbaaGreat
/- Lmc: The landed table's sums of all, made from the deepest node on; conditions: at most 200 nodes, 20 scopes. -/
namespace Go.Proofs.YtkjjlppfomidbaaGreat
namespace Aut
open Go Go.RowKit Sx Vec Ojt Scp Lct
attribute [local irreducible] Go.Calls
structure AllP (L : List Su) (t : Trt.Tr) (n : Nat) (M : List Tx) (i j : Nat) (X : List (En Bk)) (c : Nat) (lv : Hp) : Prop where
  mp : MpK X c
  vs : VecsL (fun b => allA L t b.1 b.2) X lv
  k1 : ∀ s ∈ M.take i, ∀ k : Nat, k < n → (s, (k : Int)) ∈ X.map (·.1)
  k2 : ∀ s, M[i]? = some s → ∀ k : Nat, k < j → (s, (k : Int)) ∈ X.map (·.1)
section
variable {L : List Su} {t : Trt.Tr} {n : Nat} {M : List Tx} {i j : Nat} {X : List (En Bk)} {c : Nat} {lv : Hp}
theorem AllP.nil : AllP L t n M 0 0 [] 0 [] := ⟨MpK.new, (fun _ _ x hx => by cases hx), (fun s hs => by cases hs), fun _ _ k hk => by omega⟩
theorem AllP.next (h : AllP L t n M i n X c lv) : AllP L t n M (i + 1) 0 X c lv := by
  refine ⟨h.mp, h.vs, fun s hs k hk => ?_, fun _ _ k hk => by omega⟩
  rw [List.take_add_one, List.mem_append] at hs
  rcases hs with hs | hs
  · exact h.k1 s hs k hk
  · refine h.k2 s ?_ k hk
    cases hm : M[i]? with
    | none => rw [hm] at hs; cases hs
    | some z => rw [hm] at hs; rw [List.mem_singleton.1 hs]
theorem AllP.put {X' : List (En Bk)} {c' : Nat} {lu : Hp} {s : Tx} {u : Value} (h : AllP L t n M i j X c lv) (hs : M[i]? = some s) (h1 : MpK X' c') (h2 : ∀ y, y ∈ X'.map (·.1) ↔ y = (s, (j : Int)) ∨ y ∈ X.map (·.1)) (h3 : ∀ y ∈ X', (y ∈ X ∧ y.1 ≠ (s, (j : Int))) ∨ (y.1 = (s, (j : Int)) ∧ y.2.1 = u))
    (hu : ∀ w, Lies w lu → VecCap w u (allA L t s j)) : AllP L t n M i (j + 1) X' c' (lu ++ lv) := by
  refine ⟨h1, h.vs.up h3 (fun _ _ => rfl) hu, fun x hx k hk => (h2 _).2 (.inr (h.k1 x hx k hk)), fun x hx k hk => (h2 _).2 ?_⟩
  by_cases e : k = j
  · subst e
    rw [hs] at hx
    cases hx
    exact .inl rfl
  · exact .inr (h.k2 x hx k (by omega))
theorem AllP.done (h : AllP L t n M M.length 0 X c lv) (hM : DeepM t M) : AllF L t n X c lv := by
  refine ⟨h.mp, h.vs, fun s hs k hk => h.k1 s ?_ k hk⟩
  rw [List.take_length]
  obtain ⟨e, he, rfl⟩ := Trt.has_iff.1 hs
  exact hM.perm.mem_iff.2 (List.mem_map.2 ⟨e, he, rfl⟩)
theorem AllP.has (h : AllP L t n M i j X c lv) (hw : Trt.WfT t) (hM : DeepM t M) {s x : Tx} (hs : M[i]? = some s) (hx : x ∈ Trt.childT t s) {k : Nat} (hk : k < n) : (x, (k : Int)) ∈ X.map (·.1) := h.k1 x (hM.child hw hs hx) k hk
end
theorem lst_at {α : Type} {l : List α} {i : Nat} (h : i < l.length) : ∃ x, l[i]? = some x := ⟨_, List.getElem?_eq_getElem h⟩
set_option maxHeartbeats 64000000 in
set_option maxRecDepth 20000 in
theorem added_ok {scs : List (List Trm)} {L : List Su} {gl : Nat} {lg : Hp} (hLo : LLo scs L gl lg) (hsm : Small L) {f : Bk → Tx → Int} (hL : SemA L f) {t : Trt.Tr} {gt : Nat} {lt : Hp} (hT : Trt.LTr t gt lt) (hF : Trt.FitT t) {n : Nat} (hn : n ≤ 20) (w : World) (hlg : Lies w lg) (hlt : Lies w lt) :
    Calls Tryz.prog 36 #[.pointer (some ⟨gl, 0, none⟩), .pointer (some ⟨gt, 0, none⟩), I n] w fun e w' => ∃ r, e = .returned (.tuple #[r, I 0]) ∧ NewD (fun r l => ∃ mb X c lv, r = .map (some mb) ∧ l = (mb, mapO encB X c) :: lv ∧ AllF L t n X c lv) w w' r := by
  have hwt := hF.wf
  have h200 := hF.len
  have hdf := fun w' (hb : Below w.heap.size w w') => deep_ok hT hF (hlt.below hb)
  refine calls2 (args := [.pointer (some ⟨gl, 0, none⟩), .pointer (some ⟨gt, 0, none⟩), I n]) Tryz.func36 rfl rfl rfl rfl ?_
  repeat' (first | refine aw_seq ?_ | ((first | apply ao_val | apply aq_val); exact wants_a; (first | exact ov_lenr rfl (by assumption) | exact ov_a); (exact rfl)) | refine zy ?_ | refine zon fun _ => ?_ | refine zoa fun vr lr hr => ?_ | (apply ao_new; exact wants_a; exact on_makeMap; exact rfl; intro mb) | ((apply ao_callD; exact wants_a; (exact oc_func rfl); (exact rfl); (intro w hw; exact hdf w hw.below); rintro vM lM ⟨M, hM, hrM⟩)) | refine zoS (fun _ => ?_) (fun _ => ?_) | refine zqS (fun _ => ?_) (fun _ => ?_) | refine zwS (fun _ => ?_) (fun _ => ?_))
  have hMl : M.length = t.length := by rw [hM.perm.length_eq, List.length_map]
  refine aw_for (t0 := [(0, .pointer (some ⟨gl, 0, none⟩)), (1, .pointer (some ⟨gt, 0, none⟩)), (2, I n), (8, .map (some mb)), (9, I 0), (19, vM), (20, I M.length), (21, I (0 : Nat))]) (fun q tm H => ∃ (i : Nat) (X : List (En Bk)) (c : Nat) (lv : Hp), q = M.length - i ∧ i ≤ M.length ∧ AllP L t n M i 0 X c lv ∧
      tm = [(0, .pointer (some ⟨gl, 0, none⟩)), (1, .pointer (some ⟨gt, 0, none⟩)), (2, I n), (8, .map (some mb)), (9, I 0), (19, vM), (20, I M.length), (21, I i)] ∧ H.Perm ((mb, mapO encB X c) :: (lv ++ (lM ++ []))))
    ⟨0, [], 0, [], rfl, Nat.zero_le _, AllP.nil, rfl, List.Perm.trans (l₂ := lM ++ ((mb, mapO encB [] 0) :: [])) (List.Perm.refl _) (by classical exact List.perm_iff_count.2 fun z => by simp only [List.count_append, List.count_cons, List.count_nil]; omega)⟩ (by repeat (first | exact sub_nil | refine sub_cons rfl ?_)) ?_
  rintro q tm H ⟨i, X, c, lv, rfl, hi, hP, rfl, hp⟩
  refine aw_permH hp ?_
  clear hp
  by_cases hlt1 : i < M.length
  · obtain ⟨s, hs⟩ := lst_at hlt1
    have hsT : Trt.hasT t s = true := by
      obtain ⟨e, he, e1⟩ := List.mem_map.1 (hM.perm.mem_iff.1 (List.mem_of_getElem? hs))
      exact Trt.has_iff.2 ⟨e, he, e1⟩
    obtain ⟨gM, cM, csM, e1, e2, hcM⟩ := RowB.cells Trt.cells1_len hrM hs
    have cX : csM[0 + (i : Int).toNat * 1]? = some (S s) := hcM 0 _ rfl
    subst e1
    subst e2
    have hch := fun w' (hb : Below w.heap.size w w') => Trt.tchild_ok hT hF s w' (hlt.below hb)
    have hcl := child_len t s
    generalize hcs : Trt.childT t s = cs at hch hcl
    repeat' (first | refine aw_seq ?_ | refine zz ?_ | refine zon fun _ => ?_ | refine zoa fun vr lr hr => ?_ | (apply ao_callr; exact wants_a; (exact oc_func rfl); (exact rfl); (first | exact fun w hw => hch w hw.below); intro vr lr hr) | refine zoS (fun _ => ?_) (fun _ => ?_) | refine zqS (fun _ => ?_) (fun _ => ?_) | refine zwS (fun _ => ?_) (fun _ => ?_))
    revert vr lr hr
    intro vC lC hrC
    refine aw_for (t0 := [(0, .pointer (some ⟨gl, 0, none⟩)), (1, .pointer (some ⟨gt, 0, none⟩)), (2, I n), (8, .map (some mb)), (9, I 0), (11, S s), (12, vC), (19, .slice (some ⟨gM, 0, none⟩) M.length cM), (20, I M.length), (21, I i), (28, I n), (29, I (0 : Nat))]) (fun q tm H => ∃ (j : Nat) (X : List (En Bk)) (c : Nat) (lv : Hp), q = n - j ∧ j ≤ n ∧ AllP L t n M i j X c lv ∧
        tm = [(0, .pointer (some ⟨gl, 0, none⟩)), (1, .pointer (some ⟨gt, 0, none⟩)), (2, I n), (8, .map (some mb)), (9, I 0), (11, S s), (12, vC), (19, .slice (some ⟨gM, 0, none⟩) M.length cM), (20, I M.length), (21, I i), (28, I n), (29, I j)] ∧ H.Perm ((mb, mapO encB X c) :: (lv ++ (lC ++ [(gM, .cells csM.toArray 9 (0, 0))]))))
      ⟨0, X, c, lv, rfl, Nat.zero_le _, hP, rfl, by classical exact List.perm_iff_count.2 fun z => by simp only [List.count_append, List.count_cons, List.count_nil]; omega⟩ (by repeat (first | exact sub_nil | refine sub_cons rfl ?_)) ?_
    clear hP
    rintro q tm H ⟨j, X, c, lv, rfl, hj, hP, rfl, hp⟩
    refine aw_permH hp ?_
    clear hp
    by_cases hlt2 : j < n
    · have hsu := fun w' (hb : Below w.heap.size w w') => losum_ok hLo hsm s (j : Int) w' (hlg.below hb)
      have hI0 : IsV (getS L (s, (j : Int))) (fun m => sumL (fun x => f (x, (j : Int)) m) (partL t s (cs.take 0))) := hL.single s (j : Int)
      generalize getS L (s, (j : Int)) = es0 at hsu hI0
      repeat' (first | refine aw_seq ?_ | ((first | apply ao_val | apply aq_val); exact wants_a; (first | exact ov_lenr rfl hrC | exact ov_a); (exact rfl)) | refine zy ?_ | refine zon fun _ => ?_ | refine zoa fun vr lr hr => ?_ | (apply ao_callr; exact wants_a; (exact oc_func rfl); (exact rfl); (first | exact fun w hw => hsu w hw.below); intro vr lr hr) | refine zoS (fun _ => ?_) (fun _ => ?_) | refine zqS (fun _ => ?_) (fun _ => ?_) | refine zwS (fun _ => ?_) (fun _ => ?_))
      refine aw_for (t0 := [(0, .pointer (some ⟨gl, 0, none⟩)), (1, .pointer (some ⟨gt, 0, none⟩)), (2, I n), (8, .map (some mb)), (9, I 0), (11, S s), (12, vC), (13, I j), (14, vr), (19, .slice (some ⟨gM, 0, none⟩) M.length cM), (20, I M.length), (21, I i), (28, I n), (29, I j), (36, vC), (37, I cs.length), (38, I (0 : Nat))]) (fun q tm H => ∃ (k : Nat) (vs : Value) (ls : Hp) (es : List Ent), q = cs.length - k ∧ k ≤ cs.length ∧ RowB 96 3 vs ls es.length (vcells es) ∧
          IsV es (fun m => sumL (fun x => f (x, (j : Int)) m) (partL t s (cs.take k))) ∧ tm = [(0, .pointer (some ⟨gl, 0, none⟩)), (1, .pointer (some ⟨gt, 0, none⟩)), (2, I n), (8, .map (some mb)), (9, I 0), (11, S s), (12, vC), (13, I j), (14, vs), (19, .slice (some ⟨gM, 0, none⟩) M.length cM), (20, I M.length), (21, I i), (28, I n), (29, I j), (36, vC), (37, I cs.length), (38, I k)] ∧ H = ls ++ ((mb, mapO encB X c) :: (lv ++ (lC ++ [(gM, .cells csM.toArray 9 (0, 0))]))))
        ⟨0, vr, lr, es0, rfl, Nat.zero_le _, hr, hI0, rfl, rfl⟩ (by repeat (first | exact sub_nil | refine sub_cons rfl ?_)) ?_
      clear hr hI0
      rintro q tm H ⟨k, vs, ls, es, rfl, hk, hrs, hIs, rfl, rfl⟩
      by_cases hlt3 : k < cs.length
      · obtain ⟨x, hx⟩ := lst_at hlt3
        obtain ⟨gC, cC, csC, e1, e2, hcC⟩ := RowB.cells Trt.cells1_len hrC hx
        have cX2 : csC[0 + (k : Int).toNat * 1]? = some (S x) := hcC 0 _ rfl
        subst e1
        subst e2
        obtain ⟨x1, x2⟩ := hP.mp.fnd (x, (j : Int))
        have hv := fun w' (hl : Lies w' lv) => x1 hP.vs hl
        simp only [if_pos (hP.has hwt hM hs (by rw [hcs]; exact List.mem_of_getElem? hx) hlt2)] at hv
        obtain ⟨es2, hc2, hI2⟩ := part_add hL h200 hx (by omega) hIs
        have hw1 := hL.wf hIs (by have := part_len h200 s (cs := cs.take k) (by rw [List.length_take]; omega); omega)
        have hw2 := hL.wf (hL.all t (by omega) x (j : Int)) (by have := below_len t x; omega)
        have hadd := fun u w' h1 h2 => padd_ok vs u es (allA L t x (j : Int)) hw1.1 hw2.1 (by omega) (by omega) w' h1 h2
        simp only [hc2] at hadd
        generalize valB X (x, (j : Int)) = u at x2 hv
        generalize allA L t x (j : Int) = fs at hv hadd
        clear x1
        repeat' (first | refine aw_seq ?_ | ((first | apply ao_val | apply aq_val); exact wants_a; (first | exact x2 false rfl rfl (mapAt_has has_a) | exact ov_a); (exact rfl)) | refine zy ?_ | refine zon fun _ => ?_ | refine zoa fun vr lr hr => ?_ | (apply ao_callr2; exact wants_a; (exact oc_func rfl); (exact rfl); (first | exact fun w hw => hadd _ w (old_cap (lies_of hw (l := ls) cut_a) hrs) (hv w (lies_of hw (l := lv) cut_a))); intro vr lr hr) | refine zoS (fun _ => ?_) (fun _ => ?_) | refine zqS (fun _ => ?_) (fun _ => ?_) | refine zwS (fun _ => ?_) (fun _ => ?_))
        exact lq_normal' (H' := lr ++ ((mb, mapO encB X c) :: (lv ++ ([(gC, .cells csC.toArray 9 (0, 0))] ++ [(gM, .cells csM.toArray 9 (0, 0))])))) ⟨k + 1, vr, lr, es2, rfl, by omega, hr, hI2, rfl, rfl⟩ (by omega) (by repeat (first | exact sub_nil | refine sub_cons rfl ?_)) hsub_a
      · obtain rfl : k = cs.length := by omega
        rw [List.take_length, ← hcs] at hIs
        obtain rfl := part_all hL hwt h200 hsT hIs
        obtain ⟨X', c', h1, h2, h3, hup⟩ := hP.mp.upd (s, (j : Int)) vs (enc := encB) (mt := 78) (kt := 52) (et := 48)
        repeat' (first | refine aw_seq ?_ | refine zz ?_ | refine zon fun _ => ?_ | refine zoa fun vr lr hr => ?_ | ((apply ao_store; exact wants_a; (exact hup rfl rfl rfl (mapAt_has has_a)); exact upd_a)) | refine zoS (fun _ => ?_) (fun _ => ?_) | refine zqS (fun _ => ?_) (fun _ => ?_) | refine zwS (fun _ => ?_) (fun _ => ?_))
        exact lq_normal' (H' := ls ++ ((mb, mapO encB X' c') :: (lv ++ (lC ++ [(gM, .cells csM.toArray 9 (0, 0))])))) ⟨j + 1, X', c', ls ++ lv, rfl, by omega, hP.put hs h1 h2 h3 (fun w' hl => old_cap hl hrs), rfl, by classical exact List.perm_iff_count.2 fun z => by simp only [List.count_append, List.count_cons, List.count_nil]; omega⟩ (by omega) (by repeat (first | exact sub_nil | refine sub_cons rfl ?_)) hsub_a
    · obtain rfl : j = n := by omega
      repeat' (first | refine aw_seq ?_ | refine zz ?_ | refine zon fun _ => ?_ | refine zoa fun vr lr hr => ?_ | refine zoS (fun _ => ?_) (fun _ => ?_) | refine zqS (fun _ => ?_) (fun _ => ?_) | refine zwS (fun _ => ?_) (fun _ => ?_))
      exact lq_normal' (H' := (mb, mapO encB X c) :: (lv ++ ([(gM, .cells csM.toArray 9 (0, 0))] ++ []))) ⟨i + 1, X, c, lv, rfl, by omega, hP.next, rfl, List.Perm.refl _⟩ (by omega) (by repeat (first | exact sub_nil | refine sub_cons rfl ?_)) hsub_a
  · obtain rfl : i = M.length := by omega
    repeat' (first | refine aw_seq ?_ | refine zz ?_ | refine zon fun _ => ?_ | refine zoa fun vr lr hr => ?_ | refine zoS (fun _ => ?_) (fun _ => ?_) | refine zqS (fun _ => ?_) (fun _ => ?_) | refine zwS (fun _ => ?_) (fun _ => ?_))
    exact fun w' hw => ⟨_, rfl, hw.toD rfl (l := (mb, mapO encB X c) :: lv) (R := lM ++ []) (List.Perm.refl _) ⟨mb, X, c, lv, rfl, rfl, hP.done hM⟩⟩
end Aut
end Go.Proofs.YtkjjlppfomidbaaGreat
