/- What a tree is: its nodes, with their parents; paths; conditions: none. -/
import Derived.Test.YtkjjlppfomidbaaGreatBord
import Derived.Test.YtkjjlppfomidbaaGreatSxn
import Derived.Shelf.Sort.Plain
import Derived.Shelf.Slices.In.SortNone
import Derived.Test.YtkjjlppfomidbaaGreatShelf
/- Tra: What a tree is: its nodes, with their parents; paths; conditions: none. -/
namespace Go.Proofs.YtkjjlppfomidbaaGreat
namespace Trt
open Go
theorem getP {α : Type} {l : List α} {i : Nat} (h : i < l.length) : ∃ a, l[i]? = some a := ⟨_, List.getElem?_eq_getElem h⟩
abbrev Nm := List UInt8
abbrev Tr := List (Nm × Nm)
def rootN : Nm := [114, 111, 111, 116]
def hasT (t : Tr) (s : Nm) : Bool := t.any fun e => decide (e.1 = s)
def parT (t : Tr) (s : Nm) : Nm := match t.find? fun e => decide (e.1 = s) with | some e => e.2 | none => []
def pathN (t : Tr) : Nat → Nm → List Nm
  | 0, _ => []
  | k + 1, s => if hasT t s = true then s :: pathN t k (parT t s) else []
def pathT (t : Tr) (s : Nm) : List Nm := pathN t 9 s
def childT (t : Tr) (s : Nm) : List Nm := (t.filter fun e => decide (e.2 = s) && decide (e.1 ≠ rootN)).map (·.1)
def belowT (t : Tr) (s : Nm) : List Nm := (t.filter fun e => decide (s ∈ pathT t e.1)).map (·.1)
theorem has_iff {t : Tr} {s : Nm} : hasT t s = true ↔ ∃ e ∈ t, e.1 = s := by
  unfold hasT
  rw [List.any_eq_true]
  simp
theorem pathN_stop (t : Tr) : ∀ k s, (pathN t k s).length < k → ∀ m, k ≤ m → pathN t m s = pathN t k s
  | 0, _, h, _, _ => absurd h (Nat.not_lt_zero _)
  | k + 1, s, h, m, hm => by
    obtain ⟨n, rfl⟩ : ∃ n, m = n + 1 := ⟨m - 1, by omega⟩
    unfold pathN at h ⊢
    by_cases hs : hasT t s = true
    · rw [if_pos hs] at h ⊢
      rw [if_pos hs, pathN_stop t k _ (by rw [List.length_cons] at h; omega) n (by omega)]
    · rw [if_neg hs, if_neg hs]
structure WfT (t : Tr) : Prop where
  rise : t.Pairwise fun a b => Op.bytesLess a.1 b.1 = true
  root : (rootN, []) ∈ t
  ne : ∀ e ∈ t, e.1 ≠ []
  up : ∀ e ∈ t, e.1 ≠ rootN → hasT t e.2 = true
  deep : ∀ e ∈ t, (pathT t e.1).length ≤ 8
section
variable {t : Tr} (h : WfT t)
include h
theorem WfT.inj {a b : Nm × Nm} (ha : a ∈ t) (hb : b ∈ t) (e : a.1 = b.1) : a = b := by
  obtain ⟨i, hi⟩ := List.getElem?_of_mem ha
  obtain ⟨j, hj⟩ := List.getElem?_of_mem hb
  obtain ⟨hi1, hi2⟩ := List.getElem?_eq_some_iff.1 hi
  obtain ⟨hj1, hj2⟩ := List.getElem?_eq_some_iff.1 hj
  have hp := List.pairwise_iff_getElem.1 h.rise
  rcases Nat.lt_trichotomy i j with hlt | rfl | hlt
  · have := hp i j hi1 hj1 hlt
    rw [hi2, hj2, e, Bord.bl_irrefl] at this
    cases this
  · rw [hi] at hj; exact Option.some.inj hj
  · have := hp j i hj1 hi1 hlt
    rw [hi2, hj2, e, Bord.bl_irrefl] at this
    cases this
theorem WfT.par {e : Nm × Nm} (he : e ∈ t) : parT t e.1 = e.2 := by
  unfold parT
  cases hf : t.find? fun x => decide (x.1 = e.1) with
  | none =>
    rw [List.find?_eq_none] at hf
    exact absurd (decide_eq_true rfl) (hf e he)
  | some x =>
    have hx := List.mem_of_find?_eq_some hf
    have hk := List.find?_some hf
    rw [decide_eq_true_eq] at hk
    rw [h.inj hx he hk]
omit h in
theorem par_none {s : Nm} (hs : hasT t s = false) : parT t s = [] := by
  unfold parT
  have : t.find? (fun x => decide (x.1 = s)) = none := by
    rw [List.find?_eq_none]
    intro x hx hk
    have : hasT t s = true := has_iff.2 ⟨x, hx, of_decide_eq_true hk⟩
    rw [hs] at this
    cases this
  rw [this]
theorem WfT.no_nil : hasT t [] = false := by
  cases hs : hasT t []
  · rfl
  · obtain ⟨e, he, h0⟩ := has_iff.1 hs
    exact absurd h0 (h.ne e he)
omit h in
theorem path_none {s : Nm} (hs : hasT t s = false) : pathT t s = [] := by
  unfold pathT pathN
  rw [if_neg (by rw [hs]; decide)]
theorem WfT.path {e : Nm × Nm} (he : e ∈ t) : pathT t e.1 = e.1 :: pathT t e.2 := by
  have hs : hasT t e.1 = true := has_iff.2 ⟨e, he, rfl⟩
  have hd := h.deep e he
  have h1 : pathT t e.1 = e.1 :: pathN t 8 e.2 := by
    show pathN t (8 + 1) e.1 = _
    rw [pathN, if_pos hs, h.par he]
  rw [h1] at hd ⊢
  rw [List.length_cons] at hd
  unfold pathT
  rw [pathN_stop t 8 e.2 (by omega) 9 (by omega)]
theorem WfT.path_root : pathT t rootN = [rootN] := by
  have := h.path h.root
  simp only at this
  rw [this, path_none h.no_nil]
theorem WfT.mem_path : ∀ n, ∀ e ∈ t, (pathT t e.1).length ≤ n → ∀ s ∈ pathT t e.1, hasT t s = true ∧ (pathT t s).length ≤ (pathT t e.1).length ∧ (s ≠ e.1 → (pathT t s).length < (pathT t e.1).length)
  | 0, e, he, hl, s, hs => by
    rw [h.path he, List.length_cons] at hl
    omega
  | n + 1, e, he, hl, s, hs => by
    have hp := h.path he
    rw [hp] at hs
    rcases List.mem_cons.1 hs with rfl | hs
    · exact ⟨has_iff.2 ⟨e, he, rfl⟩, Nat.le_refl _, fun h => absurd rfl h⟩
    · by_cases hh : hasT t e.2 = true
      · obtain ⟨x, hx, hxe⟩ := has_iff.1 hh
        rw [← hxe] at hs
        rw [hp, List.length_cons, ← hxe] at hl ⊢
        obtain ⟨h1, h2, -⟩ := WfT.mem_path n x hx (by omega) s hs
        exact ⟨h1, by omega, fun _ => by omega⟩
      · rw [path_none (by simpa using hh)] at hs
        cases hs
theorem WfT.nodup : ∀ n, ∀ e ∈ t, (pathT t e.1).length ≤ n → (pathT t e.1).Nodup
  | 0, e, he, hl => by
    rw [h.path he, List.length_cons] at hl
    omega
  | n + 1, e, he, hl => by
    have hp := h.path he
    rw [hp, List.nodup_cons]
    by_cases hh : hasT t e.2 = true
    · obtain ⟨x, hx, hxe⟩ := has_iff.1 hh
      rw [hp, List.length_cons, ← hxe] at hl
      rw [← hxe]
      refine ⟨fun hm => ?_, WfT.nodup n x hx (by omega)⟩
      have := (h.mem_path n x hx (by omega) e.1 hm).2.1
      rw [hp, List.length_cons, ← hxe] at this
      omega
    · rw [path_none (by simpa using hh)]
      exact ⟨(fun h => by cases h), List.nodup_nil⟩
end
end Trt
end Go.Proofs.YtkjjlppfomidbaaGreat
/- Txa: Lists of texts, as several layers have them: In, Texts; conditions: at most 100,000 texts. -/
namespace Go.Proofs.YtkjjlppfomidbaaGreat
namespace Trt
open Go Go.RowKit Sx
attribute [local irreducible] Go.Calls
def cells1 (s : Nm) : List Value := [S s]
theorem cells1_len (s : Nm) : (cells1 s).length = 1 := rfl
theorem row1 {v : Value} {l : Hp} {ks : List Nm} {k : Nm} {e : TypeId} (h : RowB e 1 v l (ks.length + 1) (ks.flatMap cells1 ++ [S k])) : RowB e 1 v l (ks ++ [k]).length ((ks ++ [k]).flatMap cells1) := by
  rw [List.length_append, List.flatMap_append]
  exact h
set_option maxHeartbeats 8000000 in
theorem rin_ok (l : List Nm) (hl : l.length ≤ 100000) (s : Nm) (v : Value) (w : World) (hv : OldRow w 1 v l.length (l.flatMap cells1)) :
    Calls Tryz.prog 25 #[v, S s] w fun e w' => e = .returned (.bool (decide (s ∈ l))) ∧ Below w.heap.size w w' := by
  obtain ⟨a, cp, rfl, hat⟩ := OldRow.cells cells1_len hv
  refine calls1 (args := [.slice a l.length cp, S s]) Tryz.func25 rfl rfl rfl rfl ?_
  repeat' (first | refine aw_seq ?_ | refine zz ?_ | refine zon fun _ => ?_ | refine zoa fun vr lr hr => ?_ | refine zoS (fun _ => ?_) (fun _ => ?_) | refine zqS (fun _ => ?_) (fun _ => ?_) | refine zwS (fun _ => ?_) (fun _ => ?_))
  refine aw_for (t0 := [(0, .slice a l.length cp), (1, S s), (5, I (0 : Nat))]) (fun q tm H => ∃ i : Nat, q = l.length - i ∧ i ≤ l.length ∧ (∀ (j : Nat) (e : Nm), j < i → l[j]? = some e → e ≠ s) ∧ tm = [(0, .slice a l.length cp), (1, S s), (5, I i)] ∧ H = []) ⟨0, rfl, by omega, fun j e hj => by omega, rfl, rfl⟩ (by repeat (first | exact sub_nil | refine sub_cons rfl ?_)) ?_
  rintro q tm H ⟨i, rfl, hi, hall, rfl, rfl⟩
  by_cases hlt : i < l.length
  · obtain ⟨n, he⟩ := getP hlt
    obtain ⟨g1, o1, rfl, hg, hc⟩ := hat i _ (i : Int) he rfl
    have cN : w.cell? ⟨g1, o1 + (i : Int).toNat * 1, none⟩ = some (S n) := hc 0 _ rfl
    by_cases hk : n = s
    · rw [decide_eq_true (hk ▸ List.mem_of_getElem? he)]
      have ek : (n == s) = true := beq_iff_eq.2 hk
      repeat' (first | refine aw_seq ?_ | refine zz ?_ | refine zon fun _ => ?_ | refine zoa fun vr lr hr => ?_ | refine zoS (fun _ => ?_) (fun _ => ?_) | refine zqS (fun _ => ?_) (fun _ => ?_) | refine zwS (fun _ => ?_) (fun _ => ?_))
      exact fun w' hw => ⟨rfl, hw.below⟩
    · have ek : (n == s) = false := beq_eq_false_iff_ne.2 hk
      repeat' (first | refine aw_seq ?_ | refine zz ?_ | refine zon fun _ => ?_ | refine zoa fun vr lr hr => ?_ | refine zoS (fun _ => ?_) (fun _ => ?_) | refine zqS (fun _ => ?_) (fun _ => ?_) | refine zwS (fun _ => ?_) (fun _ => ?_))
      exact lq_normal' ⟨i + 1, rfl, by omega, fun j e hj hje => by
        by_cases e1 : j = i
        · subst e1; rw [he] at hje; cases hje; exact hk
        · exact hall j e (by omega) hje, rfl, rfl⟩ (by omega) (by repeat (first | exact sub_nil | refine sub_cons rfl ?_)) hsub_a
  · obtain rfl : i = l.length := by omega
    rw [decide_eq_false fun h => by
      obtain ⟨j, hj⟩ := List.getElem?_of_mem h
      exact hall j s (List.getElem?_eq_some_iff.1 hj).1 hj rfl]
    repeat' (first | refine aw_seq ?_ | refine zz ?_ | refine zon fun _ => ?_ | refine zoa fun vr lr hr => ?_ | refine zoS (fun _ => ?_) (fun _ => ?_) | refine zqS (fun _ => ?_) (fun _ => ?_) | refine zwS (fun _ => ?_) (fun _ => ?_))
    exact fun w' hw => ⟨rfl, hw.below⟩
end Trt
end Go.Proofs.YtkjjlppfomidbaaGreat
/- Txs: The library's sort of texts over a row of the call's own; conditions: fewer than 2^62 texts. -/
namespace Go.Proofs.YtkjjlppfomidbaaGreat
namespace Trt
open Go Go.RowKit Go.Sort Go.Shelf Sx
theorem bl_lt : ∀ a b : Nm, Op.bytesLess a b = true ↔ a < b
  | _, [] => by simp [Op.bytesLess]
  | [], y :: b => by simp [Op.bytesLess]
  | x :: a, y :: b => by
    rw [List.cons_lt_cons_iff]
    simp only [Op.bytesLess, Bool.or_eq_true, decide_eq_true_eq, Bool.and_eq_true, beq_iff_eq, bl_lt a b]
abbrev leN (x y : Nm) : Bool := decide (x ≤ y)
theorem leN_iff (x y : Nm) : leN x y = true ↔ Op.bytesLess y x = false := by
  unfold leN
  rw [decide_eq_true_eq, ← List.not_lt, ← bl_lt]
  simp
theorem leN_of {x y : Nm} (h : Op.bytesLess x y = true) : leN x y = true := (leN_iff x y).2 (Bord.bl_asymm x y h)
theorem leN_anti {x y : Nm} (h : leN x y = true) (g : leN y x = true) : x = y := Bord.bl_total _ _ ((leN_iff y x).1 g) ((leN_iff x y).1 h)
theorem leN_trans (x y z : Nm) (h : leN x y = true) (g : leN y z = true) : leN x z = true := by
  rw [leN_iff] at *
  cases hzx : Op.bytesLess z x
  · rfl
  · cases hyz : Op.bytesLess y z
    · have := Bord.bl_total _ _ hyz g
      subst this
      rw [h] at hzx; cases hzx
    · rw [Bord.bl_trans _ _ _ hyz hzx] at h; cases h
theorem leN_total (x y : Nm) : (leN x y || leN y x) = true := by
  rw [Bool.or_eq_true, leN_iff, leN_iff]
  cases h : Op.bytesLess y x
  · exact .inl rfl
  · exact .inr (Bord.bl_asymm _ _ h)
abbrev srtN (ks : List Nm) : List Nm := ks.mergeSort leN
theorem srt_eq {ks ms : List Nm} (hp : ks.Perm ms) (hs : ms.Pairwise fun a b => Op.bytesLess a b = true) : srtN ks = ms :=
  List.Perm.eq_of_pairwise (le := fun a b => leN a b = true) (fun _ _ _ _ h g => leN_anti h g) (List.pairwise_mergeSort leN_trans leN_total ks) (hs.imp leN_of) ((List.mergeSort_perm ks leN).trans hp)
theorem srt_len (ks : List Nm) : (srtN ks).length = ks.length := (List.mergeSort_perm ks leN).length_eq
theorem rep_grow1 {E : Env} {H : Hp} {w : World} (h : RepH E H w) (n : Nat) (os : Array Obj) : RepH E H (grow (Sort.ahead w n) os) := by
  refine ⟨⟨h.below.os, h.below.tape, h.below.output, ?_, fun k hk => ?_⟩, h.base, h.nodup, fun b o hm => ?_⟩
  · rw [size_grow]
    exact Nat.le_trans h.below.size (Nat.le_add_right _ _)
  · have hlt : k < w.heap.size := Nat.lt_of_lt_of_le hk (Nat.le_trans h.base h.below.size)
    rw [heap_grow_old (Sort.ahead w n) _ hlt]
    exact h.below.block k hk
  · obtain ⟨h1, h2⟩ := h.at_ b o hm
    refine ⟨h1, ?_⟩
    rw [heap_grow_old (Sort.ahead w n) _ (Array.getElem?_eq_some_iff.1 h2).1]
    exact h2
theorem modify_at1 {a : Array Obj} {g : Nat} {c : Array Value} {T : TypeId} {fz : Nat × Nat} (h : a[g]? = some (.cells c T fz)) (f : Array Value → Array Value) : a.modify g (onCells f) = a.setIfInBounds g (.cells (f c) T fz) := by
  apply Array.ext_getElem?
  intro i
  rw [Array.getElem?_modify, Array.getElem?_setIfInBounds]
  by_cases e : g = i
  · subst e
    rw [if_pos rfl, if_pos rfl, h, if_pos (Array.getElem?_eq_some_iff.1 h).1]
    rfl
  · rw [if_neg e, if_neg e]
theorem flat_map1 (ks : List Nm) : ks.flatMap cells1 = ks.map encStr := by
  induction ks with
  | nil => rfl
  | cons a l ih => rw [List.flatMap_cons, ih]; rfl
theorem put_take1 (ks : List Nm) (cs : List Value) (hl : ks.length ≤ cs.length) : ((putCells encStr 0 ks.toArray cs.toArray).toList).take ks.length = ks.map encStr := by
  apply List.ext_getElem?
  intro j
  by_cases hj : j < ks.length
  · rw [List.getElem?_take_of_lt hj, List.getElem?_map, List.getElem?_eq_getElem hj]
    unfold putCells
    rw [Array.getElem?_toList, Array.getElem?_mapIdx]
    have h0 : cs.toArray[j]? = some (cs[j]'(by omega)) := by
      rw [List.getElem?_toArray]
      exact List.getElem?_eq_getElem _
    rw [h0]
    simp only [Option.map_some, Nat.zero_le, true_and, Nat.zero_add, Nat.sub_zero, List.size_toArray]
    rw [if_pos hj, getElem!_pos ks.toArray j (by simpa using hj)]
    simp
  · rw [List.getElem?_eq_none (by rw [List.length_take]; omega), List.getElem?_eq_none (by rw [List.length_map]; omega)]
theorem sortS_of {P : Program} {E : Env} {f : FuncId}
    (hc : ∀ (blk off cap : Nat) (ss : List Nm) (w : World), Holds encStr w blk off ss.toArray → blk < w.heap.size → ss.length < 4611686018427387904 → Calls P f #[.slice (some ⟨blk, off, none⟩) ss.length cap] w fun e w' => e = .returned (.tuple #[]) ∧ ∃ n os, w' = grow (putRow encStr (Sort.ahead w n) blk off (ss.mergeSort fun x y => decide (x ≤ y)).toArray) os)
    (hn : ∀ (p : Option Addr) (cap : Nat) (w : World), Calls P f #[.slice p 0 cap] w fun e w' => e = .returned (.tuple #[]) ∧ w' = w)
    {T : TypeId} {v : Value} {l : Hp} (ks : List Nm) (hr : RowB T 1 v l ks.length (ks.flatMap cells1)) (hsz : ks.length ≤ 100000) (R : Hp) :
    CallsH P E f [v] (l ++ R) fun u H' => u = .tuple #[] ∧ ∃ l' : Hp, H' = l' ++ R ∧ RowB T 1 v l' (srtN ks).length ((srtN ks).flatMap cells1) := by
  intro hid w hh
  rcases Nat.eq_zero_or_pos ks.length with h0 | hpos
  · have he : ks = [] := List.eq_nil_of_length_eq_zero h0
    subst he
    obtain ⟨p, cap, hv⟩ : ∃ p cap, v = .slice p 0 cap := by
      rcases hr.2 with ⟨rfl, -, -⟩ | ⟨_, _, _, rfl, _⟩
      · exact ⟨_, _, rfl⟩
      · exact ⟨_, _, rfl⟩
    subst hv
    refine (hn p cap w).mono fun e w' ⟨h2, h3⟩ => ⟨_, l ++ R, h2, by rw [h3]; exact hh, rfl, l, rfl, ?_⟩
    rw [show srtN [] = [] from List.mergeSort_nil]
    exact hr
  · obtain ⟨b, cap, cs, rfl, rfl, h3, h4, h5⟩ := hr.open hpos
    rw [Nat.mul_one] at h4 h5
    rw [flat_map1] at h5
    have hb : Has ((b, .cells cs.toArray T (0, 0)) :: (R ++ hid)) b (.cells cs.toArray T (0, 0)) := Has.head
    have hg := (hh.has hb).2
    have hblk : b < w.heap.size := (Array.getElem?_eq_some_iff.1 hg).1
    have hH : Holds encStr w b 0 ks.toArray := fun j hj => by
      rw [List.size_toArray] at hj
      have h1 : (ks.map encStr)[j]? = some (encStr ks[j]) := by rw [List.getElem?_map, List.getElem?_eq_getElem hj]; rfl
      rw [← h5, List.getElem?_take_of_lt hj] at h1
      constructor
      · simp only [World.cell?, hg, Nat.zero_add]
        rw [getElem!_pos ks.toArray j (by simpa using hj)]
        simpa using h1
      · simp [World.frozen?, hg]
    refine (hc b 0 cap ks w hH hblk (by omega)).mono fun e w' ⟨he, n, os, hw⟩ => ?_
    have hsl := srt_len ks
    have h1 := rep_grow1 (hh.upd (Upd.head b _ (.cells (putCells encStr 0 (srtN ks).toArray cs.toArray) T (0, 0)) (R ++ hid))) n os
    have e1 : mapBlock (Sort.ahead w n) b (putCells encStr 0 (srtN ks).toArray) = Sort.ahead { w with heap := w.heap.setIfInBounds b (.cells (putCells encStr 0 (srtN ks).toArray cs.toArray) T (0, 0)) } n := by
      unfold mapBlock Sort.ahead
      rw [modify_at1 (a := w.heap) hg]
    refine ⟨.tuple #[], (b, .cells (putCells encStr 0 (srtN ks).toArray cs.toArray) T (0, 0)) :: R, he, ?_, rfl, [(b, .cells (putCells encStr 0 (srtN ks).toArray cs.toArray) T (0, 0))], rfl, ?_⟩
    · rw [hw]
      unfold putRow
      rw [show (fun x y : Nm => decide (x ≤ y)) = leN from rfl, e1]
      exact h1
    · have ht := put_take1 (srtN ks) cs (by omega)
      have hlen : (putCells encStr 0 (srtN ks).toArray cs.toArray).toList.length = cs.length := by simp [putCells]
      rw [flat_map1, hsl] at *
      refine ⟨by rw [List.length_map, Nat.mul_one]; exact srt_len ks, .inr ⟨b, cap, _, rfl, rfl, h3, by simp [putCells, h4], ?_⟩⟩
      rw [Nat.mul_one]
      exact ht
theorem sortS_ok {E : Env} {T : TypeId} {v : Value} {l : Hp} (ks : List Nm) (hr : RowB T 1 v l ks.length (ks.flatMap cells1)) (hsz : ks.length ≤ 100000) (R : Hp) :
    CallsH Tryz.prog E 79 [v] (l ++ R) fun u H' => u = .tuple #[] ∧ ∃ l' : Hp, H' = l' ++ R ∧ RowB T 1 v l' (srtN ks).length ((srtN ks).flatMap cells1) :=
  sortS_of (fun blk off cap ss w h1 h2 h3 => Tryz.slices_Sort_string blk off cap ss w h1 h2 h3) (fun p cap w => Tryz.slices_Sort_string_none p cap w) ks hr hsz R
end Trt
end Go.Proofs.YtkjjlppfomidbaaGreat
