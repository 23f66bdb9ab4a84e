/- The landed marks in the own heap: New, Mark, Clear, Has, All, Next; conditions: at most 4,000 names. -/
import Derived.Test.YtonhfddklkbnbaaMky
import Derived.Test.YtonhfddklkbnbaaTrl
import Derived.Test.YtonhfddklkbnbaaMkm
namespace Go.Proofs.Ytonhfddklkbnbaa
namespace Mkt
open Go Go.RowKit Sx Trt
attribute [local irreducible] Go.Calls

/-- Such marks as are gone through. -/
structure FitM (l : Mk) : Prop where
  rise : RiseN l
  len : l.length ≤ 4000
  nm : ∀ e ∈ l, e.length ≤ 100
abbrev objM (mo : Option Nat) : Obj := .cells #[.map mo] 69 (0, 0)
/-- The landed marks lie at block g, in the part h of the own heap. -/
def LMk (l : Mk) (g : Nat) (h : Hp) : Prop := ∃ mo X c lM, h = (g, objM mo) :: lM ∧ MapS mo X c lM ∧ MapM l X c
/-- What a call on them leaves. -/
def MDid (g : Nat) (er : Int) (l : Mk) (R : Hp) (u : Value) (H' : Hp) : Prop := u = I er ∧ ∃ l', H' = l' ++ R ∧ LMk l g l'
/-- They, as a world has them. -/
structure GAt (w : World) (g : Nat) (l : Mk) (mo : Option Nat) (X : List (En Nm)) (c : Nat) : Prop where
  lt : g < w.heap.size
  c0 : w.cell? ⟨g, 0, none⟩ = some (.map mo)
  at_ : SAt w l mo X c
theorem GAt.below {w w' : World} {g : Nat} {l : Mk} {mo : Option Nat} {X : List (En Nm)} {c : Nat} (h : GAt w g l mo X c) (hb : Below w.heap.size w w') : GAt w' g l mo X c := ⟨Nat.lt_of_lt_of_le h.lt hb.size, (hb.cell h.lt).trans h.c0, h.at_.below hb⟩
theorem gat_lies {w : World} {l : Mk} {g : Nat} {h : Hp} (hL : LMk l g h) (hl : Lies w h) : ∃ mo X c, GAt w g l mo X c := by
  obtain ⟨mo, X, c, lM, rfl, h1, h2⟩ := hL
  have hg2 : w.heap[g]? = some (.cells (List.toArray [.map mo]) 69 (0, 0)) := hl g _ List.mem_cons_self
  refine ⟨mo, X, c, lies_lt hl List.mem_cons_self, by rw [cell_of hg2]; rfl, fun b e => ?_, fun e => ?_, h2⟩
  · rcases h1 with ⟨rfl, -, -, -⟩ | ⟨b2, rfl, rfl⟩
    · cases e
    · cases e
      have hm := hl b (mapO Trt.encS X c) (List.mem_cons_of_mem _ List.mem_cons_self)
      exact ⟨(Array.getElem?_eq_some_iff.1 hm).1, hm⟩
  · rcases h1 with ⟨-, h0, h6, -⟩ | ⟨b2, rfl, -⟩
    · exact ⟨h0, h6⟩
    · cases e
section
variable {w : World} {g : Nat} {l : Mk} {mo : Option Nat} {X : List (En Nm)} {c : Nat}
set_option maxHeartbeats 8000000 in
theorem hasG_ok (h : GAt w g l mo X c) (s : Nm) : Calls Try.prog 21 #[.pointer (some ⟨g, 0, none⟩), S s] w fun e w' => e = .returned (.bool (decide (s ∈ l))) ∧ Below w.heap.size w w' := by
  have lt := h.lt
  have c0 := h.c0
  have hs := fun w' (hb : Below w.heap.size w w') => shas_ok (h.at_.below hb) s
  refine calls1 (args := [.pointer (some ⟨g, 0, none⟩), S s]) Try.func21 rfl rfl rfl rfl ?_
  repeat' (first | refine aw_seq ?_ | ((first | apply ao_val | apply aq_val); exact wants_a; (first | exact ov_nilcheck rfl | exact ov_pnes rfl rfl | exact ov_a); (exact rfl)) | refine zy ?_ | refine zon fun _ => ?_ | refine zoa fun vr lr hr => ?_ | ((first | apply ao_call | apply aq_call); exact wants_a; (first | exact oc_func rfl | exact oc_clos rfl rfl | exact oc_bnd rfl rfl); (exact rfl); (first | exact fun w hw => hs w hw.below)) | refine zoS (fun _ => ?_) (fun _ => ?_) | refine zqS (fun _ => ?_) (fun _ => ?_) | refine zwS (fun _ => ?_) (fun _ => ?_))
  exact fun w' hw => ⟨rfl, hw.below⟩
set_option maxHeartbeats 8000000 in
theorem allG_ok (h : GAt w g l mo X c) (hX : X.length ≤ 10000) (hr : RiseN l) : Calls Try.prog 19 #[.pointer (some ⟨g, 0, none⟩)] w fun e w' => ∃ r, e = .returned r ∧ NewRow 9 1 w w' r l.length (l.flatMap cells1) := by
  have lt := h.lt
  have c0 := h.c0
  have hs := fun w' (hb : Below w.heap.size w w') => srise_ok (h.at_.below hb) hX hr
  refine calls1 (args := [.pointer (some ⟨g, 0, none⟩)]) Try.func19 rfl rfl rfl rfl ?_
  repeat' (first | refine aw_seq ?_ | ((first | apply ao_val | apply aq_val); exact wants_a; (first | exact ov_nilcheck rfl | exact ov_peqs rfl rfl | exact ov_a); (exact rfl)) | refine zy ?_ | refine zon fun _ => ?_ | refine zoa fun vr lr hr => ?_ | (apply ao_callr; exact wants_a; (exact oc_func rfl); (exact rfl); (first | exact fun w hw => hs w hw.below); intro vr lr hr) | refine zoS (fun _ => ?_) (fun _ => ?_) | refine zqS (fun _ => ?_) (fun _ => ?_) | refine zwS (fun _ => ?_) (fun _ => ?_))
  exact fun w' hw => ⟨_, rfl, hw.below, _, (by assumption), fun b o hm => hw.at_ b o (List.mem_append_left _ hm)⟩
end
theorem all0_ok (w : World) : Calls Try.prog 19 #[.pointer none] w fun e w' => ∃ r, e = .returned r ∧ NewRow 9 1 w w' r 0 [] := by
  refine calls1 (args := [.pointer none]) Try.func19 rfl rfl rfl rfl ?_
  repeat' (first | refine aw_seq ?_ | ((first | apply ao_val | apply aq_val); exact wants_a; (first | exact ov_nilcheck rfl | exact ov_peq0 rfl rfl | exact ov_a); (exact rfl)) | refine zy ?_ | refine zon fun _ => ?_ | refine zoa fun vr lr hr => ?_ | refine zoS (fun _ => ?_) (fun _ => ?_) | refine zqS (fun _ => ?_) (fun _ => ?_) | refine zwS (fun _ => ?_) (fun _ => ?_))
  exact fun w' hw => ⟨_, rfl, hw.below, [], RowB.nil, fun b o hm => by cases hm⟩
/-- A pointer to marks, or to none: these are as without names. -/
def HAt (w : World) (q : Option Addr) (l : Mk) : Prop := (q = none ∧ l = []) ∨ ∃ g mo X c, q = some ⟨g, 0, none⟩ ∧ GAt w g l mo X c
theorem HAt.below {w w' : World} {q : Option Addr} {l : Mk} (h : HAt w q l) (hb : Below w.heap.size w w') : HAt w' q l := by
  rcases h with h | ⟨g, mo, X, c, h1, h2⟩
  · exact .inl h
  · exact .inr ⟨g, mo, X, c, h1, h2.below hb⟩
theorem map_len {l : Mk} {X : List (En Nm)} {c : Nat} (h : MapM l X c) (hr : RiseN l) : X.length = l.length := by
  have := (h.perm hr).length_eq
  rwa [List.length_map] at this
theorem allH_ok {w : World} {q : Option Addr} {l : Mk} (h : HAt w q l) (hf : FitM l) : Calls Try.prog 19 #[.pointer q] w fun e w' => ∃ r, e = .returned r ∧ NewRow 9 1 w w' r l.length (l.flatMap cells1) := by
  rcases h with ⟨rfl, rfl⟩ | ⟨g, mo, X, c, rfl, h2⟩
  · exact all0_ok w
  · exact allG_ok h2 (by have := map_len h2.at_.mt hf.rise; have := hf.len; omega) hf.rise
/-- The first one with the greatest depth, of the first so many. -/
def BestM (t : Tr) (p : Mk) (n : Nm) (m : Nat) : Prop := (m = 0 ∧ n = [] ∧ ∀ s ∈ p, (pathT t s).length = 0) ∨ (0 < m ∧ p.find? (fun s => decide ((pathT t s).length = m)) = some n ∧ ∀ s ∈ p, (pathT t s).length ≤ m)
theorem BestM.le {t : Tr} {p : Mk} {n : Nm} {m : Nat} (h : BestM t p n m) : ∀ s ∈ p, (pathT t s).length ≤ m := by
  rcases h with ⟨rfl, -, h⟩ | ⟨-, -, h⟩
  · exact fun s hs => Nat.le_of_eq (h s hs)
  · exact h
theorem BestM.more {t : Tr} {p : Mk} {n x : Nm} {m : Nat} (h : BestM t p n m) (hx : m < (pathT t x).length) : BestM t (p ++ [x]) x (pathT t x).length := by
  have hle := h.le
  refine .inr ⟨by omega, ?_, fun s hs => ?_⟩
  · rw [List.find?_append, List.find?_eq_none.2 fun s hs => by have := hle s hs; rw [decide_eq_true_eq]; omega]
    simp
  · rcases List.mem_append.1 hs with hs | hs
    · have := hle s hs; omega
    · rw [List.mem_singleton.1 hs]; exact Nat.le_refl _
theorem BestM.same {t : Tr} {p : Mk} {n x : Nm} {m : Nat} (h : BestM t p n m) (hx : ¬ m < (pathT t x).length) : BestM t (p ++ [x]) n m := by
  have hle : ∀ s ∈ p ++ [x], (pathT t s).length ≤ m := fun s hs => by
    rcases List.mem_append.1 hs with hs | hs
    · exact h.le s hs
    · rw [List.mem_singleton.1 hs]; omega
  rcases h with ⟨rfl, rfl, -⟩ | ⟨h1, h2, -⟩
  · exact .inl ⟨rfl, rfl, fun s hs => Nat.le_zero.1 (hle s hs)⟩
  · exact .inr ⟨h1, by rw [List.find?_append, h2]; rfl, hle⟩
theorem BestM.next {t : Tr} {l : Mk} {n : Nm} {m : Nat} (h : BestM t l n m) : ∀ d, m ≤ d → nextN t l d = (n, decide (0 < m))
  | 0, hd => by
    rcases h with ⟨rfl, rfl, -⟩ | ⟨h1, -, -⟩
    · rfl
    · omega
  | d + 1, hd => by
    have hle := h.le
    unfold nextN
    by_cases he : m = d + 1
    · rcases h with ⟨rfl, -, -⟩ | ⟨h1, h2, -⟩
      · omega
      · rw [← he, h2, decide_eq_true h1]
    · rw [List.find?_eq_none.2 fun s hs => by have := hle s hs; rw [decide_eq_true_eq]; omega]
      exact h.next d (by omega)
set_option maxHeartbeats 16000000 in
theorem nextG_ok {w : World} {qm q : Option Addr} {l : Mk} {t : Tr} (h : HAt w qm l) (hf : FitM l) (hT : QAt w q t) (hg : t = [] ∨ WfT t) :
    Calls Try.prog 13 #[.pointer qm, .pointer q] w fun e w' => e = .returned (.tuple #[S (nextL t l).1, .bool (nextL t l).2]) ∧ Below w.heap.size w w' := by
  have hA := fun w' (hb : Below w.heap.size w w') => allH_ok (h.below hb) hf
  have hP := fun s w' (hb : Below w.heap.size w w') => pathQ_ok (hT.below hb) hg s
  have hl := hf.len
  refine calls2 (args := [.pointer qm, .pointer q]) Try.func13 rfl rfl rfl rfl ?_
  repeat' (first | refine aw_seq ?_ | ((first | apply ao_val | apply aq_val); exact wants_a; (first | exact ov_lenr rfl hr | exact ov_a); (exact rfl)) | refine zy ?_ | refine zon fun _ => ?_ | refine zoa fun vr lr hr => ?_ | (apply ao_callr; exact wants_a; (exact oc_func rfl); (exact rfl); (first | exact fun w hw => hA w hw.below); intro vr lr hr) | refine zoS (fun _ => ?_) (fun _ => ?_) | refine zqS (fun _ => ?_) (fun _ => ?_) | refine zwS (fun _ => ?_) (fun _ => ?_))
  refine aw_for (t0 := [(1, .pointer q), (6, S []), (7, I (0 : Nat)), (12, vr), (13, I l.length), (14, I (0 : Nat))]) (fun k tm H => ∃ (i : Nat) (n : Nm) (m : Nat), k = l.length - i ∧ i ≤ l.length ∧ BestM t (l.take i) n m ∧ m ≤ 8 ∧ tm = [(1, .pointer q), (6, S n), (7, I m), (12, vr), (13, I l.length), (14, I i)] ∧ H = lr ++ [])
    ⟨0, [], 0, rfl, Nat.zero_le _, .inl ⟨rfl, rfl, fun s hs => by cases hs⟩, by omega, rfl, rfl⟩ (by repeat (first | exact sub_nil | refine sub_cons rfl ?_)) ?_
  rintro _ tm H ⟨i, n, m, rfl, hi, hB, hm, rfl, rfl⟩
  by_cases hlt : i < l.length
  · obtain ⟨x, hx⟩ := getP hlt
    obtain ⟨gB, capB, csB, e1, e2, hcB⟩ := RowB.cells cells1_len hr hx
    subst e1
    subst e2
    have cX : csB[0 + (i : Int).toNat * 1]? = some (S x) := hcB 0 _ rfl
    have ht1 : l.take (i + 1) = l.take i ++ [x] := by rw [List.take_add_one, hx]; rfl
    have hpx := hP x
    have h8 := good_len hg x
    by_cases hgt : m < (pathT t x).length
    · have hB2 := hB.more hgt
      rw [← ht1] at hB2
      generalize pathT t x = P at *
      repeat' (first | refine aw_seq ?_ | ((first | apply ao_val | apply aq_val); exact wants_a; (first | exact ov_lenr rfl (by assumption) | exact ov_a); (exact rfl)) | refine zy ?_ | refine zon fun _ => ?_ | refine zoa fun vr lr hr => ?_ | (apply ao_callr; exact wants_a; (exact oc_func rfl); (exact rfl); (first | exact fun w hw => hpx w hw.below); intro vr lr hr) | refine zoS (fun _ => ?_) (fun _ => ?_) | refine zqS (fun _ => ?_) (fun _ => ?_) | refine zwS (fun _ => ?_) (fun _ => ?_))
      exact lq_normal' ⟨i + 1, x, P.length, rfl, by omega, hB2, h8, rfl, rfl⟩ (by omega) (by repeat (first | exact sub_nil | refine sub_cons rfl ?_)) hsub_a
    · have hB2 := hB.same hgt
      rw [← ht1] at hB2
      generalize pathT t x = P at *
      repeat' (first | refine aw_seq ?_ | ((first | apply ao_val | apply aq_val); exact wants_a; (first | exact ov_lenr rfl (by assumption) | exact ov_a); (exact rfl)) | refine zy ?_ | refine zon fun _ => ?_ | refine zoa fun vr lr hr => ?_ | (apply ao_callr; exact wants_a; (exact oc_func rfl); (exact rfl); (first | exact fun w hw => hpx w hw.below); intro vr lr hr) | refine zoS (fun _ => ?_) (fun _ => ?_) | refine zqS (fun _ => ?_) (fun _ => ?_) | refine zwS (fun _ => ?_) (fun _ => ?_))
      exact lq_normal' ⟨i + 1, n, m, rfl, by omega, hB2, hm, rfl, rfl⟩ (by omega) (by repeat (first | exact sub_nil | refine sub_cons rfl ?_)) hsub_a
  · obtain rfl : i = l.length := by omega
    rw [List.take_length] at hB
    unfold nextL
    rw [hB.next 8 hm]
    have ec : decide ((m : Int) > 0) = decide (0 < m) := by
      rw [Bool.eq_iff_iff, decide_eq_true_eq, decide_eq_true_eq]
      omega
    repeat' (first | refine aw_seq ?_ | refine zz ?_ | refine zon fun _ => ?_ | refine zoa fun vr lr hr => ?_ | refine zoS (fun _ => ?_) (fun _ => ?_) | refine zqS (fun _ => ?_) (fun _ => ?_) | refine zwS (fun _ => ?_) (fun _ => ?_))
    exact fun w' hw => ⟨by rw [ec], hw.below⟩
theorem lmk_new {g : Nat} : LMk [] g [(g, objM none)] := ⟨none, [], 0, [], rfl, .inl ⟨rfl, rfl, rfl, rfl⟩, MapM.new⟩
theorem newM_ok (w : World) : Calls Try.prog 12 #[] w fun e w' => ∃ r, e = .returned r ∧ NewD (fun r l => ∃ g, r = .pointer (some ⟨g, 0, none⟩) ∧ LMk [] g l) w w' r := by
  refine calls1 (args := []) Try.func12 rfl rfl rfl rfl ?_
  repeat' (first | refine aw_seq ?_ | refine zz ?_ | refine zon fun _ => ?_ | refine zoa fun vr lr hr => ?_ | refine zoS (fun _ => ?_) (fun _ => ?_) | refine zqS (fun _ => ?_) (fun _ => ?_) | refine zwS (fun _ => ?_) (fun _ => ?_))
  exact fun w' hw => ⟨_, rfl, hw.toD rfl (l := [_]) (R := []) (List.Perm.refl _) ⟨_, rfl, lmk_new⟩⟩
set_option maxHeartbeats 16000000 in
theorem markG_ok {m : Nat} {w0 : World} {l : Mk} {g : Nat} {h : Hp} (hL : LMk l g h) {v : Value} {ks : List Nm} (hk : ks.length ≤ 1000) (R : Hp) (hv : ∀ n w, RepH ⟨w0.heap.size, w0, n⟩ R w → OldRow w 1 v ks.length (ks.flatMap cells1)) :
    CallsH Try.prog ⟨w0.heap.size, w0, m⟩ 14 [.pointer (some ⟨g, 0, none⟩), v] (h ++ R) (MDid g 0 (marksL l ks) R) := by
  obtain ⟨mo, X, c, lM, rfl, hM, hX⟩ := hL
  rw [List.cons_append]
  refine callsH1p (args := [.pointer (some ⟨g, 0, none⟩), v]) Try.func14 rfl rfl rfl rfl ?_
  have hR : ∀ {n : Nat} {w : World} {x : Nat × Obj} {y : Hp}, RepH ⟨w0.heap.size, w0, n⟩ (x :: (y ++ R)) w → RepH ⟨w0.heap.size, w0, n⟩ R w := fun hw => hw.sub ((List.sublist_append_right _ _).cons _)
  refine aw_fact (φ := ∃ a cp, v = .slice a ks.length cp) (fun w hw => ?_) ?_
  · obtain ⟨a, cp, h1, -⟩ := OldRow.cells cells1_len (hv _ w (hR hw))
    exact ⟨a, cp, h1⟩
  rintro ⟨a, cp, rfl⟩
  repeat' (first | refine aw_cutI_at (id := 5) (fun tm H => ∃ b, tm = [(0, .pointer (some ⟨g, 0, none⟩)), (1, .slice a ks.length cp)] ∧ H.Perm ((g, objM (some b)) :: (b, mapO Trt.encS X c) :: R)) ?_ ?_ | refine aw_cutI_at2 (id := 5) (fun tm H => ∃ b, tm = [(0, .pointer (some ⟨g, 0, none⟩)), (1, .slice a ks.length cp)] ∧ H.Perm ((g, objM (some b)) :: (b, mapO Trt.encS X c) :: R)) ?_ ?_ | refine aw_seq ?_ | ((first | apply ao_val | apply aq_val); exact wants_a; (first | exact ov_nilcheck rfl | exact ov_peqs rfl rfl | exact ov_a); (exact rfl)) | refine zy ?_ | refine zon fun _ => ?_ | refine zoa fun vr lr hr => ?_)
  · rcases hM with ⟨rfl, hX0, rfl, rfl⟩ | ⟨b, rfl, rfl⟩
    · rw [hX0]
      repeat' (first | refine aw_seq ?_ | ((first | apply ao_val | apply aq_val); exact wants_a; (first | exact ov_nilcheck rfl | exact ov_meq0 rfl rfl | exact ov_a); (exact rfl)) | refine zy ?_ | refine zon fun _ => ?_ | refine zoa fun vr lr hr => ?_ | (apply ao_new; exact wants_a; exact on_makeMap; exact rfl; intro bm) | refine zoS (fun _ => ?_) (fun _ => ?_) | refine zqS (fun _ => ?_) (fun _ => ?_) | refine zwS (fun _ => ?_) (fun _ => ?_))
      exact ci_normal ⟨_, rfl, List.Perm.swap _ _ _⟩ (by repeat (first | exact sub_nil | refine sub_cons rfl ?_)) (List.Sublist.refl _)
    · repeat' (first | refine aw_seq ?_ | ((first | apply ao_val | apply aq_val); exact wants_a; (first | exact ov_nilcheck rfl | exact ov_meqs rfl rfl | exact ov_a); (exact rfl)) | refine zy ?_ | refine zon fun _ => ?_ | refine zoa fun vr lr hr => ?_ | refine zoS (fun _ => ?_) (fun _ => ?_) | refine zqS (fun _ => ?_) (fun _ => ?_) | refine zwS (fun _ => ?_) (fun _ => ?_))
      exact ci_normal ⟨b, rfl, List.Perm.refl _⟩ (by repeat (first | exact sub_nil | refine sub_cons rfl ?_)) (List.Sublist.refl _)
  rintro tm H ⟨b, rfl, hpm⟩
  refine aw_permH hpm ?_
  clear hpm
  repeat' (first | refine aw_seq ?_ | refine zz ?_ | refine zon fun _ => ?_ | refine zoa fun vr lr hr => ?_ | refine zoS (fun _ => ?_) (fun _ => ?_) | refine zqS (fun _ => ?_) (fun _ => ?_) | refine zwS (fun _ => ?_) (fun _ => ?_))
  refine aw_for (t0 := [(0, .pointer (some ⟨g, 0, none⟩)), (18, .slice a ks.length cp), (19, I ks.length), (20, I (0 : Nat))]) (fun k tm H => ∃ (i : Nat) (X' : List (En Nm)) (c' : Nat), k = ks.length - i ∧ i ≤ ks.length ∧ MapM (marksL l (ks.take i)) X' c' ∧ tm = [(0, .pointer (some ⟨g, 0, none⟩)), (18, .slice a ks.length cp), (19, I ks.length), (20, I i)] ∧ H.Perm ((g, objM (some b)) :: (b, mapO Trt.encS X' c') :: R))
    ⟨0, X, c, rfl, Nat.zero_le _, hX, rfl, List.Perm.refl _⟩ (by repeat (first | exact sub_nil | refine sub_cons rfl ?_)) ?_
  clear hX
  rintro _ tm H ⟨i, X', c', rfl, hi, hX', rfl, hpm⟩
  refine aw_permH hpm ?_
  clear hpm
  by_cases hlt : i < ks.length
  · obtain ⟨x, hx⟩ := getP hlt
    refine aw_fact (φ := ∃ g1 o1, a = some ⟨g1, o1, none⟩) (fun w hw => ?_) ?_
    · obtain ⟨a2, cp2, h1, h2⟩ := OldRow.cells cells1_len (hv _ w (hw.sub ((List.sublist_cons_self _ _).cons _)))
      cases h1
      obtain ⟨g1, o1, h3, -, -⟩ := h2 i x (i : Int) hx rfl
      exact ⟨g1, o1, h3⟩
    rintro ⟨g1, o1, rfl⟩
    have cX : ∀ w, RepH ⟨w0.heap.size, w0, Try.f14.ntmps⟩ ((g, objM (some b)) :: (b, mapO Trt.encS X' c') :: R) w → w.cell? ⟨g1, o1 + (i : Int).toNat * 1, none⟩ = some (S x) := fun w hw => by
      obtain ⟨a2, cp2, h1, h2⟩ := OldRow.cells cells1_len (hv _ w (hw.sub ((List.sublist_cons_self _ _).cons _)))
      cases h1
      obtain ⟨g2, o2, h3, -, h4⟩ := h2 i x (i : Int) hx rfl
      cases h3
      exact h4 0 _ rfl
    have hadd := fun R => sadd_ok (m := Try.f14.ntmps) (w0 := w0) (b := b) hX' x R
    rw [← marks_take hx] at hadd
    repeat' (first | refine aw_seq ?_ | ((first | apply ao_val | apply aq_val); exact wants_a; (first | exact ov_nilcheck rfl | exact ov_load_w1 rfl cX | exact ov_a); (exact rfl)) | refine zy ?_ | refine zon fun _ => ?_ | refine zoa fun vr lr hr => ?_ | ((apply ao_callH (l := [(b, mapO Trt.encS X' c')]); exact wants_a; (exact oc_func rfl); (exact rfl); (exact cut_a); (exact hadd _); rintro _ _ ⟨rfl, X2, c2, rfl, hX2⟩)) | refine zoS (fun _ => ?_) (fun _ => ?_) | refine zqS (fun _ => ?_) (fun _ => ?_) | refine zwS (fun _ => ?_) (fun _ => ?_))
    exact lq_normal' ⟨i + 1, X2, c2, rfl, by omega, hX2, rfl, List.Perm.swap _ _ _⟩ (by omega) (by repeat (first | exact sub_nil | refine sub_cons rfl ?_)) hsub_a
  · obtain rfl : i = ks.length := by omega
    rw [List.take_length] at hX'
    repeat' (first | refine aw_seq ?_ | refine zz ?_ | refine zon fun _ => ?_ | refine zoa fun vr lr hr => ?_ | refine zoS (fun _ => ?_) (fun _ => ?_) | refine zqS (fun _ => ?_) (fun _ => ?_) | refine zwS (fun _ => ?_) (fun _ => ?_))
    exact ⟨_, _, hsub_a, List.Perm.refl _, rfl, [_, _], rfl, some b, _, _, [_], rfl, .inr ⟨b, rfl, rfl⟩, hX'⟩
set_option maxHeartbeats 16000000 in
theorem clearG_ok {m : Nat} {w0 : World} {l : Mk} {g : Nat} {h : Hp} (hL : LMk l g h) (s : Nm) (R : Hp) :
    CallsH Try.prog ⟨w0.heap.size, w0, m⟩ 17 [.pointer (some ⟨g, 0, none⟩), S s] (h ++ R) (MDid g (clearL l s).2 (clearL l s).1 R) := by
  have hlie : ∀ {n : Nat} {w : World}, RepH ⟨w0.heap.size, w0, n⟩ (h ++ R) w → ∃ mo X c, GAt w g l mo X c := fun hw => gat_lies hL (lies_of hw (List.Perm.refl _))
  have hh : ∀ w', RepH ⟨w0.heap.size, w0, Try.f17.ntmps⟩ (h ++ R) w' → Calls Try.prog 21 #[.pointer (some ⟨g, 0, none⟩), S s] w' fun e w2 => e = .returned (.bool (decide (s ∈ l))) ∧ Below w'.heap.size w' w2 := fun w' hw => by
    obtain ⟨mo, X, c, h2⟩ := hlie hw
    exact hasG_ok h2 s
  obtain ⟨mo, X, c, lM, rfl, hM, hX⟩ := hL
  rw [List.cons_append] at hh ⊢
  refine callsH1p (args := [.pointer (some ⟨g, 0, none⟩), S s]) Try.func17 rfl rfl rfl rfl ?_
  unfold clearL
  by_cases hs : s ∈ l
  · rw [if_pos hs]
    rw [decide_eq_true hs] at hh
    rcases hM with ⟨rfl, rfl, -, -⟩ | ⟨b, rfl, rfl⟩
    · cases (hX.is s).2 hs
    have hrem := fun R => srem_ok (m := Try.f17.ntmps) (w0 := w0) (b := b) hX s R
    repeat' (first | refine aw_seq ?_ | ((first | apply ao_val | apply aq_val); exact wants_a; (first | exact ov_nilcheck rfl | exact ov_peqs rfl rfl | exact ov_a); (exact rfl)) | refine zy ?_ | refine zon fun _ => ?_ | refine zoa fun vr lr hr => ?_ | ((first | apply ao_call | apply aq_call); exact wants_a; (first | exact oc_func rfl | exact oc_clos rfl rfl | exact oc_bnd rfl rfl); (exact rfl); (first | exact fun w hw => hh w hw)) | ((apply ao_callH (l := [(b, mapO Trt.encS X c)]); exact wants_a; (exact oc_func rfl); (exact rfl); (exact cut_a); (exact hrem _); rintro _ _ ⟨rfl, X2, rfl, hX2⟩)) | refine zoS (fun _ => ?_) (fun _ => ?_) | refine zqS (fun _ => ?_) (fun _ => ?_) | refine zwS (fun _ => ?_) (fun _ => ?_))
    exact ⟨_, (g, objM (some b)) :: (b, mapO Trt.encS X2 c) :: R, hsub_a, List.Perm.swap _ _ _, rfl, [_, _], rfl, some b, _, _, [_], rfl, .inr ⟨b, rfl, rfl⟩, hX2⟩
  · rw [if_neg hs]
    rw [decide_eq_false hs] at hh
    repeat' (first | refine aw_seq ?_ | ((first | apply ao_val | apply aq_val); exact wants_a; (first | exact ov_nilcheck rfl | exact ov_peqs rfl rfl | exact ov_a); (exact rfl)) | refine zy ?_ | refine zon fun _ => ?_ | refine zoa fun vr lr hr => ?_ | ((first | apply ao_call | apply aq_call); exact wants_a; (first | exact oc_func rfl | exact oc_clos rfl rfl | exact oc_bnd rfl rfl); (exact rfl); (first | exact fun w hw => hh w hw)) | refine zoS (fun _ => ?_) (fun _ => ?_) | refine zqS (fun _ => ?_) (fun _ => ?_) | refine zwS (fun _ => ?_) (fun _ => ?_))
    exact ⟨_, _, hsub_a, List.Perm.refl _, rfl, _, by rw [← List.cons_append], mo, X, c, lM, rfl, hM, hX⟩
end Mkt
end Go.Proofs.Ytonhfddklkbnbaa
