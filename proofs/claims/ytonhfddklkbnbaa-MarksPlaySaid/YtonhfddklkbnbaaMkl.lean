/- The contracts of the landed marks, in the walks' forms; conditions: at most 4,000 names. -/
import Derived.Test.YtonhfddklkbnbaaMkz
namespace Go.Proofs.Ytonhfddklkbnbaa
namespace Mkt
open Go Go.RowKit Sx Trt
attribute [local irreducible] Go.Calls

theorem hat_lies {w : World} {l : Mk} {g : Nat} {h : Hp} (hL : LMk l g h) (hl : Lies w h) : HAt w (some ⟨g, 0, none⟩) l := by
  obtain ⟨mo, X, c, h2⟩ := gat_lies hL hl
  exact .inr ⟨g, mo, X, c, rfl, h2⟩
theorem mnew_ok (w : World) : Calls Try.prog 12 #[] w fun e w' => ∃ r, e = .returned r ∧ NewD (fun r l => ∃ g, r = .pointer (some ⟨g, 0, none⟩) ∧ LMk [] g l) w w' r := newM_ok w
theorem mmark_ok {m : Nat} {w0 : World} {l : Mk} {g : Nat} {h : Hp} (hL : LMk l g h) (_hf : FitM l) {v : Value} {ks : List Nm} (hk : ks.length ≤ 1000) (_hn : ∀ e ∈ ks, e.length ≤ 100) (R : Hp) (hv : ∀ n w, RepH ⟨w0.heap.size, w0, n⟩ R w → OldRow w 1 v ks.length (ks.flatMap cells1)) :
    CallsH Try.prog ⟨w0.heap.size, w0, m⟩ 14 [.pointer (some ⟨g, 0, none⟩), v] (h ++ R) (MDid g 0 (marksL l ks) R) := markG_ok hL hk R hv
theorem mclear_ok {m : Nat} {w0 : World} {l : Mk} {g : Nat} {h : Hp} (hL : LMk l g h) (_hf : FitM l) (s : Nm) (R : Hp) :
    CallsH Try.prog ⟨w0.heap.size, w0, m⟩ 17 [.pointer (some ⟨g, 0, none⟩), S s] (h ++ R) (MDid g (clearL l s).2 (clearL l s).1 R) := clearG_ok hL s R
theorem mhas_ok {l : Mk} {g : Nat} {h : Hp} (hL : LMk l g h) (_hf : FitM l) (s : Nm) (w : World) (hl : Lies w h) : Calls Try.prog 21 #[.pointer (some ⟨g, 0, none⟩), S s] w fun e w' => e = .returned (.bool (decide (s ∈ l))) ∧ Below w.heap.size w w' := by
  obtain ⟨mo, X, c, h2⟩ := gat_lies hL hl
  exact hasG_ok h2 s
theorem mall_ok {l : Mk} {g : Nat} {h : Hp} (hL : LMk l g h) (hf : FitM l) (w : World) (hl : Lies w h) : Calls Try.prog 19 #[.pointer (some ⟨g, 0, none⟩)] w fun e w' => ∃ r, e = .returned r ∧ NewRow 9 1 w w' r l.length (l.flatMap cells1) := allH_ok (hat_lies hL hl) hf
theorem mnext_ok {l : Mk} {g : Nat} {h : Hp} (hL : LMk l g h) (hf : FitM l) {t : Tr} {gt : Nat} {lt : Hp} (hT : LTr t gt lt) (hft : FitT t) (w : World) (hl : Lies w h) (hlt : Lies w lt) : Calls Try.prog 13 #[.pointer (some ⟨g, 0, none⟩), .pointer (some ⟨gt, 0, none⟩)] w fun e w' => e = .returned (.tuple #[S (nextL t l).1, .bool (nextL t l).2]) ∧ Below w.heap.size w w' := by
  obtain ⟨mo, X, c, h2⟩ := pat_lies hT hft.wf hlt
  exact nextG_ok (hat_lies hL hl) hf h2.q (.inr hft.wf)
/-! .. without marks. -/
theorem mmark0_ok (w : World) : Calls Try.prog 14 #[.pointer none, .slice none 0 0] w fun e w' => e = .returned (I 1) ∧ Below w.heap.size w w' := by
  refine calls1 (args := [.pointer none, .slice none 0 0]) Try.func14 rfl rfl rfl rfl ?_
  repeat' (first | refine aw_seq ?_ | ((first | apply ao_val | apply aq_val); exact wants_a; (first | exact ov_nilcheck rfl | exact ov_peq0 rfl rfl | exact ov_a); (exact rfl)) | refine zy ?_ | refine zon fun _ => ?_ | refine zoa fun vr lr hr => ?_ | refine zoS (fun _ => ?_) (fun _ => ?_) | refine zqS (fun _ => ?_) (fun _ => ?_) | refine zwS (fun _ => ?_) (fun _ => ?_))
  exact fun w' hw => ⟨rfl, hw.below⟩
theorem mclear0_ok (s : Nm) (w : World) : Calls Try.prog 17 #[.pointer none, S s] w fun e w' => e = .returned (I 1) ∧ Below w.heap.size w w' := by
  refine calls1 (args := [.pointer none, S s]) Try.func17 rfl rfl rfl rfl ?_
  repeat' (first | refine aw_seq ?_ | ((first | apply ao_val | apply aq_val); exact wants_a; (first | exact ov_nilcheck rfl | exact ov_peq0 rfl rfl | exact ov_a); (exact rfl)) | refine zy ?_ | refine zon fun _ => ?_ | refine zoa fun vr lr hr => ?_ | refine zoS (fun _ => ?_) (fun _ => ?_) | refine zqS (fun _ => ?_) (fun _ => ?_) | refine zwS (fun _ => ?_) (fun _ => ?_))
  exact fun w' hw => ⟨rfl, hw.below⟩
theorem mhas0_ok (s : Nm) (w : World) : Calls Try.prog 21 #[.pointer none, S s] w fun e w' => e = .returned (.bool false) ∧ Below w.heap.size w w' := by
  refine calls1 (args := [.pointer none, S s]) Try.func21 rfl rfl rfl rfl ?_
  repeat' (first | refine aw_seq ?_ | ((first | apply ao_val | apply aq_val); exact wants_a; (first | exact ov_nilcheck rfl | exact ov_pne0 rfl rfl | exact ov_a); (exact rfl)) | refine zy ?_ | refine zon fun _ => ?_ | refine zoa fun vr lr hr => ?_ | refine zoS (fun _ => ?_) (fun _ => ?_) | refine zqS (fun _ => ?_) (fun _ => ?_) | refine zwS (fun _ => ?_) (fun _ => ?_))
  exact fun w' hw => ⟨rfl, hw.below⟩
theorem mall0_ok (w : World) : Calls Try.prog 19 #[.pointer none] w fun e w' => ∃ r, e = .returned r ∧ NewRow 9 1 w w' r 0 [] := all0_ok w
theorem mnext0_ok {t : Tr} {gt : Nat} {lt : Hp} (hT : LTr t gt lt) (hft : FitT t) (w : World) (hlt : Lies w lt) : Calls Try.prog 13 #[.pointer none, .pointer (some ⟨gt, 0, none⟩)] w fun e w' => e = .returned (.tuple #[S [], .bool false]) ∧ Below w.heap.size w w' := by
  obtain ⟨mo, X, c, h2⟩ := pat_lies hT hft.wf hlt
  exact nextG_ok (l := []) (.inl ⟨rfl, rfl⟩) ⟨List.Pairwise.nil, Nat.zero_le _, fun e h => by cases h⟩ h2.q (.inr hft.wf)
end Mkt
end Go.Proofs.Ytonhfddklkbnbaa
