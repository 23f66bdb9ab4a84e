/- The contracts of the landed tree, in the walks' forms; conditions: at most 200 nodes. -/
import Derived.Test.YtonhfddklkbnbaaTryg
namespace Go.Proofs.Ytonhfddklkbnbaa
namespace Trt
open Go Go.RowKit Sx
attribute [local irreducible] Go.Calls

theorem tnew_ok (w : World) : Calls Try.prog 8 #[] w fun e w' => ∃ r, e = .returned r ∧ NewD (fun r l => ∃ g, r = .pointer (some ⟨g, 0, none⟩) ∧ LTr Tr.new g l) w w' r := newL_ok w
theorem tcreate_ok {m : Nat} {w0 : World} {t : Tr} {g : Nat} {l : Hp} (h : LTr t g l) (hf : FitT t) (n p : Nm) (_hn : n.length ≤ 100) (R : Hp) :
    CallsH Try.prog ⟨w0.heap.size, w0, m⟩ 27 [.pointer (some ⟨g, 0, none⟩), S n, S p] (l ++ R) (LDid g (createT (Lab.rightB n) t n p) R) := createL_ok h hf n p R
theorem tremove_ok {m : Nat} {w0 : World} {t : Tr} {g : Nat} {l : Hp} (h : LTr t g l) (hf : FitT t) (n : Nm) (R : Hp) :
    CallsH Try.prog ⟨w0.heap.size, w0, m⟩ 29 [.pointer (some ⟨g, 0, none⟩), S n] (l ++ R) (LDid g (removeT t n) R) := removeL_ok h hf n R
theorem tmove_ok {m : Nat} {w0 : World} {t : Tr} {g : Nat} {l : Hp} (h : LTr t g l) (hf : FitT t) (n p : Nm) (R : Hp) :
    CallsH Try.prog ⟨w0.heap.size, w0, m⟩ 28 [.pointer (some ⟨g, 0, none⟩), S n, S p] (l ++ R) (LDid g (moveT t n p) R) := moveL_ok h hf n p R
theorem thas_ok {t : Tr} {g : Nat} {l : Hp} (h : LTr t g l) (hf : FitT t) (s : Nm) (w : World) (hl : Lies w l) : Calls Try.prog 25 #[.pointer (some ⟨g, 0, none⟩), S s] w fun e w' => e = .returned (.bool (hasT t s)) ∧ Below w.heap.size w w' := by
  obtain ⟨mo, X, c, h2⟩ := pat_lies h hf.wf hl
  exact hasP_ok h2 s
theorem tpar_ok {t : Tr} {g : Nat} {l : Hp} (h : LTr t g l) (hf : FitT t) (s : Nm) (w : World) (hl : Lies w l) : Calls Try.prog 26 #[.pointer (some ⟨g, 0, none⟩), S s] w fun e w' => e = .returned (S (parT t s)) ∧ Below w.heap.size w w' := by
  obtain ⟨mo, X, c, h2⟩ := pat_lies h hf.wf hl
  exact parP_ok h2 s
theorem tpath_ok {t : Tr} {g : Nat} {l : Hp} (h : LTr t g l) (hf : FitT t) (s : Nm) (w : World) (hl : Lies w l) : Calls Try.prog 23 #[.pointer (some ⟨g, 0, none⟩), S s] w fun e w' => ∃ r, e = .returned r ∧ NewRow 9 1 w w' r (pathT t s).length ((pathT t s).flatMap cells1) := by
  obtain ⟨mo, X, c, h2⟩ := pat_lies h hf.wf hl
  exact pathQ_ok h2.q (.inr hf.wf) s
theorem tchild_ok {t : Tr} {g : Nat} {l : Hp} (h : LTr t g l) (hf : FitT t) (s : Nm) (w : World) (hl : Lies w l) : Calls Try.prog 48 #[.pointer (some ⟨g, 0, none⟩), S s] w fun e w' => ∃ r, e = .returned r ∧ NewRow 9 1 w w' r (childT t s).length ((childT t s).flatMap cells1) := by
  obtain ⟨mo, X, c, h2⟩ := pat_lies h hf.wf hl
  exact childQ_ok h2.q (.inr hf.wf) hf.len2 s
theorem tbelow_ok {t : Tr} {g : Nat} {l : Hp} (h : LTr t g l) (hf : FitT t) (s : Nm) (w : World) (hl : Lies w l) : Calls Try.prog 24 #[.pointer (some ⟨g, 0, none⟩), S s] w fun e w' => ∃ r, e = .returned r ∧ NewRow 9 1 w w' r (belowT t s).length ((belowT t s).flatMap cells1) := by
  obtain ⟨mo, X, c, h2⟩ := pat_lies h hf.wf hl
  exact belowQ_ok h2.q (.inr hf.wf) hf.len2 s
/-! .. without a tree. -/
theorem tcreate0_ok (n p : Nm) (w : World) : Calls Try.prog 27 #[.pointer none, S n, S p] w fun e w' => e = .returned (I 1) ∧ Below w.heap.size w w' := by
  refine calls1 (args := [.pointer none, S n, S p]) Try.func27 rfl rfl rfl rfl ?_
  repeat' (first | refine aw_seq ?_ | ((first | apply ao_val | apply aq_val); exact wants_a; (first | exact ov_nilcheck rfl | exact ov_peq0 rfl rfl | exact ov_a); (exact rfl)) | refine zy ?_ | refine zon fun _ => ?_ | refine zoa fun vr lr hr => ?_ | refine zoS (fun _ => ?_) (fun _ => ?_) | refine zqS (fun _ => ?_) (fun _ => ?_) | refine zwS (fun _ => ?_) (fun _ => ?_))
  exact fun w' hw => ⟨rfl, hw.below⟩
theorem tremove0_ok (n : Nm) (w : World) : Calls Try.prog 29 #[.pointer none, S n] w fun e w' => e = .returned (I 1) ∧ Below w.heap.size w w' := by
  refine calls1 (args := [.pointer none, S n]) Try.func29 rfl rfl rfl rfl ?_
  repeat' (first | refine aw_seq ?_ | ((first | apply ao_val | apply aq_val); exact wants_a; (first | exact ov_nilcheck rfl | exact ov_peq0 rfl rfl | exact ov_a); (exact rfl)) | refine zy ?_ | refine zon fun _ => ?_ | refine zoa fun vr lr hr => ?_ | refine zoS (fun _ => ?_) (fun _ => ?_) | refine zqS (fun _ => ?_) (fun _ => ?_) | refine zwS (fun _ => ?_) (fun _ => ?_))
  exact fun w' hw => ⟨rfl, hw.below⟩
theorem tmove0_ok (n p : Nm) (w : World) : Calls Try.prog 28 #[.pointer none, S n, S p] w fun e w' => e = .returned (I 1) ∧ Below w.heap.size w w' := by
  refine calls1 (args := [.pointer none, S n, S p]) Try.func28 rfl rfl rfl rfl ?_
  repeat' (first | refine aw_seq ?_ | ((first | apply ao_val | apply aq_val); exact wants_a; (first | exact ov_nilcheck rfl | exact ov_peq0 rfl rfl | exact ov_a); (exact rfl)) | refine zy ?_ | refine zon fun _ => ?_ | refine zoa fun vr lr hr => ?_ | refine zoS (fun _ => ?_) (fun _ => ?_) | refine zqS (fun _ => ?_) (fun _ => ?_) | refine zwS (fun _ => ?_) (fun _ => ?_))
  exact fun w' hw => ⟨rfl, hw.below⟩
theorem thas0_ok (s : Nm) (w : World) : Calls Try.prog 25 #[.pointer none, S s] w fun e w' => e = .returned (.bool false) ∧ Below w.heap.size w w' := has0_ok s w
theorem tpar0_ok (s : Nm) (w : World) : Calls Try.prog 26 #[.pointer none, S s] w fun e w' => e = .returned (S []) ∧ Below w.heap.size w w' := par0_ok s w
theorem tpath0_ok (s : Nm) (w : World) : Calls Try.prog 23 #[.pointer none, S s] w fun e w' => ∃ r, e = .returned r ∧ NewRow 9 1 w w' r 0 [] := pathQ_ok (t := []) (.inl ⟨rfl, rfl⟩) (.inl rfl) s
theorem tchild0_ok (s : Nm) (w : World) : Calls Try.prog 48 #[.pointer none, S s] w fun e w' => ∃ r, e = .returned r ∧ NewRow 9 1 w w' r 0 [] := childQ_ok (t := []) (.inl ⟨rfl, rfl⟩) (.inl rfl) (Nat.zero_le _) s
theorem tbelow0_ok (s : Nm) (w : World) : Calls Try.prog 24 #[.pointer none, S s] w fun e w' => ∃ r, e = .returned r ∧ NewRow 9 1 w w' r 0 [] := belowQ_ok (t := []) (.inl ⟨rfl, rfl⟩) (.inl rfl) (Nat.zero_le _) s
end Trt
end Go.Proofs.Ytonhfddklkbnbaa
