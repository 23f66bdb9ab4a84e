/- The walk of TreePlays of layer 11; conditions: none. -/
import Derived.Test.YtonhfddklkbnbaaTrt
namespace Go.Proofs.Ytonhfddklkbnbaa
namespace Trt
open Go Go.RowKit Sx
attribute [local irreducible] Go.Calls

theorem FitT.p8 {t : Tr} (h : FitT t) (s : Nm) : (pathT t s).length ≤ 8 := by
  cases hs : hasT t s
  · rw [path_none hs]; exact Nat.zero_le _
  · obtain ⟨e, he, rfl⟩ := has_iff.1 hs
    exact h.wf.deep e he
theorem FitT.cl {t : Tr} (h : FitT t) (s : Nm) : (childT t s).length ≤ 100000 := by
  unfold childT
  rw [List.length_map]
  have := List.length_filter_le (fun e : Nm × Nm => decide (e.2 = s) && decide (e.1 ≠ rootN)) t
  have := h.len
  omega
theorem FitT.bl {t : Tr} (h : FitT t) (s : Nm) : (belowT t s).length ≤ 100000 := by
  unfold belowT
  rw [List.length_map]
  have := List.length_filter_le (fun e : Nm × Nm => decide (s ∈ pathT t e.1)) t
  have := h.len
  omega
theorem FitT.al {t : Tr} (h : FitT t) : (t.map (·.1)).length ≤ 100000 := by rw [List.length_map]; have := h.len; omega
theorem wrap4 : ∀ i : Nat, i < 4 → IntKind.u8.wrap (i : Int) = i := by decide
theorem ldo0_ok (a : Ac) (h0 : 0 ≤ a.kind) (w : World) : Calls Try.prog 10 #[.pointer none, AV a] w fun e w' => e = .returned (I 1) ∧ Below w.heap.size w w' := by
  obtain ⟨kind, n, o⟩ := a
  simp only at h0
  refine calls1 (args := [.pointer none, AV ⟨kind, n, o⟩]) Try.func10 rfl rfl rfl rfl ?_
  have hC := fun w => tcreate0_ok n o w
  have hM := fun w => tmove0_ok n o w
  have hR := fun w => tremove0_ok n w
  rcases mod4 kind with h7 | h7 | h7 | h7
  all_goals
    repeat' (first | refine aw_seq ?_ | ((first | apply ao_val | apply aq_val); exact wants_a; (first | exact ov_rem4 h0 h7 rfl rfl | exact ov_a); (exact rfl)) | refine zy ?_ | refine zon fun _ => ?_ | refine zoa fun vr lr hr => ?_ | ((first | apply ao_call | apply aq_call); exact wants_a; (first | exact oc_func rfl | exact oc_clos rfl rfl | exact oc_bnd rfl rfl); (exact rfl); (first | exact fun w hw => hC w | exact fun w hw => hM w | exact fun w hw => hR w)) | refine zoS (fun _ => ?_) (fun _ => ?_) | refine zqS (fun _ => ?_) (fun _ => ?_) | refine zwS (fun _ => ?_) (fun _ => ?_))
    exact fun w' hw => ⟨rfl, hw.below⟩
end Trt
end Go.Proofs.Ytonhfddklkbnbaa
