/- Contracts of package wide's functions: below, Of, Add, Sub, Compare, Fits; conditions: none. -/
import Derived.Test.YthabchmfhfhcaaaWval
namespace Go.Proofs.Ythabchmfhfhcaaa
namespace Wid
open Go Go.RowKit Sx
attribute [local irreducible] Go.Calls

set_option maxHeartbeats 1000000 in
theorem below_ok (hi lo : Int) (w : World) : Calls Try.prog 52 #[W2 hi lo] w fun e w' => e = .returned (.bool (decide (hi < 0))) ∧ Below w.heap.size w w' := by
  refine calls1 (args := [W2 hi lo]) Try.func52 rfl rfl rfl rfl ?_
  repeat' (first | refine aw_seq ?_ | refine zz ?_ | refine zon fun _ => ?_ | refine zoa fun vr lr hr => ?_ | refine zoS (fun _ => ?_) (fun _ => ?_) | refine zqS (fun _ => ?_) (fun _ => ?_) | refine zwS (fun _ => ?_) (fun _ => ?_))
  exact fun w' hw => ⟨rfl, hw.below⟩

set_option maxHeartbeats 1000000 in
theorem of_ok (n : Int) (h0 : -9223372036854775808 ≤ n) (h1 : n ≤ 9223372036854775807) (w : World) :
    Calls Try.prog 42 #[I n] w fun e w' => e = .returned (W2 (if n < 0 then -1 else 0) (n % 18446744073709551616)) ∧ Below w.heap.size w w' := by
  refine callsC1 (args := [I n]) Try.func42 rfl rfl rfl rfl ?_
  repeat' (first | refine aw_seq ?_ | ((first | apply ao_val | apply aq_val); exact wants_a; (first | exact ov_shr rfl rfl 63 rfl (by decide) rfl | exact ov_a); (exact rfl)) | refine zy ?_ | refine zon fun _ => ?_ | refine zoa fun vr lr hr => ?_ | refine zoS (fun _ => ?_) (fun _ => ?_) | refine zqS (fun _ => ?_) (fun _ => ?_) | refine zwS (fun _ => ?_) (fun _ => ?_))
  refine fun w' hw => ⟨?_, hw.below⟩
  have : n / 2 ^ 63 = (if n < 0 then -1 else 0) := by
    show n / 9223372036854775808 = _
    by_cases h : n < 0
    · rw [if_pos h]; omega
    · rw [if_neg h]; omega
  rw [this]

set_option maxHeartbeats 2000000 in
theorem add_ok (h1 l1 h2 l2 : Int) (hW1 : isW h1 l1) (hW2 : isW h2 l2) (w : World) :
    Calls Try.prog 43 #[W2 h1 l1, W2 h2 l2] w fun e w' => e = .returned (sumV (num h1 l1 + num h2 l2)) ∧ Below w.heap.size w w' := by
  obtain ⟨a1, a2, a3, a4⟩ := hW1
  obtain ⟨b1, b2, b3, b4⟩ := hW2
  refine callsC2 (args := [W2 h1 l1, W2 h2 l2]) Try.func43 rfl rfl rfl rfl ?_
  repeat' (first | refine aw_seq ?_ | ((first | apply ao_val | apply aq_val); exact wants_a; (first | exact ov_add64 rfl (by omega) | exact ov_a); (exact rfl)) | refine zy ?_ | refine zon fun _ => ?_ | refine zoa fun vr lr hr => ?_ | ((first | apply ao_call | apply aq_call); exact wants_a; (first | exact oc_func rfl | exact oc_clos rfl rfl); (exact rfl); (first | exact fun w hw => below_ok _ _ w)) | refine zoS (fun _ => ?_) (fun _ => ?_) | refine zqS (fun _ => ?_) (fun _ => ?_) | refine zwS (fun _ => ?_) (fun _ => ?_))
  all_goals have hc := i64_cases ((h1 % 18446744073709551616 + h2 % 18446744073709551616 + (l1 + l2 + 0) / 18446744073709551616) % 18446744073709551616) (by omega) (by omega)
  all_goals generalize IntKind.i64.wrap ((h1 % 18446744073709551616 + h2 % 18446744073709551616 + (l1 + l2 + 0) / 18446744073709551616) % 18446744073709551616) = s at *
  · refine fun w' hw => ⟨congrArg Ending.returned (sumV_f ?_), hw.below⟩
    clear hw
    unfold inW num
    simp at *
    omega
  all_goals
    refine fun w' hw => ⟨congrArg Ending.returned (sumV_t ?_ ?_), hw.below⟩
    · clear hw; unfold isW; simp at *; omega
    · clear hw; unfold num; simp at *; omega

theorem cmpI_lt {a b : Int} (h : a < b) : cmpI a b = -1 := by unfold cmpI; rw [if_pos h]
theorem cmpI_eq {a b : Int} (h : a = b) : cmpI a b = 0 := by unfold cmpI; rw [if_neg (by omega), if_pos h]
theorem cmpI_gt {a b : Int} (h : b < a) : cmpI a b = 1 := by unfold cmpI; rw [if_neg (by omega), if_neg (by omega)]
end Wid
end Go.Proofs.Ythabchmfhfhcaaa
