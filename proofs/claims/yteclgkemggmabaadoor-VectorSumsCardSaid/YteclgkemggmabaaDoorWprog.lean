/- Contracts of package wide's functions: below, Of, Add, Sub, Compare, Fits; conditions: none. -/
import Derived.Test.YteclgkemggmabaaDoorWval
namespace Go.Proofs.YteclgkemggmabaaDoor
namespace Wid
open Go Go.RowKit Sx
attribute [local irreducible] Go.Calls

set_option maxHeartbeats 1000000 in
theorem below_ok (hi lo : Int) (w : World) : Calls Tryd.prog 59 #[W2 hi lo] w fun e w' => e = .returned (.bool (decide (hi < 0))) ∧ Below w.heap.size w w' := by
  refine calls1 (args := [W2 hi lo]) Tryd.func59 rfl rfl rfl rfl ?_
  repeat' (first | refine ao_nil ?_ | refine aq_nil ?_ | refine zov ?_ | refine zqv ?_ | refine zok ?_ | refine zqk ?_ | refine zon fun _ => ?_ | refine zow ?_ | refine zox ?_ | refine zoz ?_ | refine zoa fun vr lr hr => ?_ | (refine aw_is ?_; first | refine aw_seq ?_ | refine aw_block ?_ | refine aw_region ?_ | refine aw_skip ?_ | refine aw_exit ?_ | refine aw_ret ?_ | refine aw_label ?_ | refine aw_scope ?_ | refine zwt ?_ | refine zwf ?_ | refine zwd ?_) | refine zoT ?_ | refine zqT ?_ | refine zwT ?_ | refine zoF ?_ | refine zqF ?_ | refine zwF ?_ | refine zp ?_ | refine ib_exit ?_ | refine ib_other ?_ | refine zr1 ?_ | refine zr2 ?_ | refine zr3 ?_ | refine zrt ?_ | refine zrc ?_ | refine zrd ?_ | refine zoS (fun _ => ?_) (fun _ => ?_) | refine zqS (fun _ => ?_) (fun _ => ?_) | refine zwS (fun _ => ?_) (fun _ => ?_))
  exact fun w' hw => ⟨rfl, hw.below⟩

set_option maxHeartbeats 1000000 in
theorem of_ok (n : Int) (h0 : -9223372036854775808 ≤ n) (h1 : n ≤ 9223372036854775807) (w : World) :
    Calls Tryd.prog 48 #[I n] w fun e w' => e = .returned (W2 (if n < 0 then -1 else 0) (n % 18446744073709551616)) ∧ Below w.heap.size w w' := by
  refine callsC1 (args := [I n]) Tryd.func48 rfl rfl rfl rfl ?_
  repeat' (first | refine ao_nil ?_ | refine aq_nil ?_ | ((first | apply ao_val | apply aq_val); exact wants_a; (first | exact ov_shr rfl rfl 63 rfl (by decide) rfl | exact ov_a); (exact rfl)) | refine zok ?_ | refine zqk ?_ | refine zon fun _ => ?_ | refine zow ?_ | refine zox ?_ | refine zoz ?_ | refine zoa fun vr lr hr => ?_ | (refine aw_is ?_; first | refine aw_seq ?_ | refine aw_block ?_ | refine aw_region ?_ | refine aw_skip ?_ | refine aw_exit ?_ | refine aw_ret ?_ | refine aw_label ?_ | refine aw_scope ?_ | refine zwt ?_ | refine zwf ?_ | refine zwd ?_) | refine zoT ?_ | refine zqT ?_ | refine zwT ?_ | refine zoF ?_ | refine zqF ?_ | refine zwF ?_ | refine zp ?_ | refine ib_exit ?_ | refine ib_other ?_ | refine zr1 ?_ | refine zr2 ?_ | refine zr3 ?_ | refine zrt ?_ | refine zrc ?_ | refine zrd ?_ | refine zoS (fun _ => ?_) (fun _ => ?_) | refine zqS (fun _ => ?_) (fun _ => ?_) | refine zwS (fun _ => ?_) (fun _ => ?_))
  refine fun w' hw => ⟨?_, hw.below⟩
  have : n / 2 ^ 63 = (if n < 0 then -1 else 0) := by
    show n / 9223372036854775808 = _
    by_cases h : n < 0
    · rw [if_pos h]; omega
    · rw [if_neg h]; omega
  rw [this]

set_option maxHeartbeats 2000000 in
theorem add_ok (h1 l1 h2 l2 : Int) (hW1 : isW h1 l1) (hW2 : isW h2 l2) (w : World) :
    Calls Tryd.prog 33 #[W2 h1 l1, W2 h2 l2] w fun e w' => e = .returned (sumV (num h1 l1 + num h2 l2)) ∧ Below w.heap.size w w' := by
  obtain ⟨a1, a2, a3, a4⟩ := hW1
  obtain ⟨b1, b2, b3, b4⟩ := hW2
  refine callsC2 (args := [W2 h1 l1, W2 h2 l2]) Tryd.func33 rfl rfl rfl rfl ?_
  repeat' (first | refine ao_nil ?_ | refine aq_nil ?_ | ((first | apply ao_val | apply aq_val); exact wants_a; (first | exact ov_add64 rfl (by omega) | exact ov_a); (exact rfl)) | refine zok ?_ | refine zqk ?_ | refine zon fun _ => ?_ | refine zow ?_ | refine zox ?_ | refine zoz ?_ | refine zoa fun vr lr hr => ?_ | ((first | apply ao_call | apply aq_call); exact wants_a; (first | exact oc_func rfl | exact oc_clos rfl rfl); (exact rfl); (first | exact fun w hw => below_ok _ _ w)) | (refine aw_is ?_; first | refine aw_seq ?_ | refine aw_block ?_ | refine aw_region ?_ | refine aw_skip ?_ | refine aw_exit ?_ | refine aw_ret ?_ | refine aw_label ?_ | refine aw_scope ?_ | refine zwt ?_ | refine zwf ?_ | refine zwd ?_) | refine zoT ?_ | refine zqT ?_ | refine zwT ?_ | refine zoF ?_ | refine zqF ?_ | refine zwF ?_ | refine zp ?_ | refine ib_exit ?_ | refine ib_other ?_ | refine zr1 ?_ | refine zr2 ?_ | refine zr3 ?_ | refine zrt ?_ | refine zrc ?_ | refine zrd ?_ | refine zoS (fun _ => ?_) (fun _ => ?_) | refine zqS (fun _ => ?_) (fun _ => ?_) | refine zwS (fun _ => ?_) (fun _ => ?_))
  all_goals have hc := i64_cases ((h1 % 18446744073709551616 + h2 % 18446744073709551616 + (l1 + l2 + 0) / 18446744073709551616) % 18446744073709551616) (by omega) (by omega)
  all_goals generalize IntKind.i64.wrap ((h1 % 18446744073709551616 + h2 % 18446744073709551616 + (l1 + l2 + 0) / 18446744073709551616) % 18446744073709551616) = s at *
  · refine fun w' hw => ⟨congrArg Ending.returned (sumV_f ?_), hw.below⟩
    clear hw
    unfold inW num
    simp at *
    omega
  all_goals
    refine fun w' hw => ⟨congrArg Ending.returned (sumV_t ?_ ?_), hw.below⟩
    · clear hw; unfold isW; simp at *; omega
    · clear hw; unfold num; simp at *; omega

set_option maxHeartbeats 2000000 in
theorem sub_ok (h1 l1 h2 l2 : Int) (hW1 : isW h1 l1) (hW2 : isW h2 l2) (w : World) :
    Calls Tryd.prog 35 #[W2 h1 l1, W2 h2 l2] w fun e w' => e = .returned (sumV (num h1 l1 - num h2 l2)) ∧ Below w.heap.size w w' := by
  obtain ⟨a1, a2, a3, a4⟩ := hW1
  obtain ⟨b1, b2, b3, b4⟩ := hW2
  refine callsC2 (args := [W2 h1 l1, W2 h2 l2]) Tryd.func35 rfl rfl rfl rfl ?_
  repeat' (first | refine ao_nil ?_ | refine aq_nil ?_ | ((first | apply ao_val | apply aq_val); exact wants_a; (first | exact ov_sub64 rfl (by omega) | exact ov_sub64 rfl (by split <;> omega) | exact ov_a); (exact rfl)) | refine zok ?_ | refine zqk ?_ | refine zon fun _ => ?_ | refine zow ?_ | refine zox ?_ | refine zoz ?_ | refine zoa fun vr lr hr => ?_ | ((first | apply ao_call | apply aq_call); exact wants_a; (first | exact oc_func rfl | exact oc_clos rfl rfl); (exact rfl); (first | exact fun w hw => below_ok _ _ w)) | (refine aw_is ?_; first | refine aw_seq ?_ | refine aw_block ?_ | refine aw_region ?_ | refine aw_skip ?_ | refine aw_exit ?_ | refine aw_ret ?_ | refine aw_label ?_ | refine aw_scope ?_ | refine zwt ?_ | refine zwf ?_ | refine zwd ?_) | refine zoT ?_ | refine zqT ?_ | refine zwT ?_ | refine zoF ?_ | refine zqF ?_ | refine zwF ?_ | refine zp ?_ | refine ib_exit ?_ | refine ib_other ?_ | refine zr1 ?_ | refine zr2 ?_ | refine zr3 ?_ | refine zrt ?_ | refine zrc ?_ | refine zrd ?_ | refine zoS (fun _ => ?_) (fun _ => ?_) | refine zqS (fun _ => ?_) (fun _ => ?_) | refine zwS (fun _ => ?_) (fun _ => ?_))
  all_goals have hc0 : (if l1 < l2 + 0 then (1 : Int) else 0) = 1 ∧ l1 < l2 ∨ (if l1 < l2 + 0 then (1 : Int) else 0) = 0 ∧ l2 ≤ l1 := by split <;> omega
  all_goals generalize (if l1 < l2 + 0 then (1 : Int) else 0) = c at *
  all_goals have hc := i64_cases ((h1 % 18446744073709551616 - h2 % 18446744073709551616 - c) % 18446744073709551616) (by omega) (by omega)
  all_goals generalize IntKind.i64.wrap ((h1 % 18446744073709551616 - h2 % 18446744073709551616 - c) % 18446744073709551616) = s at *
  · refine fun w' hw => ⟨congrArg Ending.returned (sumV_f ?_), hw.below⟩
    clear hw
    unfold inW num
    simp at *
    omega
  all_goals
    refine fun w' hw => ⟨congrArg Ending.returned (sumV_t ?_ ?_), hw.below⟩
    · clear hw; unfold isW; simp at *; omega
    · clear hw; unfold num; simp at *; omega

/-- The order of any two whole numbers. -/
theorem nan_i (n : Int) (w : World) : Calls Tryd.prog 79 #[I n] w fun e w' => e = .returned (.bool false) ∧ Below w.heap.size w w' := by
  refine calls1 (args := [I n]) Tryd.func79 rfl rfl rfl rfl ?_
  repeat' (first | refine ao_nil ?_ | refine aq_nil ?_ | refine zov ?_ | refine zqv ?_ | refine zok ?_ | refine zqk ?_ | refine zon fun _ => ?_ | refine zow ?_ | refine zox ?_ | refine zoz ?_ | refine zoa fun vr lr hr => ?_ | (refine aw_is ?_; first | refine aw_seq ?_ | refine aw_block ?_ | refine aw_region ?_ | refine aw_skip ?_ | refine aw_exit ?_ | refine aw_ret ?_ | refine aw_label ?_ | refine aw_scope ?_ | refine zwt ?_ | refine zwf ?_ | refine zwd ?_) | refine zoT ?_ | refine zqT ?_ | refine zwT ?_ | refine zoF ?_ | refine zqF ?_ | refine zwF ?_ | refine zp ?_ | refine ib_exit ?_ | refine ib_other ?_ | refine zr1 ?_ | refine zr2 ?_ | refine zr3 ?_ | refine zrt ?_ | refine zrc ?_ | refine zrd ?_ | refine zoS (fun _ => ?_) (fun _ => ?_) | refine zqS (fun _ => ?_) (fun _ => ?_) | refine zwS (fun _ => ?_) (fun _ => ?_))
  exact fun w' hw => ⟨by simp, hw.below⟩
theorem nan_u (n : Int) (w : World) : Calls Tryd.prog 80 #[U n] w fun e w' => e = .returned (.bool false) ∧ Below w.heap.size w w' := by
  refine calls1 (args := [U n]) Tryd.func80 rfl rfl rfl rfl ?_
  repeat' (first | refine ao_nil ?_ | refine aq_nil ?_ | refine zov ?_ | refine zqv ?_ | refine zok ?_ | refine zqk ?_ | refine zon fun _ => ?_ | refine zow ?_ | refine zox ?_ | refine zoz ?_ | refine zoa fun vr lr hr => ?_ | (refine aw_is ?_; first | refine aw_seq ?_ | refine aw_block ?_ | refine aw_region ?_ | refine aw_skip ?_ | refine aw_exit ?_ | refine aw_ret ?_ | refine aw_label ?_ | refine aw_scope ?_ | refine zwt ?_ | refine zwf ?_ | refine zwd ?_) | refine zoT ?_ | refine zqT ?_ | refine zwT ?_ | refine zoF ?_ | refine zqF ?_ | refine zwF ?_ | refine zp ?_ | refine ib_exit ?_ | refine ib_other ?_ | refine zr1 ?_ | refine zr2 ?_ | refine zr3 ?_ | refine zrt ?_ | refine zrc ?_ | refine zrd ?_ | refine zoS (fun _ => ?_) (fun _ => ?_) | refine zqS (fun _ => ?_) (fun _ => ?_) | refine zwS (fun _ => ?_) (fun _ => ?_))
  exact fun w' hw => ⟨by simp, hw.below⟩
theorem cmpI_lt {a b : Int} (h : a < b) : cmpI a b = -1 := by unfold cmpI; rw [if_pos h]
theorem cmpI_eq {a b : Int} (h : a = b) : cmpI a b = 0 := by unfold cmpI; rw [if_neg (by omega), if_pos h]
theorem cmpI_gt {a b : Int} (h : b < a) : cmpI a b = 1 := by unfold cmpI; rw [if_neg (by omega), if_neg (by omega)]
set_option maxHeartbeats 2000000 in
theorem cmpi_ok (a b : Int) (w : World) : Calls Tryd.prog 63 #[I a, I b] w fun e w' => e = .returned (I (cmpI a b)) ∧ Below w.heap.size w w' := by
  refine calls1 (args := [I a, I b]) Tryd.func63 rfl rfl rfl rfl ?_
  rcases Int.lt_trichotomy a b with h | h | h
  · rw [cmpI_lt h]
    repeat' (first | refine ao_nil ?_ | refine aq_nil ?_ | refine zov ?_ | refine zqv ?_ | refine zok ?_ | refine zqk ?_ | refine zon fun _ => ?_ | refine zow ?_ | refine zox ?_ | refine zoz ?_ | refine zoa fun vr lr hr => ?_ | ((first | apply ao_call | apply aq_call); exact wants_a; (first | exact oc_func rfl | exact oc_clos rfl rfl); (exact rfl); (first | exact fun w hw => nan_i _ w)) | (refine aw_is ?_; first | refine aw_seq ?_ | refine aw_block ?_ | refine aw_region ?_ | refine aw_skip ?_ | refine aw_exit ?_ | refine aw_ret ?_ | refine aw_label ?_ | refine aw_scope ?_ | refine zwt ?_ | refine zwf ?_ | refine zwd ?_) | refine zoT ?_ | refine zqT ?_ | refine zwT ?_ | refine zoF ?_ | refine zqF ?_ | refine zwF ?_ | refine zp ?_ | refine ib_exit ?_ | refine ib_other ?_ | refine zr1 ?_ | refine zr2 ?_ | refine zr3 ?_ | refine zrt ?_ | refine zrc ?_ | refine zrd ?_ | refine zoS (fun _ => ?_) (fun _ => ?_) | refine zqS (fun _ => ?_) (fun _ => ?_) | refine zwS (fun _ => ?_) (fun _ => ?_))
    exact fun w' hw => ⟨rfl, hw.below⟩
  · rw [cmpI_eq h]
    repeat' (first | refine ao_nil ?_ | refine aq_nil ?_ | refine zov ?_ | refine zqv ?_ | refine zok ?_ | refine zqk ?_ | refine zon fun _ => ?_ | refine zow ?_ | refine zox ?_ | refine zoz ?_ | refine zoa fun vr lr hr => ?_ | ((first | apply ao_call | apply aq_call); exact wants_a; (first | exact oc_func rfl | exact oc_clos rfl rfl); (exact rfl); (first | exact fun w hw => nan_i _ w)) | (refine aw_is ?_; first | refine aw_seq ?_ | refine aw_block ?_ | refine aw_region ?_ | refine aw_skip ?_ | refine aw_exit ?_ | refine aw_ret ?_ | refine aw_label ?_ | refine aw_scope ?_ | refine zwt ?_ | refine zwf ?_ | refine zwd ?_) | refine zoT ?_ | refine zqT ?_ | refine zwT ?_ | refine zoF ?_ | refine zqF ?_ | refine zwF ?_ | refine zp ?_ | refine ib_exit ?_ | refine ib_other ?_ | refine zr1 ?_ | refine zr2 ?_ | refine zr3 ?_ | refine zrt ?_ | refine zrc ?_ | refine zrd ?_ | refine zoS (fun _ => ?_) (fun _ => ?_) | refine zqS (fun _ => ?_) (fun _ => ?_) | refine zwS (fun _ => ?_) (fun _ => ?_))
    exact fun w' hw => ⟨rfl, hw.below⟩
  · rw [cmpI_gt h]
    repeat' (first | refine ao_nil ?_ | refine aq_nil ?_ | refine zov ?_ | refine zqv ?_ | refine zok ?_ | refine zqk ?_ | refine zon fun _ => ?_ | refine zow ?_ | refine zox ?_ | refine zoz ?_ | refine zoa fun vr lr hr => ?_ | ((first | apply ao_call | apply aq_call); exact wants_a; (first | exact oc_func rfl | exact oc_clos rfl rfl); (exact rfl); (first | exact fun w hw => nan_i _ w)) | (refine aw_is ?_; first | refine aw_seq ?_ | refine aw_block ?_ | refine aw_region ?_ | refine aw_skip ?_ | refine aw_exit ?_ | refine aw_ret ?_ | refine aw_label ?_ | refine aw_scope ?_ | refine zwt ?_ | refine zwf ?_ | refine zwd ?_) | refine zoT ?_ | refine zqT ?_ | refine zwT ?_ | refine zoF ?_ | refine zqF ?_ | refine zwF ?_ | refine zp ?_ | refine ib_exit ?_ | refine ib_other ?_ | refine zr1 ?_ | refine zr2 ?_ | refine zr3 ?_ | refine zrt ?_ | refine zrc ?_ | refine zrd ?_ | refine zoS (fun _ => ?_) (fun _ => ?_) | refine zqS (fun _ => ?_) (fun _ => ?_) | refine zwS (fun _ => ?_) (fun _ => ?_))
    exact fun w' hw => ⟨rfl, hw.below⟩
set_option maxHeartbeats 2000000 in
theorem cmpu_ok (a b : Int) (w : World) : Calls Tryd.prog 64 #[U a, U b] w fun e w' => e = .returned (I (cmpI a b)) ∧ Below w.heap.size w w' := by
  refine calls1 (args := [U a, U b]) Tryd.func64 rfl rfl rfl rfl ?_
  rcases Int.lt_trichotomy a b with h | h | h
  · rw [cmpI_lt h]
    repeat' (first | refine ao_nil ?_ | refine aq_nil ?_ | refine zov ?_ | refine zqv ?_ | refine zok ?_ | refine zqk ?_ | refine zon fun _ => ?_ | refine zow ?_ | refine zox ?_ | refine zoz ?_ | refine zoa fun vr lr hr => ?_ | ((first | apply ao_call | apply aq_call); exact wants_a; (first | exact oc_func rfl | exact oc_clos rfl rfl); (exact rfl); (first | exact fun w hw => nan_u _ w)) | (refine aw_is ?_; first | refine aw_seq ?_ | refine aw_block ?_ | refine aw_region ?_ | refine aw_skip ?_ | refine aw_exit ?_ | refine aw_ret ?_ | refine aw_label ?_ | refine aw_scope ?_ | refine zwt ?_ | refine zwf ?_ | refine zwd ?_) | refine zoT ?_ | refine zqT ?_ | refine zwT ?_ | refine zoF ?_ | refine zqF ?_ | refine zwF ?_ | refine zp ?_ | refine ib_exit ?_ | refine ib_other ?_ | refine zr1 ?_ | refine zr2 ?_ | refine zr3 ?_ | refine zrt ?_ | refine zrc ?_ | refine zrd ?_ | refine zoS (fun _ => ?_) (fun _ => ?_) | refine zqS (fun _ => ?_) (fun _ => ?_) | refine zwS (fun _ => ?_) (fun _ => ?_))
    exact fun w' hw => ⟨rfl, hw.below⟩
  · rw [cmpI_eq h]
    repeat' (first | refine ao_nil ?_ | refine aq_nil ?_ | refine zov ?_ | refine zqv ?_ | refine zok ?_ | refine zqk ?_ | refine zon fun _ => ?_ | refine zow ?_ | refine zox ?_ | refine zoz ?_ | refine zoa fun vr lr hr => ?_ | ((first | apply ao_call | apply aq_call); exact wants_a; (first | exact oc_func rfl | exact oc_clos rfl rfl); (exact rfl); (first | exact fun w hw => nan_u _ w)) | (refine aw_is ?_; first | refine aw_seq ?_ | refine aw_block ?_ | refine aw_region ?_ | refine aw_skip ?_ | refine aw_exit ?_ | refine aw_ret ?_ | refine aw_label ?_ | refine aw_scope ?_ | refine zwt ?_ | refine zwf ?_ | refine zwd ?_) | refine zoT ?_ | refine zqT ?_ | refine zwT ?_ | refine zoF ?_ | refine zqF ?_ | refine zwF ?_ | refine zp ?_ | refine ib_exit ?_ | refine ib_other ?_ | refine zr1 ?_ | refine zr2 ?_ | refine zr3 ?_ | refine zrt ?_ | refine zrc ?_ | refine zrd ?_ | refine zoS (fun _ => ?_) (fun _ => ?_) | refine zqS (fun _ => ?_) (fun _ => ?_) | refine zwS (fun _ => ?_) (fun _ => ?_))
    exact fun w' hw => ⟨rfl, hw.below⟩
  · rw [cmpI_gt h]
    repeat' (first | refine ao_nil ?_ | refine aq_nil ?_ | refine zov ?_ | refine zqv ?_ | refine zok ?_ | refine zqk ?_ | refine zon fun _ => ?_ | refine zow ?_ | refine zox ?_ | refine zoz ?_ | refine zoa fun vr lr hr => ?_ | ((first | apply ao_call | apply aq_call); exact wants_a; (first | exact oc_func rfl | exact oc_clos rfl rfl); (exact rfl); (first | exact fun w hw => nan_u _ w)) | (refine aw_is ?_; first | refine aw_seq ?_ | refine aw_block ?_ | refine aw_region ?_ | refine aw_skip ?_ | refine aw_exit ?_ | refine aw_ret ?_ | refine aw_label ?_ | refine aw_scope ?_ | refine zwt ?_ | refine zwf ?_ | refine zwd ?_) | refine zoT ?_ | refine zqT ?_ | refine zwT ?_ | refine zoF ?_ | refine zqF ?_ | refine zwF ?_ | refine zp ?_ | refine ib_exit ?_ | refine ib_other ?_ | refine zr1 ?_ | refine zr2 ?_ | refine zr3 ?_ | refine zrt ?_ | refine zrc ?_ | refine zrd ?_ | refine zoS (fun _ => ?_) (fun _ => ?_) | refine zqS (fun _ => ?_) (fun _ => ?_) | refine zwS (fun _ => ?_) (fun _ => ?_))
    exact fun w' hw => ⟨rfl, hw.below⟩
set_option maxHeartbeats 2000000 in
theorem cmp_ok (h1 l1 h2 l2 : Int) (hW1 : isW h1 l1) (hW2 : isW h2 l2) (w : World) :
    Calls Tryd.prog 37 #[W2 h1 l1, W2 h2 l2] w fun e w' => e = .returned (I (cmpI (num h1 l1) (num h2 l2))) ∧ Below w.heap.size w w' := by
  obtain ⟨a1, a2, a3, a4⟩ := hW1
  obtain ⟨b1, b2, b3, b4⟩ := hW2
  refine calls1 (args := [W2 h1 l1, W2 h2 l2]) Tryd.func37 rfl rfl rfl rfl ?_
  by_cases h : h1 = h2
  · have e : cmpI (num h1 l1) (num h2 l2) = cmpI l1 l2 := by subst h; unfold cmpI num; (repeat' split) <;> omega
    rw [e]
    repeat' (first | refine ao_nil ?_ | refine aq_nil ?_ | refine zov ?_ | refine zqv ?_ | refine zok ?_ | refine zqk ?_ | refine zon fun _ => ?_ | refine zow ?_ | refine zox ?_ | refine zoz ?_ | refine zoa fun vr lr hr => ?_ | ((first | apply ao_call | apply aq_call); exact wants_a; (first | exact oc_func rfl | exact oc_clos rfl rfl); (exact rfl); (first | exact fun w hw => cmpi_ok _ _ w | exact fun w hw => cmpu_ok _ _ w)) | (refine aw_is ?_; first | refine aw_seq ?_ | refine aw_block ?_ | refine aw_region ?_ | refine aw_skip ?_ | refine aw_exit ?_ | refine aw_ret ?_ | refine aw_label ?_ | refine aw_scope ?_ | refine zwt ?_ | refine zwf ?_ | refine zwd ?_) | refine zoT ?_ | refine zqT ?_ | refine zwT ?_ | refine zoF ?_ | refine zqF ?_ | refine zwF ?_ | refine zp ?_ | refine ib_exit ?_ | refine ib_other ?_ | refine zr1 ?_ | refine zr2 ?_ | refine zr3 ?_ | refine zrt ?_ | refine zrc ?_ | refine zrd ?_ | refine zoS (fun _ => ?_) (fun _ => ?_) | refine zqS (fun _ => ?_) (fun _ => ?_) | refine zwS (fun _ => ?_) (fun _ => ?_))
    exact fun w' hw => ⟨rfl, hw.below⟩
  · have e : cmpI (num h1 l1) (num h2 l2) = cmpI h1 h2 := by unfold cmpI num; (repeat' split) <;> omega
    rw [e]
    repeat' (first | refine ao_nil ?_ | refine aq_nil ?_ | refine zov ?_ | refine zqv ?_ | refine zok ?_ | refine zqk ?_ | refine zon fun _ => ?_ | refine zow ?_ | refine zox ?_ | refine zoz ?_ | refine zoa fun vr lr hr => ?_ | ((first | apply ao_call | apply aq_call); exact wants_a; (first | exact oc_func rfl | exact oc_clos rfl rfl); (exact rfl); (first | exact fun w hw => cmpi_ok _ _ w | exact fun w hw => cmpu_ok _ _ w)) | (refine aw_is ?_; first | refine aw_seq ?_ | refine aw_block ?_ | refine aw_region ?_ | refine aw_skip ?_ | refine aw_exit ?_ | refine aw_ret ?_ | refine aw_label ?_ | refine aw_scope ?_ | refine zwt ?_ | refine zwf ?_ | refine zwd ?_) | refine zoT ?_ | refine zqT ?_ | refine zwT ?_ | refine zoF ?_ | refine zqF ?_ | refine zwF ?_ | refine zp ?_ | refine ib_exit ?_ | refine ib_other ?_ | refine zr1 ?_ | refine zr2 ?_ | refine zr3 ?_ | refine zrt ?_ | refine zrc ?_ | refine zrd ?_ | refine zoS (fun _ => ?_) (fun _ => ?_) | refine zqS (fun _ => ?_) (fun _ => ?_) | refine zwS (fun _ => ?_) (fun _ => ?_))
    exact fun w' hw => ⟨rfl, hw.below⟩

set_option maxHeartbeats 2000000 in
theorem fits_ok (hi lo : Int) (hW : isW hi lo) (w : World) :
    Calls Tryd.prog 41 #[W2 hi lo] w fun e w' => e = .returned (fitsV (num hi lo)) ∧ Below w.heap.size w w' := by
  obtain ⟨a1, a2, a3, a4⟩ := hW
  refine calls2 (args := [W2 hi lo]) Tryd.func41 rfl rfl rfl rfl ?_
  have hc := i64_cases lo a3 a4
  obtain ⟨s, hs⟩ : ∃ s, IntKind.i64.wrap lo = s := ⟨_, rfl⟩
  rw [hs] at hc
  by_cases h : -9223372036854775808 ≤ num hi lo ∧ num hi lo ≤ 9223372036854775807
  · have e : fitsV (num hi lo) = .tuple #[I (IntKind.i64.wrap lo), .bool true] := by
      unfold fitsV; rw [if_pos h]; unfold num at *; rw [hs]; congr 4; omega
    have hne : (!(eqAll [I (if IntKind.i64.wrap lo < 0 then -1 else 0), U (IntKind.i64.wrap lo % 18446744073709551616)] [I hi, U lo])) = false := by
      rw [hs]
      simp only [eqAll, eqB]
      unfold num at h
      have h1 : (if s < 0 then (-1 : Int) else 0) = hi := by split <;> omega
      have h2 : s % 18446744073709551616 = lo := by omega
      rw [h1, h2]; simp
    rw [e]
    repeat' (first | refine ao_nil ?_ | refine aq_nil ?_ | refine zov ?_ | refine zqv ?_ | refine zok ?_ | refine zqk ?_ | refine zon fun _ => ?_ | refine zow ?_ | refine zox ?_ | refine zoz ?_ | refine zoa fun vr lr hr => ?_ | ((first | apply ao_call | apply aq_call); exact wants_a; (first | exact oc_func rfl | exact oc_clos rfl rfl); (exact rfl); (first | exact fun w hw => of_ok (IntKind.i64.wrap lo) (by omega) (by omega) w)) | (refine aw_is ?_; first | refine aw_seq ?_ | refine aw_block ?_ | refine aw_region ?_ | refine aw_skip ?_ | refine aw_exit ?_ | refine aw_ret ?_ | refine aw_label ?_ | refine aw_scope ?_ | refine zwt ?_ | refine zwf ?_ | refine zwd ?_) | refine zoT ?_ | refine zqT ?_ | refine zwT ?_ | refine zoF ?_ | refine zqF ?_ | refine zwF ?_ | refine zp ?_ | refine ib_exit ?_ | refine ib_other ?_ | refine zr1 ?_ | refine zr2 ?_ | refine zr3 ?_ | refine zrt ?_ | refine zrc ?_ | refine zrd ?_ | refine zoS (fun _ => ?_) (fun _ => ?_) | refine zqS (fun _ => ?_) (fun _ => ?_) | refine zwS (fun _ => ?_) (fun _ => ?_))
    exact fun w' hw => ⟨rfl, hw.below⟩
  · have e : fitsV (num hi lo) = .tuple #[I 0, .bool false] := by unfold fitsV; rw [if_neg h]
    have hne : (!(eqAll [I (if IntKind.i64.wrap lo < 0 then -1 else 0), U (IntKind.i64.wrap lo % 18446744073709551616)] [I hi, U lo])) = true := by
      rw [hs]
      simp only [eqAll, eqB]
      unfold num at h
      by_cases hn : s < 0
      · rw [if_pos hn]; simp; omega
      · rw [if_neg hn]; simp; omega
    rw [e]
    repeat' (first | refine ao_nil ?_ | refine aq_nil ?_ | refine zov ?_ | refine zqv ?_ | refine zok ?_ | refine zqk ?_ | refine zon fun _ => ?_ | refine zow ?_ | refine zox ?_ | refine zoz ?_ | refine zoa fun vr lr hr => ?_ | ((first | apply ao_call | apply aq_call); exact wants_a; (first | exact oc_func rfl | exact oc_clos rfl rfl); (exact rfl); (first | exact fun w hw => of_ok (IntKind.i64.wrap lo) (by omega) (by omega) w)) | (refine aw_is ?_; first | refine aw_seq ?_ | refine aw_block ?_ | refine aw_region ?_ | refine aw_skip ?_ | refine aw_exit ?_ | refine aw_ret ?_ | refine aw_label ?_ | refine aw_scope ?_ | refine zwt ?_ | refine zwf ?_ | refine zwd ?_) | refine zoT ?_ | refine zqT ?_ | refine zwT ?_ | refine zoF ?_ | refine zqF ?_ | refine zwF ?_ | refine zp ?_ | refine ib_exit ?_ | refine ib_other ?_ | refine zr1 ?_ | refine zr2 ?_ | refine zr3 ?_ | refine zrt ?_ | refine zrc ?_ | refine zrd ?_ | refine zoS (fun _ => ?_) (fun _ => ?_) | refine zqS (fun _ => ?_) (fun _ => ?_) | refine zwS (fun _ => ?_) (fun _ => ?_))
    exact fun w' hw => ⟨rfl, hw.below⟩
end Wid
end Go.Proofs.YteclgkemggmabaaDoor
