/- Contracts of math/bits.Div64 by ten, and of the closure that tells figures; conditions: none. -/
import Derived.Test.YthabchmfhfhcaaaWsh
namespace Go.Proofs.Ythabchmfhfhcaaa
namespace Wid
open Go Go.RowKit Sx
attribute [local irreducible] Go.Calls

set_option maxHeartbeats 1000000 in
theorem len_ok (w : World) : Calls Try.prog 66 #[U 10] w fun e w' => e = .returned (I 4) ∧ Below w.heap.size w w' := by
  refine calls1 (args := [U 10]) Try.func66 rfl rfl rfl rfl ?_
  repeat' (first | refine aw_seq ?_ | ((first | apply ao_val | apply aq_val); exact wants_a; (first | exact ov_sindex rfl rfl (j := 10) (c := 4) (by kernel_rfl) (by decide) | exact ov_convR 4 rfl (by decide) | exact ov_a); (exact rfl)) | refine zy ?_ | refine zon fun _ => ?_ | refine zoa fun vr lr hr => ?_ | refine zoS (fun _ => ?_) (fun _ => ?_) | refine zqS (fun _ => ?_) (fun _ => ?_) | refine zwS (fun _ => ?_) (fun _ => ?_))
  exact fun w' hw => ⟨rfl, hw.below⟩
theorem lz_ok (w : World) : Calls Try.prog 62 #[U 10] w fun e w' => e = .returned (I 60) ∧ Below w.heap.size w w' := by
  refine calls1 (args := [U 10]) Try.func62 rfl rfl rfl rfl ?_
  repeat' (first | refine aw_seq ?_ | refine zz ?_ | refine zon fun _ => ?_ | refine zoa fun vr lr hr => ?_ | ((first | apply ao_call | apply aq_call); exact wants_a; (first | exact oc_func rfl | exact oc_clos rfl rfl); (exact rfl); (first | exact fun w hw => len_ok w)) | refine zoS (fun _ => ?_) (fun _ => ?_) | refine zqS (fun _ => ?_) (fun _ => ?_) | refine zwS (fun _ => ?_) (fun _ => ?_))
  exact fun w' hw => ⟨rfl, hw.below⟩

set_option maxHeartbeats 4000000 in
theorem div_ok (h l : Int) (h0 : 0 ≤ h) (h1 : h < 10) (l0 : 0 ≤ l) (l1 : l < 18446744073709551616) (w : World) :
    Calls Try.prog 51 #[U h, U l, U 10] w fun e w' => e = .returned (.tuple #[U ((h * 18446744073709551616 + l) / 10), U ((h * 18446744073709551616 + l) % 10)]) ∧ Below w.heap.size w w' := by
  refine calls2 (args := [U h, U l, U 10]) Try.func51 rfl rfl rfl rfl ?_
  by_cases hz : h = 0
  · subst hz
    repeat' (first | refine aw_seq ?_ | refine zz ?_ | refine zon fun _ => ?_ | refine zoa fun vr lr hr => ?_ | refine zoS (fun _ => ?_) (fun _ => ?_) | refine zqS (fun _ => ?_) (fun _ => ?_) | refine zwS (fun _ => ?_) (fun _ => ?_))
    refine fun w' hw => ⟨?_, hw.below⟩
    rw [show (0 : Int) * 18446744073709551616 + l = l by omega]
  · have h2 : 0 < h := by omega
    clear hz h0
    obtain ⟨u, hu⟩ : ∃ u : Int, u = h * 1152921504606846976 + l / 16 := ⟨_, rfl⟩
    obtain ⟨v, hv⟩ : ∃ v : Int, v = l % 16 * 268435456 := ⟨_, rfl⟩
    repeat' (first | refine aw_seq ?_ | ((first | apply ao_val | apply aq_val); exact wants_a; (first | exact ov_shlR 60 11529215046068469760 rfl rfl rfl (by decide) (by decide) | exact ov_shrR 32 2684354560 rfl rfl rfl (by decide) (by decide) | exact ov_andR 32 0 (by decide) rfl rfl (by omega) (by decide) (by omega) | exact ov_shlR 60 (h * 1152921504606846976) rfl rfl rfl (by decide) (by omega) | exact ov_shrR 4 (l / 16) rfl rfl (by decide) (by decide) rfl | exact ov_orR 60 u (by decide) rfl rfl (by omega) (by omega) (by omega) | exact ov_shlR 60 (v * 4294967296) rfl rfl rfl (by decide) (by omega) | exact ov_shrR 32 v rfl rfl rfl (by decide) (by omega) | exact ov_a); (exact rfl)) | refine zy ?_ | refine zon fun _ => ?_ | refine zoa fun vr lr hr => ?_ | ((first | apply ao_call | apply aq_call); exact wants_a; (first | exact oc_func rfl | exact oc_clos rfl rfl); (exact rfl); (first | exact fun w hw => lz_ok w)) | refine zoS (fun _ => ?_) (fun _ => ?_) | refine zqS (fun _ => ?_) (fun _ => ?_) | refine zwS (fun _ => ?_) (fun _ => ?_))
    obtain ⟨q1, hq1⟩ : ∃ q1 : Int, u / 2684354560 = q1 := ⟨_, rfl⟩
    rw [hq1]
    obtain ⟨z, hz⟩ : ∃ z : Int, z = (u - q1 * 2684354560) * 4294967296 + v := ⟨_, rfl⟩
    obtain ⟨q0, hq0⟩ : ∃ q0 : Int, z / 2684354560 = q0 := ⟨_, rfl⟩
    refine aw_for (t0 := [(2, U 11529215046068469760), (8, U 60), (9, U 2684354560), (10, U 0), (11, U u), (13, U v), (14, U 0), (15, U q1), (16, U (u - q1 * 2684354560))]) (fun q t H => q = 0 ∧ t = [(2, U 11529215046068469760), (8, U 60), (9, U 2684354560), (10, U 0), (11, U u), (13, U v), (14, U 0), (15, U q1), (16, U (u - q1 * 2684354560))] ∧ H = []) ⟨rfl, rfl, rfl⟩ (by repeat (first | exact sub_nil | refine sub_cons rfl ?_)) ?_
    rintro q t H ⟨rfl, rfl, rfl⟩
    repeat' (first | refine aw_seq ?_ | ((first | apply ao_val | apply aq_val); exact wants_a; (first | exact ov_a | exact ov_mul_u64m rfl rfl | exact ov_add_u64m rfl rfl | exact ov_subR z rfl rfl (by omega)); (exact rfl)) | refine zy ?_ | refine zon fun _ => ?_ | refine zoa fun vr lr hr => ?_ | refine zoS (fun _ => ?_) (fun _ => ?_) | refine zqS (fun _ => ?_) (fun _ => ?_) | refine zwS (fun _ => ?_) (fun _ => ?_))
    rw [hq0]
    refine aw_for (t0 := [(2, U 11529215046068469760), (8, U 60), (9, U 2684354560), (10, U 0), (14, U 0), (15, U q1), (16, U (z - q0 * 2684354560)), (17, U z), (18, U q0)]) (fun q t H => q = 0 ∧ t = [(2, U 11529215046068469760), (8, U 60), (9, U 2684354560), (10, U 0), (14, U 0), (15, U q1), (16, U (z - q0 * 2684354560)), (17, U z), (18, U q0)] ∧ H = []) ⟨rfl, rfl, rfl⟩ (by repeat (first | exact sub_nil | refine sub_cons rfl ?_)) ?_
    rintro q t H ⟨rfl, rfl, rfl⟩
    repeat' (first | refine aw_seq ?_ | ((first | apply ao_val | apply aq_val); exact wants_a; (first | exact ov_shrR 60 ((z - q0 * 2684354560) / 268435456) rfl rfl rfl (by decide) (by omega) | exact ov_a | exact ov_mul_u64m rfl rfl | exact ov_add_u64m rfl rfl | exact ov_subR ((z - q0 * 2684354560) * 4294967296) rfl rfl (by omega)); (exact rfl)) | refine zy ?_ | refine zon fun _ => ?_ | refine zoa fun vr lr hr => ?_ | refine zoS (fun _ => ?_) (fun _ => ?_) | refine zqS (fun _ => ?_) (fun _ => ?_) | refine zwS (fun _ => ?_) (fun _ => ?_))
    refine fun w' hw => ⟨?_, hw.below⟩
    have e1 : q1 * 4294967296 + q0 = (h * 18446744073709551616 + l) / 10 := by omega
    have e2 : (z - q0 * 2684354560) / 268435456 = (h * 18446744073709551616 + l) % 10 := by omega
    rw [e1, e2]
end Wid
end Go.Proofs.Ythabchmfhfhcaaa
