/- Contracts of package wide's functions: below, Of, Add, Sub, Compare, Fits; conditions: none. -/
import Derived.Test.YtkjjlppfomidbaaGreatWval
/- Wprog: Contracts of package wide's functions: below, Of, Add, Sub, Compare, Fits; conditions: none. -/
namespace Go.Proofs.YtkjjlppfomidbaaGreat
namespace Wid
open Go Go.RowKit Sx
attribute [local irreducible] Go.Calls
set_option maxHeartbeats 1000000 in
theorem below_ok (hi lo : Int) (w : World) : Calls Tryz.prog 90 #[W2 hi lo] w fun e w' => e = .returned (.bool (decide (hi < 0))) ∧ Below w.heap.size w w' := by
  refine calls1 (args := [W2 hi lo]) Tryz.func90 rfl rfl rfl rfl ?_
  repeat' (first | refine aw_seq ?_ | refine zz ?_ | refine zon fun _ => ?_ | refine zoa fun vr lr hr => ?_ | refine zoS (fun _ => ?_) (fun _ => ?_) | refine zqS (fun _ => ?_) (fun _ => ?_) | refine zwS (fun _ => ?_) (fun _ => ?_))
  exact fun w' hw => ⟨rfl, hw.below⟩
set_option maxHeartbeats 1000000 in
theorem of_ok (n : Int) (h0 : -9223372036854775808 ≤ n) (h1 : n ≤ 9223372036854775807) (w : World) :
    Calls Tryz.prog 84 #[I n] w fun e w' => e = .returned (W2 (if n < 0 then -1 else 0) (n % 18446744073709551616)) ∧ Below w.heap.size w w' := by
  refine callsC1 (args := [I n]) Tryz.func84 rfl rfl rfl rfl ?_
  repeat' (first | refine aw_seq ?_ | ((first | apply ao_val | apply aq_val); exact wants_a; (first | exact ov_shr rfl rfl 63 rfl (by decide) rfl | exact ov_a); (exact rfl)) | refine zy ?_ | refine zon fun _ => ?_ | refine zoa fun vr lr hr => ?_ | refine zoS (fun _ => ?_) (fun _ => ?_) | refine zqS (fun _ => ?_) (fun _ => ?_) | refine zwS (fun _ => ?_) (fun _ => ?_))
  refine fun w' hw => ⟨?_, hw.below⟩
  have : n / 2 ^ 63 = (if n < 0 then -1 else 0) := by
    show n / 9223372036854775808 = _
    by_cases h : n < 0
    · rw [if_pos h]; omega
    · rw [if_neg h]; omega
  rw [this]
set_option maxHeartbeats 2000000 in
theorem add_ok (h1 l1 h2 l2 : Int) (hW1 : isW h1 l1) (hW2 : isW h2 l2) (w : World) :
    Calls Tryz.prog 111 #[W2 h1 l1, W2 h2 l2] w fun e w' => e = .returned (sumV (num h1 l1 + num h2 l2)) ∧ Below w.heap.size w w' := by
  obtain ⟨a1, a2, a3, a4⟩ := hW1
  obtain ⟨b1, b2, b3, b4⟩ := hW2
  refine callsC2 (args := [W2 h1 l1, W2 h2 l2]) Tryz.func111 rfl rfl rfl rfl ?_
  repeat' (first | refine aw_seq ?_ | ((first | apply ao_val | apply aq_val); exact wants_a; (first | exact ov_add64 rfl (by omega) | exact ov_a); (exact rfl)) | refine zy ?_ | refine zon fun _ => ?_ | refine zoa fun vr lr hr => ?_ | ((first | apply ao_call | apply aq_call); exact wants_a; (first | exact oc_func rfl | exact oc_clos rfl rfl | exact oc_bnd rfl rfl); (exact rfl); (first | exact fun w hw => below_ok _ _ w)) | refine zoS (fun _ => ?_) (fun _ => ?_) | refine zqS (fun _ => ?_) (fun _ => ?_) | refine zwS (fun _ => ?_) (fun _ => ?_))
  all_goals have hc := i64_cases ((h1 % 18446744073709551616 + h2 % 18446744073709551616 + (l1 + l2 + 0) / 18446744073709551616) % 18446744073709551616) (by omega) (by omega)
  all_goals generalize IntKind.i64.wrap ((h1 % 18446744073709551616 + h2 % 18446744073709551616 + (l1 + l2 + 0) / 18446744073709551616) % 18446744073709551616) = s at *
  · refine fun w' hw => ⟨congrArg Ending.returned (sumV_f ?_), hw.below⟩
    clear hw
    unfold inW num
    simp at *
    omega
  all_goals
    refine fun w' hw => ⟨congrArg Ending.returned (sumV_t ?_ ?_), hw.below⟩
    · clear hw; unfold isW; simp at *; omega
    · clear hw; unfold num; simp at *; omega
set_option maxHeartbeats 2000000 in
theorem sub_ok (h1 l1 h2 l2 : Int) (hW1 : isW h1 l1) (hW2 : isW h2 l2) (w : World) :
    Calls Tryz.prog 131 #[W2 h1 l1, W2 h2 l2] w fun e w' => e = .returned (sumV (num h1 l1 - num h2 l2)) ∧ Below w.heap.size w w' := by
  obtain ⟨a1, a2, a3, a4⟩ := hW1
  obtain ⟨b1, b2, b3, b4⟩ := hW2
  refine callsC2 (args := [W2 h1 l1, W2 h2 l2]) Tryz.func131 rfl rfl rfl rfl ?_
  repeat' (first | refine aw_seq ?_ | ((first | apply ao_val | apply aq_val); exact wants_a; (first | exact ov_sub64 rfl (by omega) | exact ov_sub64 rfl (by split <;> omega) | exact ov_a); (exact rfl)) | refine zy ?_ | refine zon fun _ => ?_ | refine zoa fun vr lr hr => ?_ | ((first | apply ao_call | apply aq_call); exact wants_a; (first | exact oc_func rfl | exact oc_clos rfl rfl | exact oc_bnd rfl rfl); (exact rfl); (first | exact fun w hw => below_ok _ _ w)) | refine zoS (fun _ => ?_) (fun _ => ?_) | refine zqS (fun _ => ?_) (fun _ => ?_) | refine zwS (fun _ => ?_) (fun _ => ?_))
  all_goals have hc0 : (if l1 < l2 + 0 then (1 : Int) else 0) = 1 ∧ l1 < l2 ∨ (if l1 < l2 + 0 then (1 : Int) else 0) = 0 ∧ l2 ≤ l1 := by split <;> omega
  all_goals generalize (if l1 < l2 + 0 then (1 : Int) else 0) = c at *
  all_goals have hc := i64_cases ((h1 % 18446744073709551616 - h2 % 18446744073709551616 - c) % 18446744073709551616) (by omega) (by omega)
  all_goals generalize IntKind.i64.wrap ((h1 % 18446744073709551616 - h2 % 18446744073709551616 - c) % 18446744073709551616) = s at *
  · refine fun w' hw => ⟨congrArg Ending.returned (sumV_f ?_), hw.below⟩
    clear hw
    unfold inW num
    simp at *
    omega
  all_goals
    refine fun w' hw => ⟨congrArg Ending.returned (sumV_t ?_ ?_), hw.below⟩
    · clear hw; unfold isW; simp at *; omega
    · clear hw; unfold num; simp at *; omega
theorem cmpI_lt {a b : Int} (h : a < b) : cmpI a b = -1 := by unfold cmpI; rw [if_pos h]
theorem cmpI_eq {a b : Int} (h : a = b) : cmpI a b = 0 := by unfold cmpI; rw [if_neg (by omega), if_pos h]
theorem cmpI_gt {a b : Int} (h : b < a) : cmpI a b = 1 := by unfold cmpI; rw [if_neg (by omega), if_neg (by omega)]
set_option maxHeartbeats 2000000 in
theorem fits_ok (hi lo : Int) (hW : isW hi lo) (w : World) :
    Calls Tryz.prog 50 #[W2 hi lo] w fun e w' => e = .returned (fitsV (num hi lo)) ∧ Below w.heap.size w w' := by
  obtain ⟨a1, a2, a3, a4⟩ := hW
  refine calls2 (args := [W2 hi lo]) Tryz.func50 rfl rfl rfl rfl ?_
  have hc := i64_cases lo a3 a4
  obtain ⟨s, hs⟩ : ∃ s, IntKind.i64.wrap lo = s := ⟨_, rfl⟩
  rw [hs] at hc
  by_cases h : -9223372036854775808 ≤ num hi lo ∧ num hi lo ≤ 9223372036854775807
  · have e : fitsV (num hi lo) = .tuple #[I (IntKind.i64.wrap lo), .bool true] := by
      unfold fitsV; rw [if_pos h]; unfold num at *; rw [hs]; congr 4; omega
    have hne : (!(eqAll [I (if IntKind.i64.wrap lo < 0 then -1 else 0), U (IntKind.i64.wrap lo % 18446744073709551616)] [I hi, U lo])) = false := by
      rw [hs]
      simp only [eqAll, eqB]
      unfold num at h
      have h1 : (if s < 0 then (-1 : Int) else 0) = hi := by split <;> omega
      have h2 : s % 18446744073709551616 = lo := by omega
      rw [h1, h2]; simp
    rw [e]
    repeat' (first | refine aw_seq ?_ | refine zz ?_ | refine zon fun _ => ?_ | refine zoa fun vr lr hr => ?_ | ((first | apply ao_call | apply aq_call); exact wants_a; (first | exact oc_func rfl | exact oc_clos rfl rfl | exact oc_bnd rfl rfl); (exact rfl); (first | exact fun w hw => of_ok (IntKind.i64.wrap lo) (by omega) (by omega) w)) | refine zoS (fun _ => ?_) (fun _ => ?_) | refine zqS (fun _ => ?_) (fun _ => ?_) | refine zwS (fun _ => ?_) (fun _ => ?_))
    exact fun w' hw => ⟨rfl, hw.below⟩
  · have e : fitsV (num hi lo) = .tuple #[I 0, .bool false] := by unfold fitsV; rw [if_neg h]
    have hne : (!(eqAll [I (if IntKind.i64.wrap lo < 0 then -1 else 0), U (IntKind.i64.wrap lo % 18446744073709551616)] [I hi, U lo])) = true := by
      rw [hs]
      simp only [eqAll, eqB]
      unfold num at h
      by_cases hn : s < 0
      · rw [if_pos hn]; simp; omega
      · rw [if_neg hn]; simp; omega
    rw [e]
    repeat' (first | refine aw_seq ?_ | refine zz ?_ | refine zon fun _ => ?_ | refine zoa fun vr lr hr => ?_ | ((first | apply ao_call | apply aq_call); exact wants_a; (first | exact oc_func rfl | exact oc_clos rfl rfl | exact oc_bnd rfl rfl); (exact rfl); (first | exact fun w hw => of_ok (IntKind.i64.wrap lo) (by omega) (by omega) w)) | refine zoS (fun _ => ?_) (fun _ => ?_) | refine zqS (fun _ => ?_) (fun _ => ?_) | refine zwS (fun _ => ?_) (fun _ => ?_))
    exact fun w' hw => ⟨rfl, hw.below⟩
end Wid
end Go.Proofs.YtkjjlppfomidbaaGreat
/- Wsh: Contracts of package wide's functions: left, right, Shift; conditions: none. -/
namespace Go.Proofs.YtkjjlppfomidbaaGreat
namespace Wid
open Go Go.RowKit Sx
attribute [local irreducible] Go.Calls
end Wid
end Go.Proofs.YtkjjlppfomidbaaGreat
/- Wdiv: Contracts of math/bits.Div64 by ten, and of the closure that tells figures; conditions: none. -/
namespace Go.Proofs.YtkjjlppfomidbaaGreat
namespace Wid
open Go Go.RowKit Sx
attribute [local irreducible] Go.Calls
set_option maxHeartbeats 1000000 in
theorem len_ok (w : World) : Calls Tryz.prog 151 #[U 10] w fun e w' => e = .returned (I 4) ∧ Below w.heap.size w w' := by
  refine calls1 (args := [U 10]) Tryz.func151 rfl rfl rfl rfl ?_
  repeat' (first | refine aw_seq ?_ | ((first | apply ao_val | apply aq_val); exact wants_a; (first | exact ov_sindex rfl rfl (j := 10) (c := 4) (by kernel_rfl) (by decide) | exact ov_convR 4 rfl (by decide) | exact ov_a); (exact rfl)) | refine zy ?_ | refine zon fun _ => ?_ | refine zoa fun vr lr hr => ?_ | refine zoS (fun _ => ?_) (fun _ => ?_) | refine zqS (fun _ => ?_) (fun _ => ?_) | refine zwS (fun _ => ?_) (fun _ => ?_))
  exact fun w' hw => ⟨rfl, hw.below⟩
theorem lz_ok (w : World) : Calls Tryz.prog 124 #[U 10] w fun e w' => e = .returned (I 60) ∧ Below w.heap.size w w' := by
  refine calls1 (args := [U 10]) Tryz.func124 rfl rfl rfl rfl ?_
  repeat' (first | refine aw_seq ?_ | refine zz ?_ | refine zon fun _ => ?_ | refine zoa fun vr lr hr => ?_ | ((first | apply ao_call | apply aq_call); exact wants_a; (first | exact oc_func rfl | exact oc_clos rfl rfl | exact oc_bnd rfl rfl); (exact rfl); (first | exact fun w hw => len_ok w)) | refine zoS (fun _ => ?_) (fun _ => ?_) | refine zqS (fun _ => ?_) (fun _ => ?_) | refine zwS (fun _ => ?_) (fun _ => ?_))
  exact fun w' hw => ⟨rfl, hw.below⟩
set_option maxHeartbeats 4000000 in
theorem div_ok (h l : Int) (h0 : 0 ≤ h) (h1 : h < 10) (l0 : 0 ≤ l) (l1 : l < 18446744073709551616) (w : World) :
    Calls Tryz.prog 89 #[U h, U l, U 10] w fun e w' => e = .returned (.tuple #[U ((h * 18446744073709551616 + l) / 10), U ((h * 18446744073709551616 + l) % 10)]) ∧ Below w.heap.size w w' := by
  refine calls2 (args := [U h, U l, U 10]) Tryz.func89 rfl rfl rfl rfl ?_
  by_cases hz : h = 0
  · subst hz
    repeat' (first | refine aw_seq ?_ | refine zz ?_ | refine zon fun _ => ?_ | refine zoa fun vr lr hr => ?_ | refine zoS (fun _ => ?_) (fun _ => ?_) | refine zqS (fun _ => ?_) (fun _ => ?_) | refine zwS (fun _ => ?_) (fun _ => ?_))
    refine fun w' hw => ⟨?_, hw.below⟩
    rw [show (0 : Int) * 18446744073709551616 + l = l by omega]
  · have h2 : 0 < h := by omega
    clear hz h0
    obtain ⟨u, hu⟩ : ∃ u : Int, u = h * 1152921504606846976 + l / 16 := ⟨_, rfl⟩
    obtain ⟨v, hv⟩ : ∃ v : Int, v = l % 16 * 268435456 := ⟨_, rfl⟩
    repeat' (first | refine aw_seq ?_ | ((first | apply ao_val | apply aq_val); exact wants_a; (first | exact ov_shlR 60 11529215046068469760 rfl rfl rfl (by decide) (by decide) | exact ov_shrR 32 2684354560 rfl rfl rfl (by decide) (by decide) | exact ov_andR 32 0 (by decide) rfl rfl (by omega) (by decide) (by omega) | exact ov_shlR 60 (h * 1152921504606846976) rfl rfl rfl (by decide) (by omega) | exact ov_shrR 4 (l / 16) rfl rfl (by decide) (by decide) rfl | exact ov_orR 60 u (by decide) rfl rfl (by omega) (by omega) (by omega) | exact ov_shlR 60 (v * 4294967296) rfl rfl rfl (by decide) (by omega) | exact ov_shrR 32 v rfl rfl rfl (by decide) (by omega) | exact ov_a); (exact rfl)) | refine zy ?_ | refine zon fun _ => ?_ | refine zoa fun vr lr hr => ?_ | ((first | apply ao_call | apply aq_call); exact wants_a; (first | exact oc_func rfl | exact oc_clos rfl rfl | exact oc_bnd rfl rfl); (exact rfl); (first | exact fun w hw => lz_ok w)) | refine zoS (fun _ => ?_) (fun _ => ?_) | refine zqS (fun _ => ?_) (fun _ => ?_) | refine zwS (fun _ => ?_) (fun _ => ?_))
    obtain ⟨q1, hq1⟩ : ∃ q1 : Int, u / 2684354560 = q1 := ⟨_, rfl⟩
    rw [hq1]
    obtain ⟨z, hz⟩ : ∃ z : Int, z = (u - q1 * 2684354560) * 4294967296 + v := ⟨_, rfl⟩
    obtain ⟨q0, hq0⟩ : ∃ q0 : Int, z / 2684354560 = q0 := ⟨_, rfl⟩
    refine aw_for (t0 := [(2, U 11529215046068469760), (8, U 60), (9, U 2684354560), (10, U 0), (11, U u), (13, U v), (14, U 0), (15, U q1), (16, U (u - q1 * 2684354560))]) (fun q t H => q = 0 ∧ t = [(2, U 11529215046068469760), (8, U 60), (9, U 2684354560), (10, U 0), (11, U u), (13, U v), (14, U 0), (15, U q1), (16, U (u - q1 * 2684354560))] ∧ H = []) ⟨rfl, rfl, rfl⟩ (by repeat (first | exact sub_nil | refine sub_cons rfl ?_)) ?_
    rintro q t H ⟨rfl, rfl, rfl⟩
    repeat' (first | refine aw_seq ?_ | ((first | apply ao_val | apply aq_val); exact wants_a; (first | exact ov_a | exact ov_mul_u64m rfl rfl | exact ov_add_u64m rfl rfl | exact ov_subR z rfl rfl (by omega)); (exact rfl)) | refine zy ?_ | refine zon fun _ => ?_ | refine zoa fun vr lr hr => ?_ | refine zoS (fun _ => ?_) (fun _ => ?_) | refine zqS (fun _ => ?_) (fun _ => ?_) | refine zwS (fun _ => ?_) (fun _ => ?_))
    rw [hq0]
    refine aw_for (t0 := [(2, U 11529215046068469760), (8, U 60), (9, U 2684354560), (10, U 0), (14, U 0), (15, U q1), (16, U (z - q0 * 2684354560)), (17, U z), (18, U q0)]) (fun q t H => q = 0 ∧ t = [(2, U 11529215046068469760), (8, U 60), (9, U 2684354560), (10, U 0), (14, U 0), (15, U q1), (16, U (z - q0 * 2684354560)), (17, U z), (18, U q0)] ∧ H = []) ⟨rfl, rfl, rfl⟩ (by repeat (first | exact sub_nil | refine sub_cons rfl ?_)) ?_
    rintro q t H ⟨rfl, rfl, rfl⟩
    repeat' (first | refine aw_seq ?_ | ((first | apply ao_val | apply aq_val); exact wants_a; (first | exact ov_shrR 60 ((z - q0 * 2684354560) / 268435456) rfl rfl rfl (by decide) (by omega) | exact ov_a | exact ov_mul_u64m rfl rfl | exact ov_add_u64m rfl rfl | exact ov_subR ((z - q0 * 2684354560) * 4294967296) rfl rfl (by omega)); (exact rfl)) | refine zy ?_ | refine zon fun _ => ?_ | refine zoa fun vr lr hr => ?_ | refine zoS (fun _ => ?_) (fun _ => ?_) | refine zqS (fun _ => ?_) (fun _ => ?_) | refine zwS (fun _ => ?_) (fun _ => ?_))
    refine fun w' hw => ⟨?_, hw.below⟩
    have e1 : q1 * 4294967296 + q0 = (h * 18446744073709551616 + l) / 10 := by omega
    have e2 : (z - q0 * 2684354560) / 268435456 = (h * 18446744073709551616 + l) % 10 := by omega
    rw [e1, e2]
end Wid
end Go.Proofs.YtkjjlppfomidbaaGreat
/- Wdig: Figures of whole numbers: plain facts, of no program; conditions: none. -/
namespace Go.Proofs.YtkjjlppfomidbaaGreat
namespace Wid
def dig (V : Int) (i : Nat) : Int := V / 10 ^ i % 10
theorem ten_pos (i : Nat) : (0 : Int) < 10 ^ i := Int.pow_pos (by decide)
theorem dig_rng (V : Int) (i : Nat) : 0 ≤ dig V i ∧ dig V i < 10 := by unfold dig; omega
theorem div_ten (V : Int) (i : Nat) : V / 10 ^ (i + 1) = V / 10 ^ i / 10 := by rw [Int.pow_succ, dd _ _ (Int.le_of_lt (ten_pos i))]
def IsLen (V : Int) (L : Nat) : Prop := 1 ≤ L ∧ V / 10 ^ L = 0 ∧ ∀ j, 1 ≤ j → j < L → V / 10 ^ j ≠ 0
def digL (V : Int) (n : Nat) : List Int := (List.range n).map (dig V)
theorem digL_len (V : Int) (n : Nat) : (digL V n).length = n := by simp [digL]
theorem digL_succ (V : Int) (n : Nat) : digL V (n + 1) = digL V n ++ [dig V n] := by simp [digL, List.range_succ]
def fb (d : Int) : UInt8 := UInt8.ofNat (48 + d).toNat
theorem fb_nat (V : Int) (i : Nat) : ((fb (dig V i)).toNat : Int) = 48 + dig V i := by
  have := dig_rng V i
  unfold fb
  rw [UInt8.toNat_ofNat']
  omega
def txt (X : Int) (L : Nat) : List UInt8 := (if X < 0 then [45] else []) ++ ((digL X.natAbs L).map fb).reverse
theorem len_le {V : Int} {L k : Nat} (h : IsLen V L) (hk : 1 ≤ k) (h0 : V / 10 ^ k = 0) : L ≤ k := by
  rcases Nat.lt_or_ge k L with hl | hl
  · exact absurd h0 (h.2.2 k hk hl)
  · exact hl
end Wid
end Go.Proofs.YtkjjlppfomidbaaGreat
/- Wtext: Contracts of package wide's functions: size, the closure that tells figures, Text; conditions: none. -/
namespace Go.Proofs.YtkjjlppfomidbaaGreat
namespace Wid
open Go Go.RowKit Sx
attribute [local irreducible] Go.Calls
set_option maxHeartbeats 1000000 in
theorem size_ok (hi lo : Int) (hW : isW hi lo) (w : World) :
    Calls Tryz.prog 87 #[W2 hi lo] w fun e w' => e = .returned (.tuple #[U ((num hi lo).natAbs / 18446744073709551616), U ((num hi lo).natAbs % 18446744073709551616)]) ∧ Below w.heap.size w w' := by
  obtain ⟨a1, a2, a3, a4⟩ := hW
  refine calls2 (args := [W2 hi lo]) Tryz.func87 rfl rfl rfl rfl ?_
  by_cases h : hi < 0
  · have hd : (!decide (hi < 0)) = false := by simp [h]
    repeat' (first | refine aw_seq ?_ | ((first | apply ao_val | apply aq_val); exact wants_a; (first | exact ov_sub64 rfl (by omega) | exact ov_sub64 rfl (by split <;> omega) | exact ov_a); (exact rfl)) | refine zy ?_ | refine zon fun _ => ?_ | refine zoa fun vr lr hr => ?_ | ((first | apply ao_call | apply aq_call); exact wants_a; (first | exact oc_func rfl | exact oc_clos rfl rfl | exact oc_bnd rfl rfl); (exact rfl); (first | exact fun w hw => below_ok _ _ w)) | refine zoS (fun _ => ?_) (fun _ => ?_) | refine zqS (fun _ => ?_) (fun _ => ?_) | refine zwS (fun _ => ?_) (fun _ => ?_))
    refine fun w' hw => ⟨?_, hw.below⟩
    have hc0 : (if 0 < lo + 0 then (1 : Int) else 0) = 1 ∧ 0 < lo ∨ (if 0 < lo + 0 then (1 : Int) else 0) = 0 ∧ lo = 0 := by split <;> omega
    generalize (if 0 < lo + 0 then (1 : Int) else 0) = c at *
    have e1 : (0 - hi % 18446744073709551616 - c) % 18446744073709551616 = ((num hi lo).natAbs : Int) / 18446744073709551616 := by unfold num; omega
    have e2 : (0 - lo - 0) % 18446744073709551616 = ((num hi lo).natAbs : Int) % 18446744073709551616 := by unfold num; omega
    rw [e1, e2]
  · have hd : (!decide (hi < 0)) = true := by simp [h]
    repeat' (first | refine aw_seq ?_ | refine zz ?_ | refine zon fun _ => ?_ | refine zoa fun vr lr hr => ?_ | ((first | apply ao_call | apply aq_call); exact wants_a; (first | exact oc_func rfl | exact oc_clos rfl rfl | exact oc_bnd rfl rfl); (exact rfl); (first | exact fun w hw => below_ok _ _ w)) | refine zoS (fun _ => ?_) (fun _ => ?_) | refine zqS (fun _ => ?_) (fun _ => ?_) | refine zwS (fun _ => ?_) (fun _ => ?_))
    refine fun w' hw => ⟨?_, hw.below⟩
    have e1 : hi = ((num hi lo).natAbs : Int) / 18446744073709551616 := by unfold num; omega
    have e2 : lo = ((num hi lo).natAbs : Int) % 18446744073709551616 := by unfold num; omega
    rw [← e1, ← e2]
abbrev UW (N : Int) (e : TypeId) : Obj := .cells #[U N] e (0, 0)
abbrev B8 (n : Int) : Value := .int .u8 n
set_option maxHeartbeats 2000000 in
theorem fig_ok (E : Env) (bh bl : Nat) (N : Int) (h0 : 0 ≤ N) (h1 : N < 340282366920938463463374607431768211456) :
    CallsF Tryz.prog E 88 [.pointer (some ⟨bh, 0, none⟩), .pointer (some ⟨bl, 0, none⟩)] [(bh, UW (N / 18446744073709551616) 92), (bl, UW (N % 18446744073709551616) 92)]
      (B8 (48 + dig N 0)) [(bh, UW (N / 10 / 18446744073709551616) 92), (bl, UW (N / 10 % 18446744073709551616) 92)] := by
  intro R
  obtain ⟨B, w0, m⟩ := E
  refine callsH1 Tryz.func88 rfl rfl rfl rfl ?_
  have hd := dig_rng N 0
  have h10 : dig N 0 = N % 10 := by unfold dig; simp
  repeat' (first | refine aw_seq ?_ | ((first | apply ao_val | apply aq_val); exact wants_a; (first | exact ov_convR (dig N 0) rfl (by rw [wrap_u8 (by omega) (by omega)]; omega) | exact ov_addR (48 + dig N 0) rfl rfl (wrap_u8 (by omega) (by omega)) | exact ov_a); (exact rfl)) | refine zy ?_ | refine zon fun _ => ?_ | refine zoa fun vr lr hr => ?_ | ((first | apply ao_call | apply aq_call); exact wants_a; (first | exact oc_func rfl | exact oc_clos rfl rfl | exact oc_bnd rfl rfl); (exact rfl); (first | exact fun w hw => div_ok _ _ (by omega) (by omega) (by omega) (by omega) w)) | refine zoS (fun _ => ?_) (fun _ => ?_) | refine zqS (fun _ => ?_) (fun _ => ?_) | refine zwS (fun _ => ?_) (fun _ => ?_))
  refine ⟨rfl, ?_⟩
  have e1 : (0 * 18446744073709551616 + N / 18446744073709551616) / 10 = N / 10 / 18446744073709551616 := by omega
  have e2 : ((0 * 18446744073709551616 + N / 18446744073709551616) % 10 * 18446744073709551616 + N % 18446744073709551616) / 10 = N / 10 % 18446744073709551616 := by omega
  rw [e1, e2]
  rfl
def TxtInv (cs : List Value) (N : Int) (j : Nat) : Prop := cs.length = 40 ∧ cs.drop (40 - j) = ((digL N j).map fun d => B8 (48 + d)).reverse
theorem drop_set {cs : List Value} {i : Nat} {v : Value} (h : i < cs.length) : (cs.set i v).drop i = v :: cs.drop (i + 1) := by
  rw [List.drop_eq_getElem_cons (by simpa using h), List.drop_set_of_lt (by omega)]
  simp
theorem txtInv_succ {cs : List Value} {N : Int} {j i : Nat} (h : TxtInv cs N j) (hj : j < 40) (hi : i = 39 - j) : TxtInv (cs.set i (B8 (48 + dig N j))) N (j + 1) := by
  subst hi
  obtain ⟨h1, h2⟩ := h
  refine ⟨by simpa using h1, ?_⟩
  rw [show 40 - (j + 1) = 39 - j by omega, drop_set (by omega), show 39 - j + 1 = 40 - j by omega, h2, digL_succ]
  simp
theorem txt_cells (V : Int) (L : Nat) : (((digL V L).map fb).reverse).map (fun c => B8 (c.toNat : Int)) = ((digL V L).map fun d => B8 (48 + d)).reverse := by
  rw [List.map_reverse]
  congr 1
  simp [digL, fb_nat]
theorem txt_neg {X : Int} (h : X < 0) (L : Nat) : txt X L = 45 :: ((digL X.natAbs L).map fb).reverse := by unfold txt; rw [if_pos h]; rfl
theorem txt_pos {X : Int} (h : ¬ X < 0) (L : Nat) : txt X L = ((digL X.natAbs L).map fb).reverse := by unfold txt; rw [if_neg h]; rfl
set_option maxHeartbeats 4000000 in
theorem text_ok (hi lo : Int) (L : Nat) (hW : isW hi lo) (hL : IsLen (num hi lo).natAbs L) (w : World) :
    Calls Tryz.prog 56 #[W2 hi lo] w fun e w' => e = .returned (S (txt (num hi lo) L)) ∧ Below w.heap.size w w' := by
  have hin := num_inW hW
  unfold inW at hin
  obtain ⟨N, hN⟩ : ∃ N : Int, ((num hi lo).natAbs : Int) = N := ⟨_, rfl⟩
  have hN0 : 0 ≤ N := by omega
  have hN1 : N < 340282366920938463463374607431768211456 := by omega
  have h39 : N / 10 ^ 39 = 0 := by
    rw [show (10 : Int) ^ 39 = 1000000000000000000000000000000000000000 by decide]; omega
  rw [hN] at hL
  have hL39 := len_le hL (by decide) h39
  have hsz := size_ok hi lo hW
  rw [hN] at hsz
  refine calls1 (args := [W2 hi lo]) Tryz.func56 rfl rfl rfl rfl ?_
  have hfirst : TxtInv ([B8 0, B8 0, B8 0, B8 0, B8 0, B8 0, B8 0, B8 0, B8 0, B8 0, B8 0, B8 0, B8 0, B8 0, B8 0, B8 0, B8 0, B8 0, B8 0, B8 0, B8 0, B8 0, B8 0, B8 0, B8 0, B8 0, B8 0, B8 0, B8 0, B8 0, B8 0, B8 0, B8 0, B8 0, B8 0, B8 0, B8 0, B8 0, B8 0] ++ [B8 (48 + dig N 0)]) N 1 := ⟨rfl, rfl⟩
  repeat' (first | refine aw_seq ?_ | refine zz ?_ | refine zon fun _ => ?_ | refine zoa fun vr lr hr => ?_ | ((first | apply ao_call | apply aq_call); exact wants_a; (first | exact oc_func rfl | exact oc_clos rfl rfl | exact oc_bnd rfl rfl); (exact rfl); (first | exact fun w hw => hsz w)) | (apply ao_callF; exact wants_a; (first | exact oc_func rfl | exact oc_clos rfl rfl | exact oc_bnd rfl rfl); (exact rfl); (first | exact fig_ok _ _ _ N hN0 hN1); exact cuts_a; intro _ hH; simp only [List.cons_append, List.nil_append] at hH; subst hH) | refine zoS (fun _ => ?_) (fun _ => ?_) | refine zqS (fun _ => ?_) (fun _ => ?_) | refine zwS (fun _ => ?_) (fun _ => ?_))
  refine aw_forH (H0 := [(_, UW (N / 10 / 18446744073709551616) 92), (_, UW (N / 10 % 18446744073709551616) 92), (_, .cells _ 146), (_, .cells #[I hi, U lo] 94)]) (t0 := [(1, .pointer (some ⟨_, 0, none⟩)), (3, .pointer (some ⟨_, 0, none⟩)), (4, .pointer (some ⟨_, 0, none⟩)), (5, .func (.func 88) #[] #[.pointer (some ⟨_, 0, none⟩), .pointer (some ⟨_, 0, none⟩)]), (6, .pointer (some ⟨_, 0, none⟩)), (7, I (40 - (1 : Nat)))]) (fun q t H => ∃ (ba bh bl bw j : Nat) (cs : List Value), q = 40 - j ∧ 1 ≤ j ∧ j ≤ L ∧ TxtInv cs N j ∧ t = [(1, .pointer (some ⟨bw, 0, none⟩)), (3, .pointer (some ⟨bh, 0, none⟩)), (4, .pointer (some ⟨bl, 0, none⟩)), (5, .func (.func 88) #[] #[.pointer (some ⟨bh, 0, none⟩), .pointer (some ⟨bl, 0, none⟩)]), (6, .pointer (some ⟨ba, 0, none⟩)), (7, I (40 - (j : Int)))] ∧ H = [(bh, UW (N / 10 ^ j / 18446744073709551616) 92), (bl, UW (N / 10 ^ j % 18446744073709551616) 92), (ba, .cells cs.toArray 146), (bw, .cells #[I hi, U lo] 94)]) ⟨_, _, _, _, 1, _, rfl, by decide, hL.1, hfirst, rfl, by rw [Int.pow_one]⟩ (by repeat (first | exact sub_nil | refine sub_cons rfl ?_)) hsub_a ?_
  rintro q t H ⟨ba, bh, bl, bw, j, cs, rfl, hj1, hjL, hinv, rfl, rfl⟩
  obtain ⟨hlen, hdrop⟩ := id hinv
  have hz0 : 0 ≤ N / 10 ^ j := Int.ediv_nonneg hN0 (Int.le_of_lt (ten_pos j))
  have hz1 : N / 10 ^ j < 340282366920938463463374607431768211456 := Int.lt_of_le_of_lt (Int.ediv_le_self _ hN0) hN1
  by_cases hz : N / 10 ^ j = 0
  · obtain rfl : j = L := by have := len_le hL hj1 hz; omega
    by_cases hneg : hi < 0
    · have hat : ((40 : Int) - j - 1).toNat = 39 - j := by omega
      have hX : num hi lo < 0 := by unfold isW at hW; unfold num; omega
      have hn1 : 40 - (39 - j) = (txt (num hi lo) j).length := by rw [txt_neg hX]; simp [digL_len]; omega
      have hc1 : ((cs.set (0 + ((40 : Int) - j - 1).toNat * 1) (B8 45)).drop (39 - j)).take (40 - (39 - j)) = (txt (num hi lo) j).map fun c => B8 (c.toNat : Int) := by
        rw [List.take_of_length_le (by simp; omega), hat, Nat.zero_add, Nat.mul_one, drop_set (by omega), show 39 - j + 1 = 40 - j by omega, hdrop, txt_neg hX, hN, List.map_cons, txt_cells]
        rfl
      repeat' (first | refine aw_seq ?_ | ((first | apply ao_val | apply aq_val); exact wants_a; (first | exact ov_slarr_lo rfl rfl (n := 39 - j) (by omega) (by omega) | exact ov_b2s rfl (by solve | (repeat (first | exact Has.head | apply Has.tail | apply Has.appR))) hn1 hc1 | exact ov_a); (exact rfl)) | refine zy ?_ | refine zon fun _ => ?_ | refine zoa fun vr lr hr => ?_ | ((first | apply ao_call | apply aq_call); exact wants_a; (first | exact oc_func rfl | exact oc_clos rfl rfl | exact oc_bnd rfl rfl); (exact rfl); (first | exact fun w hw => below_ok _ _ w)) | refine zoS (fun _ => ?_) (fun _ => ?_) | refine zqS (fun _ => ?_) (fun _ => ?_) | refine zwS (fun _ => ?_) (fun _ => ?_))
      exact fun w' hw => ⟨rfl, hw.below⟩
    · have hX : ¬ num hi lo < 0 := by unfold isW at hW; unfold num; omega
      have hn1 : 40 - (40 - j) = (txt (num hi lo) j).length := by rw [txt_pos hX]; simp [digL_len]; omega
      have hc1 : (cs.drop (40 - j)).take (40 - (40 - j)) = (txt (num hi lo) j).map fun c => B8 (c.toNat : Int) := by
        rw [List.take_of_length_le (by simp; omega), hdrop, txt_pos hX, hN, txt_cells]
      repeat' (first | refine aw_seq ?_ | ((first | apply ao_val | apply aq_val); exact wants_a; (first | exact ov_slarr_lo rfl rfl (n := 40 - j) (by omega) (by omega) | exact ov_b2s rfl (by solve | (repeat (first | exact Has.head | apply Has.tail | apply Has.appR))) hn1 hc1 | exact ov_a); (exact rfl)) | refine zy ?_ | refine zon fun _ => ?_ | refine zoa fun vr lr hr => ?_ | ((first | apply ao_call | apply aq_call); exact wants_a; (first | exact oc_func rfl | exact oc_clos rfl rfl | exact oc_bnd rfl rfl); (exact rfl); (first | exact fun w hw => below_ok _ _ w)) | refine zoS (fun _ => ?_) (fun _ => ?_) | refine zqS (fun _ => ?_) (fun _ => ?_) | refine zwS (fun _ => ?_) (fun _ => ?_))
      exact fun w' hw => ⟨rfl, hw.below⟩
  · have hd0 : dig (N / 10 ^ j) 0 = dig N j := by unfold dig; simp
    have hfig := fun E bh bl => fig_ok E bh bl (N / 10 ^ j) hz0 hz1
    rw [hd0] at hfig
    have hj : j < L := by
      rcases Nat.lt_or_ge j L with h | h
      · exact h
      · have : j = L := by omega
        subst this; exact absurd hL.2.1 hz
    have hnext := txtInv_succ (i := 0 + ((40 : Int) - j - 1).toNat * 1) hinv (by omega) (by omega)
    have hor : N / 10 ^ j / 18446744073709551616 = 0 → N / 10 ^ j % 18446744073709551616 ≠ 0 := by omega
    rw [← div_ten] at hfig
    generalize N / 10 ^ j / 18446744073709551616 = zh at *
    generalize N / 10 ^ j % 18446744073709551616 = zl at *
    by_cases hzh : zh = 0
    · have := hor hzh
      repeat' (first | refine aw_seq ?_ | refine zz ?_ | refine zon fun _ => ?_ | refine zoa fun vr lr hr => ?_ | (apply ao_callF; exact wants_a; (first | exact oc_func rfl | exact oc_clos rfl rfl | exact oc_bnd rfl rfl); (exact rfl); (first | exact hfig _ _ _); exact cuts_a; intro _ hH; simp only [List.cons_append, List.nil_append] at hH; subst hH) | refine zoS (fun _ => ?_) (fun _ => ?_) | refine zqS (fun _ => ?_) (fun _ => ?_) | refine zwS (fun _ => ?_) (fun _ => ?_))
      exact lq_normal' ⟨ba, bh, bl, bw, j + 1, _, rfl, by omega, by omega, hnext, rfl, rfl⟩ (by omega) (by exact sub_cons rfl (sub_cons rfl (sub_cons rfl (sub_cons rfl (sub_cons rfl (sub_cons' rfl (congrArg I (by omega)) sub_nil)))))) hsub_a
    · repeat' (first | refine aw_seq ?_ | refine zz ?_ | refine zon fun _ => ?_ | refine zoa fun vr lr hr => ?_ | (apply ao_callF; exact wants_a; (first | exact oc_func rfl | exact oc_clos rfl rfl | exact oc_bnd rfl rfl); (exact rfl); (first | exact hfig _ _ _); exact cuts_a; intro _ hH; simp only [List.cons_append, List.nil_append] at hH; subst hH) | refine zoS (fun _ => ?_) (fun _ => ?_) | refine zqS (fun _ => ?_) (fun _ => ?_) | refine zwS (fun _ => ?_) (fun _ => ?_))
      exact lq_normal' ⟨ba, bh, bl, bw, j + 1, _, rfl, by omega, by omega, hnext, rfl, rfl⟩ (by omega) (by exact sub_cons rfl (sub_cons rfl (sub_cons rfl (sub_cons rfl (sub_cons rfl (sub_cons' rfl (congrArg I (by omega)) sub_nil)))))) hsub_a
end Wid
end Go.Proofs.YtkjjlppfomidbaaGreat
/- Wrtext: Contract of the document's answer for layer 2: texts; conditions: none. -/
namespace Go.Proofs.YtkjjlppfomidbaaGreat
namespace Wid
open Go Go.RowKit Sx
attribute [local irreducible] Go.Calls
theorem txt_len (X : Int) (L : Nat) : (txt X L).length = (if X < 0 then 1 else 0) + L := by
  unfold txt; split <;> simp [digL_len]; omega
end Wid
end Go.Proofs.YtkjjlppfomidbaaGreat
