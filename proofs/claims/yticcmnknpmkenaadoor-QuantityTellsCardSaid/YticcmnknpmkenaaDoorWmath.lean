/- Whole numbers and their bits: plain facts, of no program; conditions: none. -/
import Derived.WalkKit
namespace Go.Proofs.YticcmnknpmkenaaDoor
namespace Wid

/-- The i-th bit of a whole number, the lowest one first. -/
def bit (V : Int) (i : Nat) : Int := (V / 2 ^ i) % 2
theorem bit_01 (V : Int) (i : Nat) : bit V i = 0 ∨ bit V i = 1 := by unfold bit; omega
theorem pow_pos2 (i : Nat) : (0 : Int) < 2 ^ i := Int.pow_pos (by decide)

theorem dd (a : Int) {b : Int} (c : Int) (h : 0 ≤ b) : a / b / c = a / (b * c) := by
  rw [Int.ediv_ediv, if_neg (by omega)]; simp
theorem div_pow_succ (V : Int) (i : Nat) : V / 2 ^ (i + 1) = (V / 2 ^ i) / 2 := by
  rw [Int.pow_succ, dd _ _ (Int.le_of_lt (pow_pos2 i))]
/-- What a number has above its first n bits. -/
theorem bit_low (hi lo : Int) (i : Nat) (h : i < 64) : bit (hi * 18446744073709551616 + lo) i = (lo / 2 ^ i) % 2 := by
  unfold bit
  have e : (18446744073709551616 : Int) = 2 ^ i * (2 * 2 ^ (63 - i)) := by
    have : (2 : Int) ^ i * (2 * 2 ^ (63 - i)) = 2 ^ (i + (1 + (63 - i))) := by rw [Int.pow_add, Int.pow_add]; simp
    rw [this, show i + (1 + (63 - i)) = 64 by omega]; rfl
  have e2 : hi * 18446744073709551616 + lo = lo + 2 ^ i * (hi * (2 * 2 ^ (63 - i))) := by
    rw [e, ← Int.mul_assoc, Int.mul_comm hi, Int.mul_assoc, Int.add_comm]
  rw [e2, Int.add_mul_ediv_left _ _ (Int.ne_of_gt (pow_pos2 i))]
  have : hi * (2 * 2 ^ (63 - i)) = 2 * (hi * 2 ^ (63 - i)) := by rw [← Int.mul_assoc, Int.mul_comm hi 2, Int.mul_assoc]
  omega
theorem bit_high (hi lo : Int) (i : Nat) (h0 : 0 ≤ lo) (h1 : lo < 18446744073709551616) : bit (hi * 18446744073709551616 + lo) (64 + i) = (hi / 2 ^ i) % 2 := by
  unfold bit
  rw [Int.pow_add, ← dd _ _ (by decide)]
  have : (hi * 18446744073709551616 + lo) / 2 ^ 64 = hi := by
    show (hi * 18446744073709551616 + lo) / 18446744073709551616 = hi
    omega
  rw [this]
theorem bit_mod (hi : Int) (i : Nat) (h : i < 64) : ((hi % 18446744073709551616) / 2 ^ i) % 2 = (hi / 2 ^ i) % 2 := by
  have := bit_low (hi / 18446744073709551616) (hi % 18446744073709551616) i h
  unfold bit at this
  rw [← this]
  congr 2
  omega
/-- Above the sign all bits are one. -/
theorem bit_sign (V : Int) (i : Nat) (h0 : -170141183460469231731687303715884105728 ≤ V) (h1 : V < 170141183460469231731687303715884105728) (hi : 127 ≤ i) : bit V i = bit V 127 := by
  unfold bit
  have e : (2 : Int) ^ i = 170141183460469231731687303715884105728 * 2 ^ (i - 127) := by
    have : (2 : Int) ^ 127 * 2 ^ (i - 127) = 2 ^ (127 + (i - 127)) := by rw [Int.pow_add]
    rw [show (170141183460469231731687303715884105728 : Int) = 2 ^ 127 from rfl, this, show 127 + (i - 127) = i by omega]
  rw [e, ← dd _ _ (by decide), show (2 : Int) ^ 127 = 170141183460469231731687303715884105728 from rfl]
  have hp := pow_pos2 (i - 127)
  by_cases hv : 0 ≤ V
  · have : V / 170141183460469231731687303715884105728 = 0 := by omega
    rw [this, Int.zero_ediv]
  · have : V / 170141183460469231731687303715884105728 = -1 := by omega
    rw [this, Int.neg_one_ediv, Int.sign_eq_one_of_pos hp]
/-- The carry into bit i of a sum. -/
def car (X Y c : Int) (i : Nat) : Int := (X % 2 ^ i + Y % 2 ^ i + c) / 2 ^ i
theorem mod_pow_succ (X : Int) (i : Nat) : X % 2 ^ (i + 1) = 2 ^ i * bit X i + X % 2 ^ i := by
  have hp := pow_pos2 i
  have h1 := Int.mul_ediv_add_emod X (2 ^ i)
  have h2 := Int.mul_ediv_add_emod X (2 ^ (i + 1))
  have h3 : (X / 2 ^ i) = 2 * (X / 2 ^ (i + 1)) + bit X i := by
    rw [div_pow_succ]
    unfold bit
    omega
  have h4 : (2 : Int) ^ (i + 1) * (X / 2 ^ (i + 1)) = 2 ^ i * (2 * (X / 2 ^ (i + 1))) := by
    rw [Int.pow_succ, Int.mul_assoc]
  rw [h3, Int.mul_add] at h1
  rw [h4] at h2
  omega
theorem car_zero (X Y c : Int) : car X Y c 0 = c := by simp [car, Int.emod_one]
theorem car_01 (X Y c : Int) (i : Nat) (hc : c = 0 ∨ c = 1) : 0 ≤ car X Y c i ∧ car X Y c i ≤ 1 := by
  have hp := pow_pos2 i
  have hx := Int.emod_nonneg X (Int.ne_of_gt hp)
  have hy := Int.emod_nonneg Y (Int.ne_of_gt hp)
  have hx2 := Int.emod_lt_of_pos X hp
  have hy2 := Int.emod_lt_of_pos Y hp
  unfold car
  refine ⟨Int.ediv_nonneg (by omega) (by omega), ?_⟩
  have : (X % 2 ^ i + Y % 2 ^ i + c) / 2 ^ i < 2 := by
    refine Int.ediv_lt_of_lt_mul hp ?_
    omega
  omega
theorem sum_div (X Y c : Int) (i : Nat) : (X + Y + c) / 2 ^ i = X / 2 ^ i + Y / 2 ^ i + car X Y c i := by
  have hp := pow_pos2 i
  have h1 := Int.mul_ediv_add_emod X (2 ^ i)
  have h2 := Int.mul_ediv_add_emod Y (2 ^ i)
  have e : X + Y + c = (X % 2 ^ i + Y % 2 ^ i + c) + 2 ^ i * (X / 2 ^ i + Y / 2 ^ i) := by
    rw [Int.mul_add]; omega
  rw [e, Int.add_mul_ediv_left _ _ (Int.ne_of_gt hp)]
  unfold car
  omega
theorem sum_bit (X Y c : Int) (i : Nat) : bit (X + Y + c) i = (bit X i + bit Y i + car X Y c i) % 2 := by
  have := sum_div X Y c i
  unfold bit
  rw [this]
  omega
theorem car_succ (X Y c : Int) (i : Nat) : car X Y c (i + 1) = (bit X i + bit Y i + car X Y c i) / 2 := by
  have hp := pow_pos2 i
  unfold car
  rw [mod_pow_succ, mod_pow_succ, Int.pow_succ, ← dd _ _ (Int.le_of_lt hp)]
  have e : 2 ^ i * bit X i + X % 2 ^ i + (2 ^ i * bit Y i + Y % 2 ^ i) + c = (X % 2 ^ i + Y % 2 ^ i + c) + 2 ^ i * (bit X i + bit Y i) := by
    rw [Int.mul_add]; omega
  rw [e, Int.add_mul_ediv_left _ _ (Int.ne_of_gt hp)]
  congr 1
  omega
end Wid
end Go.Proofs.YticcmnknpmkenaaDoor
