/- Contracts of package wide's functions: left, right, Shift; conditions: none. -/
import Derived.Test.YthabchmfhfhcaaaWprog
namespace Go.Proofs.Ythabchmfhfhcaaa
namespace Wid
open Go Go.RowKit Sx
attribute [local irreducible] Go.Calls

theorem wrap_i_mod (x : Int) : IntKind.i64.wrap x = IntKind.i64.wrap (x % 18446744073709551616) := (wrap_mod_i64 x).symm
theorem wrap_congr {x y : Int} (h : x % 18446744073709551616 = y % 18446744073709551616) : IntKind.i64.wrap x = IntKind.i64.wrap y := by rw [wrap_i_mod x, wrap_i_mod y, h]
theorem wrap_mod_eq (x : Int) : IntKind.i64.wrap x % 18446744073709551616 = x % 18446744073709551616 := by
  rw [wrap_i_mod]
  have := i64_cases (x % 18446744073709551616) (by omega) (by omega)
  omega
theorem wrap_rng (x : Int) : -9223372036854775808 ≤ IntKind.i64.wrap x ∧ IntKind.i64.wrap x ≤ 9223372036854775807 := by
  rw [wrap_i_mod]
  have := i64_cases (x % 18446744073709551616) (by omega) (by omega)
  omega
theorem p64 (m : Nat) (h : m ≤ 64) : (2 : Int) ^ m * 2 ^ (64 - m) = 18446744073709551616 := by
  rw [← Int.pow_add, show m + (64 - m) = 64 by omega]; rfl
theorem two_le {m n : Nat} (h : m ≤ n) : (2 : Int) ^ m ≤ 2 ^ n := by
  obtain ⟨k, rfl⟩ : ∃ k, n = m + k := ⟨n - m, by omega⟩
  rw [Int.pow_add]
  have := Int.mul_le_mul_of_nonneg_left (show (1 : Int) ≤ 2 ^ k from pow_pos2 k) (Int.le_of_lt (pow_pos2 m))
  omega
theorem div_in {x C : Int} (m : Nat) (h0 : -C ≤ x) (h1 : x < C) : -C ≤ x / 2 ^ m ∧ x / 2 ^ m < C := by
  have hp := pow_pos2 m
  by_cases h : 0 ≤ x
  · have a := Int.ediv_nonneg h (Int.le_of_lt hp)
    have b := Int.ediv_le_self (2 ^ m) h
    omega
  · have a : x ≤ x / 2 ^ m := by
      rw [Int.le_ediv_iff_mul_le hp]
      have := Int.mul_le_mul_of_nonneg_left (show (1 : Int) ≤ 2 ^ m from hp) (show 0 ≤ -x by omega)
      simp only [Int.neg_mul] at this
      omega
    have b : x / 2 ^ m < 0 := Int.ediv_neg_of_neg_of_pos (by omega) hp
    omega
theorem inW_div {x : Int} (m : Nat) (h : inW x) : inW (x / 2 ^ m) := div_in m h.1 h.2
def lHi (V : Int) (m : Nat) : Int := IntKind.i64.wrap (V * 2 ^ m / 18446744073709551616)
def lLo (V : Int) (m : Nat) : Int := V * 2 ^ m % 18446744073709551616
theorem l_isW (V : Int) (m : Nat) : isW (lHi V m) (lLo V m) := by
  have := wrap_rng (V * 2 ^ m / 18446744073709551616)
  unfold isW lHi lLo
  omega
theorem l_num (V : Int) (m : Nat) : ∃ k, num (lHi V m) (lLo V m) = V * 2 ^ m + k * 340282366920938463463374607431768211456 := by
  have h := wrap_mod_eq (V * 2 ^ m / 18446744073709551616)
  unfold num lHi lLo
  refine ⟨(IntKind.i64.wrap (V * 2 ^ m / 18446744073709551616) - V * 2 ^ m / 18446744073709551616) / 18446744073709551616, ?_⟩
  omega
theorem l_in (V : Int) (m : Nat) (h : inW (V * 2 ^ m)) : num (lHi V m) (lLo V m) = V * 2 ^ m := by
  obtain ⟨k, hk⟩ := l_num V m
  have h2 := num_inW (l_isW V m)
  unfold inW at h h2
  omega

end Wid
end Go.Proofs.Ythabchmfhfhcaaa
