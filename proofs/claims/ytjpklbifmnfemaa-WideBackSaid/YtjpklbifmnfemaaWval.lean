/- Wide numbers as values, and the contracts of the document's answer for layer 2 in their words; conditions: none. -/
import Derived.Test.YtjpklbifmnfemaaWshift
namespace Go.Proofs.Ytjpklbifmnfemaa
namespace Wid
open Go Go.RowKit Sx
attribute [local irreducible] Go.Calls

/-- Is it a number of 128 bits? -/
def inW (Z : Int) : Prop := -170141183460469231731687303715884105728 ≤ Z ∧ Z < 170141183460469231731687303715884105728
instance (Z : Int) : Decidable (inW Z) := by unfold inW; infer_instance
/-- The number, or 0 where it is none. -/
def sN (Z : Int) : Int := if inW Z then Z else 0
def sHi (Z : Int) : Int := sN Z / 18446744073709551616
def sLo (Z : Int) : Int := sN Z % 18446744073709551616
abbrev sumV (Z : Int) : Value := .tuple #[W2 (sHi Z) (sLo Z), .bool (decide (inW Z))]
theorem sN_in {Z : Int} (h : inW Z) : sN Z = Z := by unfold sN; rw [if_pos h]
theorem sN_out {Z : Int} (h : ¬ inW Z) : sN Z = 0 := by unfold sN; rw [if_neg h]
theorem sN_inW (Z : Int) : inW (sN Z) := by
  by_cases h : inW Z
  · rw [sN_in h]; exact h
  · rw [sN_out h]; unfold inW; omega
theorem s_isW (Z : Int) : isW (sHi Z) (sLo Z) := by
  have := sN_inW Z
  unfold inW at this
  unfold isW sHi sLo
  generalize sN Z = V at *
  omega
theorem s_num (Z : Int) : num (sHi Z) (sLo Z) = sN Z := by unfold num sHi sLo; omega
theorem num_inW {hi lo : Int} (h : isW hi lo) : inW (num hi lo) := by unfold isW at h; unfold inW num; omega
theorem sN_num {hi lo : Int} (h : isW hi lo) : sN (num hi lo) = num hi lo := sN_in (num_inW h)
theorem sHi_num {hi lo : Int} (h : isW hi lo) : sHi (num hi lo) = hi := by unfold sHi; rw [sN_num h]; unfold isW at h; unfold num; omega
theorem sLo_num {hi lo : Int} (h : isW hi lo) : sLo (num hi lo) = lo := by unfold sLo; rw [sN_num h]; unfold isW at h; unfold num; omega
theorem W2_s {hi lo : Int} (h : isW hi lo) : W2 hi lo = W2 (sHi (num hi lo)) (sLo (num hi lo)) := by rw [sHi_num h, sLo_num h]
theorem sumV_t {a b Z : Int} (h : isW a b) (e : num a b = Z) : Value.tuple #[W2 a b, .bool true] = sumV Z := by
  subst e
  show _ = Value.tuple #[W2 (sHi (num a b)) (sLo (num a b)), .bool (decide (inW (num a b)))]
  rw [sHi_num h, sLo_num h, decide_eq_true (num_inW h)]
theorem sumV_f {Z : Int} (h : ¬ inW Z) : Value.tuple #[W2 0 0, .bool false] = sumV Z := by
  show _ = Value.tuple #[W2 (sHi Z) (sLo Z), .bool (decide (inW Z))]
  have h1 : sHi Z = 0 := by unfold sHi; rw [sN_out h]; rfl
  have h2 : sLo Z = 0 := by unfold sLo; rw [sN_out h]; rfl
  rw [h1, h2, decide_eq_false h]
/-- A whole number of 64 bits, as it comes round. -/
theorem i64_cases (x : Int) (h0 : 0 ≤ x) (h1 : x < 18446744073709551616) : (x < 9223372036854775808 ∧ IntKind.i64.wrap x = x) ∨ (9223372036854775808 ≤ x ∧ IntKind.i64.wrap x = x - 18446744073709551616) := by
  by_cases h : x < 9223372036854775808
  · exact .inl ⟨h, wrap_lo x h0 (by omega)⟩
  · exact .inr ⟨by omega, wrap_hi x (by omega) h1⟩
theorem numV_eq (V : Int) (n : Nat) (hn : 128 ≤ n) (h0 : -(2 ^ (n - 1)) ≤ V) (h1 : V < 2 ^ (n - 1)) : numV V n = sumV V := by
  unfold numV
  rw [okN_iff V n hn h0 h1]
  by_cases h : inW V
  · have h' := h
    unfold inW at h'
    rw [if_pos (by simpa using h')]
    refine sumV_t ?_ ?_
    · have := i64_cases (V / 18446744073709551616 % 18446744073709551616) (by omega) (by omega)
      unfold isW
      omega
    · have := i64_cases (V / 18446744073709551616 % 18446744073709551616) (by omega) (by omega)
      unfold num
      omega
  · have h' := h
    unfold inW at h'
    rw [if_neg (by simpa using h')]
    exact sumV_f h

theorem p129 : (2 : Int) ^ (130 - 1) = 680564733841876926926749214863536422912 := by decide
theorem radd (h1 l1 h2 l2 : Int) (hW1 : isW h1 l1) (hW2 : isW h2 l2) (w : World) :
    Calls Try.prog 7 #[W2 h1 l1, W2 h2 l2] w fun e w' => e = .returned (sumV (num h1 l1 + num h2 l2)) ∧ Below w.heap.size w w' := by
  have h := radd_ok h1 l1 h2 l2 hW1 hW2 w
  have a := num_inW hW1
  have b := num_inW hW2
  unfold inW at a b
  rwa [numV_eq _ 130 (by decide) (by rw [p129]; omega) (by rw [p129]; omega)] at h
theorem rsub (h1 l1 h2 l2 : Int) (hW1 : isW h1 l1) (hW2 : isW h2 l2) (w : World) :
    Calls Try.prog 9 #[W2 h1 l1, W2 h2 l2] w fun e w' => e = .returned (sumV (num h1 l1 - num h2 l2)) ∧ Below w.heap.size w w' := by
  have h := rsub_ok h1 l1 h2 l2 hW1 hW2 w
  have a := num_inW hW1
  have b := num_inW hW2
  unfold inW at a b
  rwa [numV_eq _ 130 (by decide) (by rw [p129]; omega) (by rw [p129]; omega)] at h
/-- The number that a shift comes to; where there is none, one that is too great. -/
def shZ (V n : Int) : Int := if 0 ≤ n ∧ n ≤ 127 then V * 2 ^ n.toNat else 170141183460469231731687303715884105728
theorem shZ_in {V n : Int} (h : 0 ≤ n ∧ n ≤ 127) : shZ V n = V * 2 ^ n.toNat := by unfold shZ; rw [if_pos h]
theorem shZ_out {V n : Int} (h : ¬ (0 ≤ n ∧ n ≤ 127)) : ¬ inW (shZ V n) := by unfold shZ; rw [if_neg h]; unfold inW; omega
theorem rshift (hi lo n : Int) (hW : isW hi lo) (w : World) :
    Calls Try.prog 13 #[W2 hi lo, I n] w fun e w' => e = .returned (sumV (shZ (num hi lo) n)) ∧ Below w.heap.size w w' := by
  have h := rshift_ok hi lo n hW w
  by_cases hn : 0 ≤ n ∧ n ≤ 127
  · rw [if_pos hn] at h
    rw [shZ_in hn]
    have a := num_inW hW
    unfold inW at a
    have hp := pow_pos2 n.toNat
    have e : (2 : Int) ^ (n.toNat + 128 - 1) = 170141183460469231731687303715884105728 * 2 ^ n.toNat := by
      rw [show n.toNat + 128 - 1 = 127 + n.toNat by omega, Int.pow_add]; rfl
    have k1 : -170141183460469231731687303715884105728 * 2 ^ n.toNat ≤ num hi lo * 2 ^ n.toNat := Int.mul_le_mul_of_nonneg_right a.1 (Int.le_of_lt hp)
    have k2 : num hi lo * 2 ^ n.toNat < 170141183460469231731687303715884105728 * 2 ^ n.toNat := Int.mul_lt_mul_of_pos_right a.2 hp
    rwa [numV_eq _ _ (by omega) (by rw [e]; omega) (by rw [e]; omega)] at h
  · rw [if_neg hn, sumV_f (shZ_out hn)] at h
    exact h
end Wid
end Go.Proofs.Ytjpklbifmnfemaa
