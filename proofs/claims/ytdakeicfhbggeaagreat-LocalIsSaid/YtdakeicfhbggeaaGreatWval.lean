/- Whole numbers and their bits: plain facts, of no program; conditions: none. -/
import Derived.WalkKit
import Derived.Test.YtdakeicfhbggeaaGreatTy
import Derived.Test.YtdakeicfhbggeaaGreatSxz
/- Wmath: Whole numbers and their bits: plain facts, of no program; conditions: none. -/
namespace Go.Proofs.YtdakeicfhbggeaaGreat
namespace Wid
theorem dd (a : Int) {b : Int} (c : Int) (h : 0 ≤ b) : a / b / c = a / (b * c) := by
  rw [Int.ediv_ediv, if_neg (by omega)]; simp
end Wid
end Go.Proofs.YtdakeicfhbggeaaGreat
/- Wbits: Contracts of the document's answer for layer 2: bits; conditions: at most 1000 bits more. -/
namespace Go.Proofs.YtdakeicfhbggeaaGreat
namespace Wid
open Go Go.RowKit Sx
attribute [local irreducible] Go.Calls
abbrev U (n : Int) : Value := .int .u64 n
abbrev W2 (hi lo : Int) : Value := .agg #[I hi, U lo]
def isW (hi lo : Int) : Prop := -9223372036854775808 ≤ hi ∧ hi ≤ 9223372036854775807 ∧ 0 ≤ lo ∧ lo < 18446744073709551616
abbrev num (hi lo : Int) : Int := hi * 18446744073709551616 + lo
end Wid
end Go.Proofs.YtdakeicfhbggeaaGreat
/- Wref: Contracts of the document's answer for layer 2: sums, differences, fits, compare. -/
namespace Go.Proofs.YtdakeicfhbggeaaGreat
namespace Wid
open Go Go.RowKit Sx
attribute [local irreducible] Go.Calls
end Wid
end Go.Proofs.YtdakeicfhbggeaaGreat
/- Wflip: Contracts of the document's answer for layer 2: the difference. -/
namespace Go.Proofs.YtdakeicfhbggeaaGreat
namespace Wid
open Go Go.RowKit Sx
attribute [local irreducible] Go.Calls
end Wid
end Go.Proofs.YtdakeicfhbggeaaGreat
/- Wcmp: Contracts of the document's answer for layer 2: compare, fits, of. -/
namespace Go.Proofs.YtdakeicfhbggeaaGreat
namespace Wid
open Go Go.RowKit Sx
attribute [local irreducible] Go.Calls
theorem wrap_lo (n : Int) (h0 : 0 ≤ n) (h1 : n ≤ 9223372036854775807) : IntKind.i64.wrap n = n := by
  simp [IntKind.wrap, IntKind.bits, IntKind.signed]; omega
theorem wrap_hi (n : Int) (h0 : 9223372036854775808 ≤ n) (h1 : n < 18446744073709551616) : IntKind.i64.wrap n = n - 18446744073709551616 := by
  simp [IntKind.wrap, IntKind.bits, IntKind.signed]; omega
end Wid
end Go.Proofs.YtdakeicfhbggeaaGreat
/- Wshift: Contracts of the document's answer for layer 2: shift. -/
namespace Go.Proofs.YtdakeicfhbggeaaGreat
namespace Wid
open Go Go.RowKit Sx
attribute [local irreducible] Go.Calls
end Wid
end Go.Proofs.YtdakeicfhbggeaaGreat
/- Wval: Wide numbers as values, and the contracts of the document's answer for layer 2 in their words; conditions: none. -/
namespace Go.Proofs.YtdakeicfhbggeaaGreat
namespace Wid
open Go Go.RowKit Sx
attribute [local irreducible] Go.Calls
def inW (Z : Int) : Prop := -170141183460469231731687303715884105728 ≤ Z ∧ Z < 170141183460469231731687303715884105728
instance (Z : Int) : Decidable (inW Z) := by unfold inW; infer_instance
def sN (Z : Int) : Int := if inW Z then Z else 0
def sHi (Z : Int) : Int := sN Z / 18446744073709551616
def sLo (Z : Int) : Int := sN Z % 18446744073709551616
abbrev sumV (Z : Int) : Value := .tuple #[W2 (sHi Z) (sLo Z), .bool (decide (inW Z))]
theorem sN_in {Z : Int} (h : inW Z) : sN Z = Z := by unfold sN; rw [if_pos h]
theorem sN_out {Z : Int} (h : ¬ inW Z) : sN Z = 0 := by unfold sN; rw [if_neg h]
theorem sN_inW (Z : Int) : inW (sN Z) := by
  by_cases h : inW Z
  · rw [sN_in h]; exact h
  · rw [sN_out h]; unfold inW; omega
theorem s_isW (Z : Int) : isW (sHi Z) (sLo Z) := by
  have := sN_inW Z
  unfold inW at this
  unfold isW sHi sLo
  generalize sN Z = V at *
  omega
theorem s_num (Z : Int) : num (sHi Z) (sLo Z) = sN Z := by unfold num sHi sLo; omega
theorem num_inW {hi lo : Int} (h : isW hi lo) : inW (num hi lo) := by unfold isW at h; unfold inW num; omega
theorem sN_num {hi lo : Int} (h : isW hi lo) : sN (num hi lo) = num hi lo := sN_in (num_inW h)
theorem sHi_num {hi lo : Int} (h : isW hi lo) : sHi (num hi lo) = hi := by unfold sHi; rw [sN_num h]; unfold isW at h; unfold num; omega
theorem sLo_num {hi lo : Int} (h : isW hi lo) : sLo (num hi lo) = lo := by unfold sLo; rw [sN_num h]; unfold isW at h; unfold num; omega
theorem sumV_t {a b Z : Int} (h : isW a b) (e : num a b = Z) : Value.tuple #[W2 a b, .bool true] = sumV Z := by
  subst e
  show _ = Value.tuple #[W2 (sHi (num a b)) (sLo (num a b)), .bool (decide (inW (num a b)))]
  rw [sHi_num h, sLo_num h, decide_eq_true (num_inW h)]
theorem sumV_f {Z : Int} (h : ¬ inW Z) : Value.tuple #[W2 0 0, .bool false] = sumV Z := by
  show _ = Value.tuple #[W2 (sHi Z) (sLo Z), .bool (decide (inW Z))]
  have h1 : sHi Z = 0 := by unfold sHi; rw [sN_out h]; rfl
  have h2 : sLo Z = 0 := by unfold sLo; rw [sN_out h]; rfl
  rw [h1, h2, decide_eq_false h]
theorem i64_cases (x : Int) (h0 : 0 ≤ x) (h1 : x < 18446744073709551616) : (x < 9223372036854775808 ∧ IntKind.i64.wrap x = x) ∨ (9223372036854775808 ≤ x ∧ IntKind.i64.wrap x = x - 18446744073709551616) := by
  by_cases h : x < 9223372036854775808
  · exact .inl ⟨h, wrap_lo x h0 (by omega)⟩
  · exact .inr ⟨by omega, wrap_hi x (by omega) h1⟩
end Wid
end Go.Proofs.YtdakeicfhbggeaaGreat
