/- Contracts of the document's answer for layer 3: factors, figures; conditions: none. -/
import Derived.Test.YtkjjlppfomidbaaGreatTy
import Derived.Test.YtkjjlppfomidbaaGreatWrtext
/- Qref: Contracts of the document's answer for layer 3: factors, figures; conditions: none. -/
namespace Go.Proofs.YtkjjlppfomidbaaGreat
namespace Qty
open Go Go.RowKit Sx Wid
attribute [local irreducible] Go.Calls
def lenF : Nat → Int → Nat
  | 0, _ => 1
  | k + 1, n => if n / 10 = 0 then 1 else lenF k (n / 10) + 1
theorem lenF_is : ∀ (k : Nat) (n : Int), n / 10 ^ (k + 1) = 0 → IsLen n (lenF k n)
  | 0, n, h => ⟨by simp [lenF], h, fun j h1 h2 => by simp [lenF] at h2; omega⟩
  | k + 1, n, h => by
    have key : ∀ j, n / 10 / 10 ^ j = n / 10 ^ (j + 1) := fun j => by rw [Int.pow_succ, Int.mul_comm, ← dd _ _ (by decide)]
    unfold lenF
    by_cases hz : n / 10 = 0
    · rw [if_pos hz]
      exact ⟨by decide, by simpa using hz, fun j h1 h2 => by omega⟩
    · rw [if_neg hz]
      have ih := lenF_is k (n / 10) (by rw [key]; exact h)
      refine ⟨by omega, by rw [← key]; exact ih.2.1, fun j h1 h2 => ?_⟩
      obtain ⟨i, rfl⟩ : ∃ i, j = i + 1 := ⟨j - 1, by omega⟩
      rw [← key]
      by_cases hi : i = 0
      · subst hi; simpa using hz
      · exact ih.2.2 i (by omega) (by omega)
theorem lenF_le : ∀ (k : Nat) (n : Int), lenF k n ≤ k + 1
  | 0, _ => by simp [lenF]
  | k + 1, n => by
    unfold lenF
    have := lenF_le k (n / 10)
    split <;> omega
end Qty
end Go.Proofs.YtkjjlppfomidbaaGreat
/- Qparse: Contracts of the document's answer for layer 3: Parse; conditions: texts of at most 100,000 bytes. -/
namespace Go.Proofs.YtkjjlppfomidbaaGreat
namespace Qty
open Go Go.RowKit Sx Wid
attribute [local irreducible] Go.Calls
def valP (l : List UInt8) : Nat → Int
  | 0 => 0
  | i + 1 => 10 * valP l i + (((l[i]?).getD 48).toNat : Int) - 48
end Qty
end Go.Proofs.YtkjjlppfomidbaaGreat
/- Qmath: Figures, suffixes, and the quantities of texts: plain facts, of no program; conditions: none. -/
namespace Go.Proofs.YtkjjlppfomidbaaGreat
namespace Qty
open Go Go.RowKit Sx Wid
end Qty
end Go.Proofs.YtkjjlppfomidbaaGreat
/- Qsc: Contracts of the landed code of layer 3 that Parse rests on: Factor, needless, number, Parse; conditions: the package's table as it was laid; texts of at most 100,000 bytes. -/
namespace Go.Proofs.YtkjjlppfomidbaaGreat
namespace Qty
open Go Go.RowKit Sx Wid
attribute [local irreducible] Go.Calls
def numV (l : List UInt8) (i : Nat) : Int := if valP l i ≤ 9223372036854775807 then valP l i else 0
end Qty
end Go.Proofs.YtkjjlppfomidbaaGreat
