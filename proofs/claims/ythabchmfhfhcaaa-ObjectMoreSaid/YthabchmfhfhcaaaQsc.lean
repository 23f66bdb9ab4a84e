/- Contracts of the landed code of layer 3 that Parse rests on: Factor, needless, number, Parse; conditions: the package's table as it was laid; texts of at most 100,000 bytes. -/
import Derived.Test.YthabchmfhfhcaaaQmath
namespace Go.Proofs.Ythabchmfhfhcaaa
namespace Qty
open Go Go.RowKit Sx Wid
attribute [local irreducible] Go.Calls

/-- The table: suffixes and factors. -/
def scL : List (List UInt8 × Int) := [([84, 105], 1099511627776), ([84], 1000000000000), ([71, 105], 1073741824), ([71], 1000000000), ([77, 105], 1048576), ([77], 1000000), ([75, 105], 1024), ([107], 1000), ([], 1)]
/-- Its cells. -/
def scV : List Value := scL.flatMap fun p => [S p.1, I p.2]
theorem sc_get (i : Nat) (h : i < 9) : ∃ s f, scL[i]? = some (s, f) ∧ (scV.drop (i * 3)).take 0 = [] ∧ (scV.drop (i * 2)).take 2 = [S s, I f] ∧ facI s = f ∧ 1 ≤ f ∧ f ≤ 1099511627776 ∧ s.length ≤ 2 := by
  match i, h with
  | 0, _ | 1, _ | 2, _ | 3, _ | 4, _ | 5, _ | 6, _ | 7, _ | 8, _ => exact ⟨_, _, rfl, rfl, rfl, by decide, by decide, by decide, by decide⟩
theorem facI_none {l : List UInt8} (h : ∀ (j : Nat), j < 9 → ∀ s f, scL[j]? = some (s, f) → s ≠ l) : facI l = 0 := by
  have h0 := h 0 (by omega) _ _ rfl
  have h1 := h 1 (by omega) _ _ rfl
  have h2 := h 2 (by omega) _ _ rfl
  have h3 := h 3 (by omega) _ _ rfl
  have h4 := h 4 (by omega) _ _ rfl
  have h5 := h 5 (by omega) _ _ rfl
  have h6 := h 6 (by omega) _ _ rfl
  have h7 := h 7 (by omega) _ _ rfl
  have h8 := h 8 (by omega) _ _ rfl
  unfold facI
  rw [if_neg h8.symm, if_neg h7.symm, if_neg h5.symm, if_neg h3.symm, if_neg h1.symm, if_neg h6.symm, if_neg h4.symm, if_neg h2.symm, if_neg h0.symm]

/-- The number of the first i figures, or 0 where it is too great. -/
def numV (l : List UInt8) (i : Nat) : Int := if valP l i ≤ 9223372036854775807 then valP l i else 0

theorem take_head {l : List UInt8} {n : Nat} (h : 1 < n) : (l.take n)[0]? = l[0]? := by
  rw [List.getElem?_take_of_lt (by omega)]

end Qty
end Go.Proofs.Ythabchmfhfhcaaa
