/- Contracts of the document's answer for layer 3: factors, figures; conditions: none. -/
import Derived.Test.YthabchmfhfhcaaaTy
import Derived.Test.YthabchmfhfhcaaaWdig
namespace Go.Proofs.Ythabchmfhfhcaaa
namespace Qty
open Go Go.RowKit Sx Wid
attribute [local irreducible] Go.Calls

/-- A suffix's factor. -/
def facI (l : List UInt8) : Int :=
  if l = [] then 1 else if l = [107] then 1000 else if l = [77] then 1000000 else if l = [71] then 1000000000 else if l = [84] then 1000000000000
  else if l = [75, 105] then 1024 else if l = [77, 105] then 1048576 else if l = [71, 105] then 1073741824 else if l = [84, 105] then 1099511627776 else 0

theorem digL_cons (V : Int) (L : Nat) : digL V (L + 1) = dig V 0 :: digL (V / 10) L := by
  apply List.ext_getElem?
  intro j
  cases j with
  | zero => simp [digL]
  | succ j =>
    by_cases h : j < L
    · rw [digL_get _ _ _ (by omega), List.getElem?_cons_succ, digL_get _ _ _ h]
      unfold dig
      rw [Int.pow_succ, Int.mul_comm, ← dd _ _ (by decide)]
    · simp [digL, h]
theorem len_down {V : Int} {L : Nat} (h : IsLen V (L + 1)) (hL : 1 ≤ L) : IsLen (V / 10) L := by
  have key : ∀ j, V / 10 / 10 ^ j = V / 10 ^ (j + 1) := fun j => by rw [Int.pow_succ, Int.mul_comm, ← dd _ _ (by decide)]
  refine ⟨hL, by rw [key]; exact h.2.1, fun j h1 h2 => ?_⟩
  rw [key]
  exact h.2.2 (j + 1) (by omega) (by omega)
/-- A number's figures, where it has L of them. -/
def figB (V : Int) (L : Nat) : List UInt8 := ((digL V L).map fb).reverse
theorem figB_succ (V : Int) (L : Nat) : figB V (L + 1) = figB (V / 10) L ++ [fb (dig V 0)] := by simp [figB, digL_cons]
theorem figB_len (V : Int) (L : Nat) : (figB V L).length = L := by simp [figB, digL_len]

/-- How many figures a number has. -/
def lenF : Nat → Int → Nat
  | 0, _ => 1
  | k + 1, n => if n / 10 = 0 then 1 else lenF k (n / 10) + 1
theorem lenF_is : ∀ (k : Nat) (n : Int), n / 10 ^ (k + 1) = 0 → IsLen n (lenF k n)
  | 0, n, h => ⟨by simp [lenF], h, fun j h1 h2 => by simp [lenF] at h2; omega⟩
  | k + 1, n, h => by
    have key : ∀ j, n / 10 / 10 ^ j = n / 10 ^ (j + 1) := fun j => by rw [Int.pow_succ, Int.mul_comm, ← dd _ _ (by decide)]
    unfold lenF
    by_cases hz : n / 10 = 0
    · rw [if_pos hz]
      exact ⟨by decide, by simpa using hz, fun j h1 h2 => by omega⟩
    · rw [if_neg hz]
      have ih := lenF_is k (n / 10) (by rw [key]; exact h)
      refine ⟨by omega, by rw [← key]; exact ih.2.1, fun j h1 h2 => ?_⟩
      obtain ⟨i, rfl⟩ : ∃ i, j = i + 1 := ⟨j - 1, by omega⟩
      rw [← key]
      by_cases hi : i = 0
      · subst hi; simpa using hz
      · exact ih.2.2 i (by omega) (by omega)
theorem lenF_le : ∀ (k : Nat) (n : Int), lenF k n ≤ k + 1
  | 0, _ => by simp [lenF]
  | k + 1, n => by
    unfold lenF
    have := lenF_le k (n / 10)
    split <;> omega
abbrev lenI (n : Int) : Nat := lenF 19 n
theorem lenI_is {n : Int} (h0 : 0 ≤ n) (h1 : n ≤ 9223372036854775807) : IsLen n (lenI n) := lenF_is 19 n (by rw [show (10 : Int) ^ (19 + 1) = 100000000000000000000 by decide]; omega)
/-- A number's figures. -/
def figT (n : Int) : List UInt8 := figB n (lenI n)
theorem figT_len (n : Int) : (figT n).length ≤ 20 := by unfold figT; rw [figB_len]; exact lenF_le 19 n
/-- The suffixes, the greatest factor first. -/
def sufs : List (List UInt8) := [[84, 105], [84], [71, 105], [71], [77, 105], [77], [75, 105], [107]]
theorem sufs_get (i : Nat) (h : i < 8) : ∃ s, sufs[i]? = some s ∧ (sufs.map S)[0 + (i : Int).toNat * 1]? = some (S s) ∧ 1000 ≤ facI s ∧ facI s ≤ 1099511627776 ∧ s.length ≤ 2 := by
  match i, h with
  | 0, _ | 1, _ | 2, _ | 3, _ | 4, _ | 5, _ | 6, _ | 7, _ => exact ⟨_, rfl, rfl, by decide, by decide, by decide⟩
/-- A quantity's own text, from the i-th suffix on. -/
def ownFrom (n : Int) : List (List UInt8) → List UInt8
  | [] => figT n
  | s :: l => if n % facI s = 0 then figT (n / facI s) ++ s else ownFrom n l
/-- A quantity's own text. -/
def ownT (n : Int) : List UInt8 := if n < 0 then [] else if n = 0 then [48] else ownFrom n sufs

end Qty
end Go.Proofs.Ythabchmfhfhcaaa
