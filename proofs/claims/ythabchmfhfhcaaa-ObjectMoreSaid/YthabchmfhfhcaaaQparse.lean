/- Contracts of the document's answer for layer 3: Parse; conditions: texts of at most 100,000 bytes. -/
import Derived.Test.YthabchmfhfhcaaaQref
namespace Go.Proofs.Ythabchmfhfhcaaa
namespace Qty
open Go Go.RowKit Sx Wid
attribute [local irreducible] Go.Calls

def isFig (c : UInt8) : Bool := decide (48 ≤ (c.toNat : Int)) && decide ((c.toNat : Int) ≤ 57)
/-- How many figures a text begins with. -/
def figN : List UInt8 → Nat
  | [] => 0
  | c :: l => if isFig c then figN l + 1 else 0
theorem figN_le : ∀ (l : List UInt8), figN l ≤ l.length
  | [] => Nat.le_refl _
  | c :: l => by unfold figN; split <;> simp; exact figN_le l
theorem figN_lt : ∀ (l : List UInt8) (i : Nat), i < figN l → ∃ c, l[i]? = some c ∧ isFig c = true
  | [], i, h => by simp [figN] at h
  | c :: l, i, h => by
    unfold figN at h
    by_cases hc : isFig c
    · rw [if_pos hc] at h
      cases i with
      | zero => exact ⟨c, rfl, hc⟩
      | succ i => simpa using figN_lt l i (by omega)
    · rw [if_neg hc] at h; omega
theorem figN_stop : ∀ (l : List UInt8) (c : UInt8), l[figN l]? = some c → isFig c = false
  | [], c, h => by simp at h
  | d :: l, c, h => by
    unfold figN at h
    by_cases hd : isFig d
    · rw [if_pos hd] at h
      exact figN_stop l c (by simpa using h)
    · rw [if_neg hd] at h
      simp at h; subst h; simpa using hd
/-- The number of the first i figures. -/
def valP (l : List UInt8) : Nat → Int
  | 0 => 0
  | i + 1 => 10 * valP l i + (((l[i]?).getD 48).toNat : Int) - 48
theorem fig_rng {c : UInt8} (h : isFig c = true) : 48 ≤ (c.toNat : Int) ∧ (c.toNat : Int) ≤ 57 := by simpa [isFig] using h
theorem valP_succ {l : List UInt8} {i : Nat} {c : UInt8} (h : l[i]? = some c) : valP l (i + 1) = 10 * valP l i + c.toNat - 48 := by simp [valP, h]
theorem valP_nonneg (l : List UInt8) : ∀ (i : Nat), i ≤ figN l → 0 ≤ valP l i
  | 0, _ => by simp [valP]
  | i + 1, h => by
    obtain ⟨c, hc, hf⟩ := figN_lt l i (by omega)
    have := fig_rng hf
    have ih := valP_nonneg l i (by omega)
    rw [valP_succ hc]
    omega
theorem valP_mono (l : List UInt8) (i : Nat) (h : i ≤ figN l) : ∀ (k : Nat), i + k ≤ figN l → valP l i ≤ valP l (i + k)
  | 0, _ => Int.le_refl _
  | k + 1, hk => by
    have ih := valP_mono l i h k (by omega)
    obtain ⟨c, hc, hf⟩ := figN_lt l (i + k) (by omega)
    have := fig_rng hf
    have h0 := valP_nonneg l (i + k) (by omega)
    rw [← Nat.add_assoc, valP_succ hc]
    omega
theorem valP_end (l : List UInt8) (i : Nat) (h : i ≤ figN l) : valP l i ≤ valP l (figN l) := by
  have := valP_mono l i h (figN l - i) (by omega)
  rwa [show i + (figN l - i) = figN l by omega] at this
/-- Has it no figures, a needless nought, or no suffix? -/
def badQ (l : List UInt8) : Bool := figN l == 0 || (decide (1 < figN l) && l[0]? == some 48) || facI (l.drop (figN l)) == 0
/-- The quantity of a text, or the error. -/
def parseQ (l : List UInt8) : Value :=
  if badQ l then .tuple #[I 0, I 2]
  else if valP l (figN l) * facI (l.drop (figN l)) ≤ 9223372036854775807 then .tuple #[I (valP l (figN l) * facI (l.drop (figN l))), I 0] else .tuple #[I 0, I 3]
theorem facI_rng (l : List UInt8) : facI l = 0 ∨ (1 ≤ facI l ∧ facI l ≤ 1099511627776) := by unfold facI; (repeat' split) <;> omega
theorem mul_le_iff {v F : Int} (hF : 1 ≤ F) : v * F ≤ 9223372036854775807 ↔ v ≤ 9223372036854775807 / F := by
  rw [Int.le_ediv_iff_mul_le (by omega)]

end Qty
end Go.Proofs.Ythabchmfhfhcaaa
