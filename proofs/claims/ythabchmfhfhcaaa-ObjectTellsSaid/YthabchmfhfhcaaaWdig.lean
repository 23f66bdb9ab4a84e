/- Figures of whole numbers: plain facts, of no program; conditions: none. -/
import Derived.Test.YthabchmfhfhcaaaWval
namespace Go.Proofs.Ythabchmfhfhcaaa
namespace Wid

/-- The i-th figure of a whole number, the lowest one first. -/
def dig (V : Int) (i : Nat) : Int := V / 10 ^ i % 10
theorem ten_pos (i : Nat) : (0 : Int) < 10 ^ i := Int.pow_pos (by decide)
theorem dig_rng (V : Int) (i : Nat) : 0 ≤ dig V i ∧ dig V i < 10 := by unfold dig; omega
theorem div_ten (V : Int) (i : Nat) : V / 10 ^ (i + 1) = V / 10 ^ i / 10 := by rw [Int.pow_succ, dd _ _ (Int.le_of_lt (ten_pos i))]
theorem ten_up (V : Int) (i : Nat) : V / 10 ^ i = 10 * (V / 10 ^ (i + 1)) + dig V i := by rw [div_ten]; unfold dig; omega
/-- A number has L figures. -/
def IsLen (V : Int) (L : Nat) : Prop := 1 ≤ L ∧ V / 10 ^ L = 0 ∧ ∀ j, 1 ≤ j → j < L → V / 10 ^ j ≠ 0
theorem isLen_uniq {V : Int} {L M : Nat} (h : IsLen V L) (g : IsLen V M) : L = M := by
  rcases Nat.lt_trichotomy L M with hl | e | hl
  · exact absurd h.2.1 (g.2.2 L h.1 hl)
  · exact e
  · exact absurd g.2.1 (h.2.2 M g.1 hl)
theorem div_mono (V : Int) (h0 : 0 ≤ V) (i : Nat) : V / 10 ^ (i + 1) ≤ V / 10 ^ i := by
  rw [div_ten]; exact Int.ediv_le_self _ (Int.ediv_nonneg h0 (Int.le_of_lt (ten_pos i)))
/-- The first n figures. -/
def digL (V : Int) (n : Nat) : List Int := (List.range n).map (dig V)
theorem digL_len (V : Int) (n : Nat) : (digL V n).length = n := by simp [digL]
theorem digL_succ (V : Int) (n : Nat) : digL V (n + 1) = digL V n ++ [dig V n] := by simp [digL, List.range_succ]
theorem digL_get (V : Int) (n i : Nat) (h : i < n) : (digL V n)[i]? = some (dig V i) := by simp [digL, h]
/-- A figure's byte. -/
def fb (d : Int) : UInt8 := UInt8.ofNat (48 + d).toNat
theorem fb_nat (V : Int) (i : Nat) : ((fb (dig V i)).toNat : Int) = 48 + dig V i := by
  have := dig_rng V i
  unfold fb
  rw [UInt8.toNat_ofNat']
  omega
/-- A number's text, where it has L figures. -/
def txt (X : Int) (L : Nat) : List UInt8 := (if X < 0 then [45] else []) ++ ((digL X.natAbs L).map fb).reverse

/-! Twice, and a bit. -/
/-- What is carried into figure k of twice V, and c. -/
def dcar (V c : Int) (k : Nat) : Int := (2 * (V % 10 ^ k) + c) / 10 ^ k
theorem mod_ten_succ (X : Int) (i : Nat) : X % 10 ^ (i + 1) = 10 ^ i * dig X i + X % 10 ^ i := by
  have hp := ten_pos i
  have h1 := Int.mul_ediv_add_emod X (10 ^ i)
  have h2 := Int.mul_ediv_add_emod X (10 ^ (i + 1))
  have h3 := ten_up X i
  have h4 : (10 : Int) ^ (i + 1) * (X / 10 ^ (i + 1)) = 10 ^ i * (10 * (X / 10 ^ (i + 1))) := by rw [Int.pow_succ, Int.mul_assoc]
  rw [h3, Int.mul_add] at h1
  rw [h4] at h2
  omega
theorem dcar_zero (V c : Int) : dcar V c 0 = c := by simp [dcar, Int.emod_one]
theorem dcar_rng (V c : Int) (k : Nat) (hc : 0 ≤ c ∧ c ≤ 1) : 0 ≤ dcar V c k ∧ dcar V c k ≤ 1 := by
  have hp := ten_pos k
  have hx := Int.emod_nonneg V (Int.ne_of_gt hp)
  have hx2 := Int.emod_lt_of_pos V hp
  unfold dcar
  refine ⟨Int.ediv_nonneg (by omega) (by omega), ?_⟩
  have : (2 * (V % 10 ^ k) + c) / 10 ^ k < 2 := by
    refine Int.ediv_lt_of_lt_mul hp ?_
    omega
  omega
theorem twice_div (V c : Int) (k : Nat) : (2 * V + c) / 10 ^ k = 2 * (V / 10 ^ k) + dcar V c k := by
  have hp := ten_pos k
  have h1 := Int.mul_ediv_add_emod V (10 ^ k)
  have e : 2 * V + c = (2 * (V % 10 ^ k) + c) + 10 ^ k * (2 * (V / 10 ^ k)) := by
    have : (10 : Int) ^ k * (2 * (V / 10 ^ k)) = 2 * (10 ^ k * (V / 10 ^ k)) := by rw [← Int.mul_assoc, Int.mul_comm _ 2, Int.mul_assoc]
    rw [this]; omega
  rw [e, Int.add_mul_ediv_left _ _ (Int.ne_of_gt hp)]
  unfold dcar
  omega
theorem twice_dig (V c : Int) (k : Nat) : dig (2 * V + c) k = (2 * dig V k + dcar V c k) % 10 := by
  have := twice_div V c k
  unfold dig
  rw [this]
  omega
theorem dcar_succ (V c : Int) (k : Nat) : dcar V c (k + 1) = (2 * dig V k + dcar V c k) / 10 := by
  have hp := ten_pos k
  unfold dcar
  rw [mod_ten_succ, Int.pow_succ, ← dd _ _ (Int.le_of_lt hp)]
  have e : 2 * (10 ^ k * dig V k + V % 10 ^ k) + c = (2 * (V % 10 ^ k) + c) + 10 ^ k * (2 * dig V k) := by
    have : (10 : Int) ^ k * (2 * dig V k) = 2 * (10 ^ k * dig V k) := by rw [← Int.mul_assoc, Int.mul_comm _ 2, Int.mul_assoc]
    rw [this]; omega
  rw [e, Int.add_mul_ediv_left _ _ (Int.ne_of_gt hp)]
  congr 1
  omega
/-- Behind the last figure, what is carried is what twice the number has there. -/
theorem dcar_end {V c : Int} {L : Nat} (h : IsLen V L) : (2 * V + c) / 10 ^ L = dcar V c L := by
  rw [twice_div, h.2.1]; omega
theorem len_same {V c : Int} {L : Nat} (h : IsLen V L) (h0 : 0 ≤ V) (hc : 0 ≤ c ∧ c ≤ 1) (he : dcar V c L = 0) : IsLen (2 * V + c) L := by
  refine ⟨h.1, by rw [dcar_end h, he], fun j h1 h2 => ?_⟩
  have := h.2.2 j h1 h2
  have h3 := Int.ediv_nonneg h0 (Int.le_of_lt (ten_pos j))
  have h4 := dcar_rng V c j hc
  rw [twice_div]
  omega
theorem len_more {V c : Int} {L : Nat} (h : IsLen V L) (h0 : 0 ≤ V) (hc : 0 ≤ c ∧ c ≤ 1) (he : dcar V c L = 1) : IsLen (2 * V + c) (L + 1) ∧ dig (2 * V + c) L = 1 := by
  have e := dcar_end (c := c) h
  rw [he] at e
  refine ⟨⟨by omega, by rw [div_ten, e]; rfl, fun j h1 h2 => ?_⟩, by unfold dig; rw [e]; rfl⟩
  by_cases hj : j = L
  · subst hj; omega
  · have := h.2.2 j h1 (by omega)
    have h3 := Int.ediv_nonneg h0 (Int.le_of_lt (ten_pos j))
    have h4 := dcar_rng V c j hc
    rw [twice_div]
    omega
theorem len_zero : IsLen 0 1 := ⟨by omega, by decide, fun j h1 h2 => by omega⟩
theorem len_le {V : Int} {L k : Nat} (h : IsLen V L) (hk : 1 ≤ k) (h0 : V / 10 ^ k = 0) : L ≤ k := by
  rcases Nat.lt_or_ge k L with hl | hl
  · exact absurd h0 (h.2.2 k hk hl)
  · exact hl
end Wid
end Go.Proofs.Ythabchmfhfhcaaa
