/- Contract of the document's answer for layer 2: texts; conditions: none. -/
import Derived.Test.YthabchmfhfhcaaaWtext
namespace Go.Proofs.Ythabchmfhfhcaaa
namespace Wid
open Go Go.RowKit Sx
attribute [local irreducible] Go.Calls

theorem bits_zero (n : Nat) : bitsL 0 n = List.replicate n (I 0) := by
  apply List.ext_getElem?
  intro j
  by_cases h : j < n
  · rw [bitsL_get _ _ _ h]
    have : bit 0 j = 0 := by simp [bit]
    rw [this]
    simp [h]
  · simp [bitsL, h]
theorem rowz (g n : Nat) : RowB 3 1 (.slice (some ⟨g, 0, none⟩) n n) [(g, .cells (List.replicate n (I 0)).toArray 3 (0, 0))] n (bitsL 0 n) := by
  rw [bits_zero]; exact RowB.lit (by simp)

/-- Figures of twice V, and c, up to k; behind them those of V. -/
def mixL (V c : Int) (k L : Nat) : List Value := (List.range L).map fun j => I (if j < k then dig (2 * V + c) j else dig V j)
def digV (V : Int) (L : Nat) : List Value := (List.range L).map fun j => I (dig V j)
theorem mix_0 (V c : Int) (L : Nat) : mixL V c 0 L = digV V L := by simp [mixL, digV]
theorem mix_get (V c : Int) (L k : Nat) (h : k < L) : (mixL V c k L)[k]? = some (I (dig V k)) := by simp [mixL, h]
theorem mix_set (V c : Int) (L k : Nat) : (mixL V c k L).set k (I (dig (2 * V + c) k)) = mixL V c (k + 1) L := by
  apply List.ext_getElem?
  intro j
  by_cases e : k = j
  · subst e
    by_cases hi : k < L
    · simp [mixL, hi]
    · simp [mixL, hi]
  · rw [List.getElem?_set_ne e]
    by_cases hj : j < L
    · have : (j < k) = (j < k + 1) := by simp; omega
      simp [mixL, hj, this]
    · simp [mixL, hj]
theorem mix_n (V c : Int) (L : Nat) : mixL V c L L = digV (2 * V + c) L := by
  apply List.ext_getElem?
  intro j
  by_cases hj : j < L
  · simp [mixL, digV, hj]
  · simp [mixL, digV, hj]
theorem digV_succ (V : Int) (L : Nat) : digV V (L + 1) = digV V L ++ [I (dig V L)] := by simp [digV, List.range_succ]
theorem digV_get (V : Int) (L k : Nat) (h : k < L) : (digV V L)[k]? = some (I (dig V k)) := by simp [digV, h]
theorem digV_len (V : Int) (L : Nat) : (digV V L).length = L := by simp [digV]
theorem txt_len (X : Int) (L : Nat) : (txt X L).length = (if X < 0 then 1 else 0) + L := by
  unfold txt; split <;> simp [digL_len]; omega
/-- A text's bytes, from the highest figure on. -/
theorem txt_get (X : Int) (L m : Nat) (h : m < L) : (txt X L)[(if X < 0 then 1 else 0) + m]? = some (fb (dig X.natAbs (L - 1 - m))) := by
  have key : (((digL X.natAbs L).map fb).reverse)[m]? = some (fb (dig X.natAbs (L - 1 - m))) := by
    rw [List.getElem?_reverse (by simpa [digL_len] using h)]
    simp only [List.length_map, digL_len, List.getElem?_map]
    rw [digL_get _ _ _ (by omega)]
    rfl
  unfold txt
  split
  · rw [Nat.add_comm]; simpa using key
  · simpa using key
def b8s (l : List UInt8) : List Value := l.map fun c => B8 (c.toNat : Int)
theorem txt_take (X : Int) (L m : Nat) (h : m < L) : b8s ((txt X L).take ((if X < 0 then 1 else 0) + (m + 1))) = b8s ((txt X L).take ((if X < 0 then 1 else 0) + m)) ++ [B8 (48 + dig X.natAbs (L - 1 - m))] := by
  have hl := txt_len X L
  have hg := txt_get X L m h
  rw [← Nat.add_assoc, List.take_add_one, hg]
  simp [b8s, fb_nat]
theorem txt_none (X : Int) (L : Nat) : b8s ((txt X L).take ((if X < 0 then 1 else 0) + 0)) = if X < 0 then [B8 45] else [] := by
  unfold txt; split <;> simp [b8s]

end Wid
end Go.Proofs.Ythabchmfhfhcaaa
