/- The walk of LabelOrder: it returns true, whatever the input; conditions: none. -/
import Derived.Test.YtifibkddjebmoaaLabb
namespace Go.Proofs.Ytifibkddjebmoaa
namespace Lab
open Go Go.RowKit Sx
attribute [local irreducible] Go.Calls

theorem bl_irrefl : ∀ (a : List UInt8), Op.bytesLess a a = false
  | [] => rfl
  | x :: a => by simp [Op.bytesLess, bl_irrefl a]
theorem bl_asymm : ∀ (a b : List UInt8), Op.bytesLess a b = true → Op.bytesLess b a = false
  | _, [], h => by simp [Op.bytesLess] at h
  | [], _ :: _, _ => rfl
  | x :: a, y :: b, h => by
    simp only [Op.bytesLess, Bool.or_eq_true, decide_eq_true_eq, Bool.and_eq_true, beq_iff_eq] at h
    simp only [Op.bytesLess, Bool.or_eq_false_iff, decide_eq_false_iff_not, Bool.and_eq_false_iff]
    rcases h with h | ⟨rfl, h⟩
    · exact ⟨UInt8.lt_asymm h, .inl (by simp only [beq_eq_false_iff_ne, ne_eq]; rintro rfl; exact UInt8.lt_irrefl _ h)⟩
    · exact ⟨UInt8.lt_irrefl _, .inr (bl_asymm a b h)⟩
theorem bl_trans : ∀ (a b c : List UInt8), Op.bytesLess a b = true → Op.bytesLess b c = true → Op.bytesLess a c = true
  | _, _, [], _, h => by simp [Op.bytesLess] at h
  | _, [], _ :: _, h, _ => by simp [Op.bytesLess] at h
  | [], _ :: _, _ :: _, _, _ => rfl
  | x :: a, y :: b, z :: c, h1, h2 => by
    simp only [Op.bytesLess, Bool.or_eq_true, decide_eq_true_eq, Bool.and_eq_true, beq_iff_eq] at h1 h2 ⊢
    rcases h1 with h1 | ⟨rfl, h1⟩ <;> rcases h2 with h2 | ⟨rfl, h2⟩
    · exact .inl (UInt8.lt_trans h1 h2)
    · exact .inl h1
    · exact .inl h2
    · exact .inr ⟨rfl, bl_trans a b c h1 h2⟩
theorem bl_total : ∀ (a b : List UInt8), Op.bytesLess a b = false → Op.bytesLess b a = false → a = b
  | [], [], _, _ => rfl
  | [], _ :: _, h, _ => by simp [Op.bytesLess] at h
  | _ :: _, [], _, h => by simp [Op.bytesLess] at h
  | x :: a, y :: b, h1, h2 => by
    simp only [Op.bytesLess, Bool.or_eq_false_iff, decide_eq_false_iff_not, Bool.and_eq_false_iff, beq_eq_false_iff_ne] at h1 h2
    have e : x = y := UInt8.le_antisymm (UInt8.not_lt.1 h2.1) (UInt8.not_lt.1 h1.1)
    subst e
    have e2 := bl_total a b (by simpa using h1.2) (by simpa using h2.2)
    rw [e2]
/-- Of two keys that may be, and have one text, the parts are the same. -/
theorem join_inj {k s n k2 s2 n2 : List UInt8} (h1 : keyB k s n = true) (h2 : keyB k2 s2 n2 = true) (e : joinB k s n = joinB k2 s2 n2) : k = k2 ∧ s = s2 ∧ n = n2 := by
  have p1 := pieces_join h1
  have p2 := pieces_join h2
  rw [e, p2] at p1
  simp only [Prod.mk.injEq] at p1
  exact ⟨p1.2.1.symm, p1.1.symm, p1.2.2.symm⟩
theorem neq_join {k s n k2 s2 n2 : List UInt8} (h1 : keyB k s n = true) (h2 : keyB k2 s2 n2 = true) (h3 : Op.bytesLess (joinB k s n) (joinB k2 s2 n2) = false) (h4 : Op.bytesLess (joinB k2 s2 n2) (joinB k s n) = false) :
    (!(eqAll [S k, S s, S n] [S k2, S s2, S n2])) = false := by
  obtain ⟨rfl, rfl, rfl⟩ := join_inj h1 h2 (bl_total _ _ h3 h4)
  rw [eqAll_self]; rfl

abbrev cells9 (q : Nat → List UInt8 × List UInt8 × List UInt8) : List Value := [S (q 0).1, S (q 0).2.1, S (q 0).2.2, S (q 1).1, S (q 1).2.1, S (q 1).2.2, S (q 2).1, S (q 2).2.1, S (q 2).2.2]
theorem sl9 (q : Nat → List UInt8 × List UInt8 × List UInt8) (j : Nat) (h : j < 3) : sl (0 + (j : Int).toNat * 3) 3 (cells9 q) = some [S (q j).1, S (q j).2.1, S (q j).2.2] := by
  match j, h with
  | 0, _ => rfl
  | 1, _ => rfl
  | 2, _ => rfl

end Lab
end Go.Proofs.Ytifibkddjebmoaa
