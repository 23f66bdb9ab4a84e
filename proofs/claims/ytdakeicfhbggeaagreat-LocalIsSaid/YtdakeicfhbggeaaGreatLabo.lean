/- The walks of layer 1's laws: each returns true, whatever the input; conditions: none. -/
import Derived.Test.YtdakeicfhbggeaaGreatLabs
/- Labw: The walks of layer 1's laws: each returns true, whatever the input; conditions: none. -/
namespace Go.Proofs.YtdakeicfhbggeaaGreat
namespace Lab
open Go Go.RowKit Sx
attribute [local irreducible] Go.Calls
end Lab
end Go.Proofs.YtdakeicfhbggeaaGreat
/- Labb: The walk of LabelBack: it returns true, whatever the input; conditions: none. -/
namespace Go.Proofs.YtdakeicfhbggeaaGreat
namespace Lab
open Go Go.RowKit Sx
attribute [local irreducible] Go.Calls
theorem right_all {l : List UInt8} (h : rightB l = true) : ∀ c ∈ l, alw c.toNat = true := by
  simp only [rightB, Bool.and_eq_true, List.all_eq_true] at h
  exact h.1.1.2
theorem right_no47 {l : List UInt8} (h : rightB l = true) : ∀ c ∈ l, c ≠ 47 := by
  rintro c hc rfl
  exact absurd (right_all h 47 hc) (by decide)
theorem right_len {l : List UInt8} (h : rightB l = true) : l.length ≤ 24 := by
  simp only [rightB, Bool.and_eq_true, decide_eq_true_eq] at h
  exact h.1.1.1.2
theorem nxt_app : ∀ (s r : List UInt8), (∀ c ∈ s, c ≠ 47) → nxt (s ++ 47 :: r) = s.length
  | [], r, _ => by simp [nxt]
  | c :: s, r, h => by
    have ih := nxt_app s r (fun x hx => h x (List.mem_cons_of_mem _ hx))
    have hc := h c List.mem_cons_self
    unfold nxt at ih ⊢
    rw [List.cons_append, List.takeWhile_cons_of_pos (by simpa using hc)]
    simp [ih]
theorem pieces_join {k s n : List UInt8} (h : keyB k s n = true) : pieces (joinB k s n) = (s, k, n) := by
  simp only [keyB, Bool.and_eq_true] at h
  have e : joinB k s n = s ++ 47 :: (k ++ 47 :: n) := by simp [joinB]
  have h1 := nxt_app s (k ++ 47 :: n) (right_no47 h.1.1)
  have h2 := nxt_app k n (right_no47 h.1.2)
  rw [pieces_nxt, e, h1]
  have d1 : (s ++ 47 :: (k ++ 47 :: n)).drop (s.length + 1) = k ++ 47 :: n := by
    rw [← List.drop_drop, List.drop_left]; rfl
  have d2 : (k ++ 47 :: n).drop (k.length + 1) = n := by
    rw [← List.drop_drop, List.drop_left]; rfl
  rw [d1, h2, d2, List.take_left, List.take_left]
  rw [if_pos (by simp), if_pos (by simp)]
end Lab
end Go.Proofs.YtdakeicfhbggeaaGreat
/- Labo: The walk of LabelOrder: it returns true, whatever the input; conditions: none. -/
namespace Go.Proofs.YtdakeicfhbggeaaGreat
namespace Lab
open Go Go.RowKit Sx
attribute [local irreducible] Go.Calls
theorem bl_irrefl : ∀ (a : List UInt8), Op.bytesLess a a = false
  | [] => rfl
  | x :: a => by simp [Op.bytesLess, bl_irrefl a]
theorem bl_trans : ∀ (a b c : List UInt8), Op.bytesLess a b = true → Op.bytesLess b c = true → Op.bytesLess a c = true
  | _, _, [], _, h => by simp [Op.bytesLess] at h
  | _, [], _ :: _, h, _ => by simp [Op.bytesLess] at h
  | [], _ :: _, _ :: _, _, _ => rfl
  | x :: a, y :: b, z :: c, h1, h2 => by
    simp only [Op.bytesLess, Bool.or_eq_true, decide_eq_true_eq, Bool.and_eq_true, beq_iff_eq] at h1 h2 ⊢
    rcases h1 with h1 | ⟨rfl, h1⟩ <;> rcases h2 with h2 | ⟨rfl, h2⟩
    · exact .inl (UInt8.lt_trans h1 h2)
    · exact .inl h1
    · exact .inl h2
    · exact .inr ⟨rfl, bl_trans a b c h1 h2⟩
theorem bl_total : ∀ (a b : List UInt8), Op.bytesLess a b = false → Op.bytesLess b a = false → a = b
  | [], [], _, _ => rfl
  | [], _ :: _, h, _ => by simp [Op.bytesLess] at h
  | _ :: _, [], _, h => by simp [Op.bytesLess] at h
  | x :: a, y :: b, h1, h2 => by
    simp only [Op.bytesLess, Bool.or_eq_false_iff, decide_eq_false_iff_not, Bool.and_eq_false_iff, beq_eq_false_iff_ne] at h1 h2
    have e : x = y := UInt8.le_antisymm (UInt8.not_lt.1 h2.1) (UInt8.not_lt.1 h1.1)
    subst e
    have e2 := bl_total a b (by simpa using h1.2) (by simpa using h2.2)
    rw [e2]
theorem join_inj {k s n k2 s2 n2 : List UInt8} (h1 : keyB k s n = true) (h2 : keyB k2 s2 n2 = true) (e : joinB k s n = joinB k2 s2 n2) : k = k2 ∧ s = s2 ∧ n = n2 := by
  have p1 := pieces_join h1
  have p2 := pieces_join h2
  rw [e, p2] at p1
  simp only [Prod.mk.injEq] at p1
  exact ⟨p1.2.1.symm, p1.1.symm, p1.2.2.symm⟩
end Lab
end Go.Proofs.YtdakeicfhbggeaaGreat
