/- The walks of layer 1's laws: each returns true, whatever the input; conditions: none. -/
import Derived.Test.YtbllkmhkpapgeaaLabs
/- Labw: The walks of layer 1's laws: each returns true, whatever the input; conditions: none. -/
namespace Go.Proofs.Ytbllkmhkpapgeaa
namespace Lab
open Go Go.RowKit Sx
attribute [local irreducible] Go.Calls

def shortB (k s n : List UInt8) : Bool := decide (k.length ≤ 200) && decide (s.length ≤ 200) && decide (n.length ≤ 200)
theorem shortB_t {k s n : List UInt8} (h : shortB k s n = true) : k.length ≤ 200 ∧ s.length ≤ 200 ∧ n.length ≤ 200 := by
  simp [shortB] at h; omega

theorem right_at (l : List UInt8) (b : Bool) (h : rightB l = b) (w : World) : Calls Try.prog 54 #[S l] w fun e w' => e = .returned (.bool b) ∧ Below w.heap.size w w' := by
  rw [← h]; exact right_ok l w
theorem parseV_form (l : List UInt8) : ∃ a b c e, parseV l = .tuple #[K3 a b c, I e] ∧ ((e = 0 ∧ keyB a b c = true ∧ (b, a, c) = pieces l) ∨ e = 2) := by
  cases hq : keyB (pieces l).2.1 (pieces l).1 (pieces l).2.2
  · exact ⟨_, _, _, _, parseV_f rfl hq, .inr rfl⟩
  · exact ⟨_, _, _, _, parseV_t rfl hq, .inl ⟨rfl, hq, rfl⟩⟩
theorem eqAll_self (a b c : List UInt8) : eqAll [S a, S b, S c] [S a, S b, S c] = true := by
  simp [eqAll, eqB]

end Lab
end Go.Proofs.Ytbllkmhkpapgeaa
/- Labb: The walk of LabelBack: it returns true, whatever the input; conditions: none. -/
namespace Go.Proofs.Ytbllkmhkpapgeaa
namespace Lab
open Go Go.RowKit Sx
attribute [local irreducible] Go.Calls

theorem right_all {l : List UInt8} (h : rightB l = true) : ∀ c ∈ l, alw c.toNat = true := by
  simp only [rightB, Bool.and_eq_true, List.all_eq_true] at h
  exact h.1.1.2
theorem right_no47 {l : List UInt8} (h : rightB l = true) : ∀ c ∈ l, c ≠ 47 := by
  rintro c hc rfl
  exact absurd (right_all h 47 hc) (by decide)
theorem right_ne {l : List UInt8} (h : rightB l = true) : l ≠ [] := by
  rintro rfl; exact absurd h (by decide)
theorem right_len {l : List UInt8} (h : rightB l = true) : l.length ≤ 24 := by
  simp only [rightB, Bool.and_eq_true, decide_eq_true_eq] at h
  exact h.1.1.1.2

theorem nxt_app : ∀ (s r : List UInt8), (∀ c ∈ s, c ≠ 47) → nxt (s ++ 47 :: r) = s.length
  | [], r, _ => by simp [nxt]
  | c :: s, r, h => by
    have ih := nxt_app s r (fun x hx => h x (List.mem_cons_of_mem _ hx))
    have hc := h c List.mem_cons_self
    unfold nxt at ih ⊢
    rw [List.cons_append, List.takeWhile_cons_of_pos (by simpa using hc)]
    simp [ih]
theorem split_nxt (l : List UInt8) (h : nxt l < l.length) : l = l.take (nxt l) ++ 47 :: l.drop (nxt l + 1) := by
  have h1 : l[nxt l]? = some 47 := by
    have e : l.takeWhile (fun c => c != 47) ++ l.dropWhile (fun c => c != 47) = l := List.takeWhile_append_dropWhile
    have hd : l.dropWhile (fun c => c != 47) ≠ [] := by
      intro h0
      rw [h0, List.append_nil] at e
      unfold nxt at h
      rw [e] at h
      omega
    have h2 := List.head_dropWhile_not (fun c : UInt8 => c != 47) hd
    have h3 : (l.dropWhile (fun c => c != 47)).head hd = 47 := by simpa using h2
    have h4 : l[nxt l]? = (l.takeWhile (fun c => c != 47) ++ l.dropWhile (fun c => c != 47))[nxt l]? := by rw [e]
    rw [h4, List.getElem?_append_right (by simp [nxt])]
    simp only [nxt, Nat.sub_self]
    rw [List.getElem?_eq_getElem (List.length_pos_iff.2 hd), ← List.head_eq_getElem hd, h3]
  have h2 := (List.getElem?_eq_some_iff.1 h1).2
  conv => lhs; rw [← List.take_append_drop (nxt l) l]
  rw [List.drop_eq_getElem_cons h, h2]

theorem pieces_join {k s n : List UInt8} (h : keyB k s n = true) : pieces (joinB k s n) = (s, k, n) := by
  simp only [keyB, Bool.and_eq_true] at h
  have e : joinB k s n = s ++ 47 :: (k ++ 47 :: n) := by simp [joinB]
  have h1 := nxt_app s (k ++ 47 :: n) (right_no47 h.1.1)
  have h2 := nxt_app k n (right_no47 h.1.2)
  rw [pieces_nxt, e, h1]
  have d1 : (s ++ 47 :: (k ++ 47 :: n)).drop (s.length + 1) = k ++ 47 :: n := by
    rw [← List.drop_drop, List.drop_left]; rfl
  have d2 : (k ++ 47 :: n).drop (k.length + 1) = n := by
    rw [← List.drop_drop, List.drop_left]; rfl
  rw [d1, h2, d2, List.take_left, List.take_left]
  rw [if_pos (by simp), if_pos (by simp)]
theorem join_pieces {l a b c : List UInt8} (hp : (b, a, c) = pieces l) (h : keyB a b c = true) : joinB a b c = l := by
  rw [pieces_nxt] at hp
  by_cases h1 : nxt l < l.length
  · rw [if_pos h1] at hp
    have e1 := split_nxt l h1
    generalize l.drop (nxt l + 1) = r at *
    by_cases h2 : nxt r < r.length
    · rw [if_pos h2] at hp
      have e2 := split_nxt r h2
      simp only [Prod.mk.injEq] at hp
      obtain ⟨rfl, rfl, rfl⟩ := hp
      have : l.take (nxt l) ++ [47] ++ (r.take (nxt r) ++ [47] ++ r.drop (nxt r + 1)) = l := by
        rw [List.append_assoc (r.take (nxt r)), show [(47 : UInt8)] ++ r.drop (nxt r + 1) = 47 :: r.drop (nxt r + 1) from rfl, ← e2, List.append_assoc, show [(47 : UInt8)] ++ r = 47 :: r from rfl, ← e1]
      simp only [joinB, List.append_assoc] at this ⊢
      exact this
    · rw [if_neg h2] at hp
      simp only [Prod.mk.injEq] at hp
      obtain ⟨rfl, rfl, rfl⟩ := hp
      rw [keyB_nil] at h; cases h
  · rw [if_neg h1] at hp
    simp only [Prod.mk.injEq] at hp
    obtain ⟨rfl, rfl, rfl⟩ := hp
    rw [keyB_nil] at h; cases h

theorem right_app_bad (s : List UInt8) (x : UInt8) (hx : alw x.toNat = false) : rightB (s ++ [x]) = false :=
  right_false_of (k := s.length) (c := x) (by simp) hx
theorem right_app_dash (s : List UInt8) : rightB (s ++ [45]) = false := by
  have : (s ++ [45])[(s ++ [45]).length - 1]? = some 45 := by simp
  simp only [rightB, this]; simp
theorem right_dash_app (s : List UInt8) : rightB ([45] ++ s) = false := by
  have : ([45] ++ s)[0]? = some 45 := by simp
  simp only [rightB, this]; simp

theorem text_t {k s n : List UInt8} (h : keyB k s n = true) : textB k s n = joinB k s n := by simp [textB, h]
theorem text_f {k s n : List UInt8} (h : keyB k s n = false) : textB k s n = [] := by simp [textB, h]
theorem join_ne (k s n : List UInt8) : (joinB k s n == []) = false := by simp [joinB]

end Lab
end Go.Proofs.Ytbllkmhkpapgeaa
/- Labo: The walk of LabelOrder: it returns true, whatever the input; conditions: none. -/
namespace Go.Proofs.Ytbllkmhkpapgeaa
namespace Lab
open Go Go.RowKit Sx
attribute [local irreducible] Go.Calls

theorem bl_irrefl : ∀ (a : List UInt8), Op.bytesLess a a = false
  | [] => rfl
  | x :: a => by simp [Op.bytesLess, bl_irrefl a]
theorem bl_asymm : ∀ (a b : List UInt8), Op.bytesLess a b = true → Op.bytesLess b a = false
  | _, [], h => by simp [Op.bytesLess] at h
  | [], _ :: _, _ => rfl
  | x :: a, y :: b, h => by
    simp only [Op.bytesLess, Bool.or_eq_true, decide_eq_true_eq, Bool.and_eq_true, beq_iff_eq] at h
    simp only [Op.bytesLess, Bool.or_eq_false_iff, decide_eq_false_iff_not, Bool.and_eq_false_iff]
    rcases h with h | ⟨rfl, h⟩
    · exact ⟨UInt8.lt_asymm h, .inl (by simp only [beq_eq_false_iff_ne, ne_eq]; rintro rfl; exact UInt8.lt_irrefl _ h)⟩
    · exact ⟨UInt8.lt_irrefl _, .inr (bl_asymm a b h)⟩
theorem bl_trans : ∀ (a b c : List UInt8), Op.bytesLess a b = true → Op.bytesLess b c = true → Op.bytesLess a c = true
  | _, _, [], _, h => by simp [Op.bytesLess] at h
  | _, [], _ :: _, h, _ => by simp [Op.bytesLess] at h
  | [], _ :: _, _ :: _, _, _ => rfl
  | x :: a, y :: b, z :: c, h1, h2 => by
    simp only [Op.bytesLess, Bool.or_eq_true, decide_eq_true_eq, Bool.and_eq_true, beq_iff_eq] at h1 h2 ⊢
    rcases h1 with h1 | ⟨rfl, h1⟩ <;> rcases h2 with h2 | ⟨rfl, h2⟩
    · exact .inl (UInt8.lt_trans h1 h2)
    · exact .inl h1
    · exact .inl h2
    · exact .inr ⟨rfl, bl_trans a b c h1 h2⟩
theorem bl_total : ∀ (a b : List UInt8), Op.bytesLess a b = false → Op.bytesLess b a = false → a = b
  | [], [], _, _ => rfl
  | [], _ :: _, h, _ => by simp [Op.bytesLess] at h
  | _ :: _, [], _, h => by simp [Op.bytesLess] at h
  | x :: a, y :: b, h1, h2 => by
    simp only [Op.bytesLess, Bool.or_eq_false_iff, decide_eq_false_iff_not, Bool.and_eq_false_iff, beq_eq_false_iff_ne] at h1 h2
    have e : x = y := UInt8.le_antisymm (UInt8.not_lt.1 h2.1) (UInt8.not_lt.1 h1.1)
    subst e
    have e2 := bl_total a b (by simpa using h1.2) (by simpa using h2.2)
    rw [e2]
/-- Of two keys that may be, and have one text, the parts are the same. -/
theorem join_inj {k s n k2 s2 n2 : List UInt8} (h1 : keyB k s n = true) (h2 : keyB k2 s2 n2 = true) (e : joinB k s n = joinB k2 s2 n2) : k = k2 ∧ s = s2 ∧ n = n2 := by
  have p1 := pieces_join h1
  have p2 := pieces_join h2
  rw [e, p2] at p1
  simp only [Prod.mk.injEq] at p1
  exact ⟨p1.2.1.symm, p1.1.symm, p1.2.2.symm⟩
theorem neq_join {k s n k2 s2 n2 : List UInt8} (h1 : keyB k s n = true) (h2 : keyB k2 s2 n2 = true) (h3 : Op.bytesLess (joinB k s n) (joinB k2 s2 n2) = false) (h4 : Op.bytesLess (joinB k2 s2 n2) (joinB k s n) = false) :
    (!(eqAll [S k, S s, S n] [S k2, S s2, S n2])) = false := by
  obtain ⟨rfl, rfl, rfl⟩ := join_inj h1 h2 (bl_total _ _ h3 h4)
  rw [eqAll_self]; rfl

abbrev cells9 (q : Nat → List UInt8 × List UInt8 × List UInt8) : List Value := [S (q 0).1, S (q 0).2.1, S (q 0).2.2, S (q 1).1, S (q 1).2.1, S (q 1).2.2, S (q 2).1, S (q 2).2.1, S (q 2).2.2]
theorem sl9 (q : Nat → List UInt8 × List UInt8 × List UInt8) (j : Nat) (h : j < 3) : sl (0 + (j : Int).toNat * 3) 3 (cells9 q) = some [S (q j).1, S (q j).2.1, S (q j).2.2] := by
  match j, h with
  | 0, _ => rfl
  | 1, _ => rfl
  | 2, _ => rfl

end Lab
end Go.Proofs.Ytbllkmhkpapgeaa
