/- Scopes: there and back; conditions: none. -/
import Derived.Test.YtlokhemlpmalaaaDoorScpr
namespace Go.Proofs.YtlokhemlpmalaaaDoor
namespace Scp
open Go Go.RowKit Sx Lab

/-- Bytes of a label. -/
theorem right_byte {l : Nm} (h : rightB l = true) {c : UInt8} (hc : c ∈ l) : c ≠ 44 ∧ c ≠ 58 ∧ c ≠ 59 := by
  unfold rightB at h
  simp only [Bool.and_eq_true, List.all_eq_true] at h
  have := h.1.1.2 c hc
  refine ⟨?_, ?_, ?_⟩ <;> (rintro rfl; revert this; decide)
theorem join_mem {c d : UInt8} : ∀ {xs : List Nm}, d ∈ joinC c xs → d = c ∨ ∃ x ∈ xs, d ∈ x
  | [], h => by cases h
  | [x], h => .inr ⟨x, List.mem_cons_self, h⟩
  | x :: y :: r, h => by
    unfold joinC at h
    rcases List.mem_append.1 h with h | h
    · exact .inr ⟨x, List.mem_cons_self, h⟩
    · rcases List.mem_cons.1 h with h | h
      · exact .inl h
      · rcases join_mem h with h | ⟨z, hz, hd⟩
        · exact .inl h
        · exact .inr ⟨z, List.mem_cons_of_mem x hz, hd⟩
theorem split_join {c : UInt8} : ∀ {xs : List Nm}, xs ≠ [] → (∀ x ∈ xs, ∀ d ∈ x, d ≠ c) → splitL c (joinC c xs) = xs
  | [], h, _ => absurd rfl h
  | [x], _, h => split_no (h x List.mem_cons_self)
  | x :: y :: r, _, h => by
    have ih := split_join (c := c) (xs := y :: r) (by simp) fun z hz => h z (List.mem_cons_of_mem x hz)
    unfold joinC
    rw [split_at (h x List.mem_cons_self), ih]
theorem op_cases {op : Int} (h : 0 ≤ op ∧ op ≤ 7) : op = 0 ∨ op = 1 ∨ op = 2 ∨ op = 3 ∨ op = 4 ∨ op = 5 ∨ op = 6 ∨ op = 7 := by omega
theorem op_byte {op : Int} (h : 0 ≤ op ∧ op ≤ 7) : (∀ d ∈ opN op, d ≠ 58 ∧ d ≠ 59) ∧ opTo 8 (opN op) = op ∧ ∃ c r, opN op = c :: r ∧ c ≠ 97 := by
  rcases op_cases h with rfl | rfl | rfl | rfl | rfl | rfl | rfl | rfl
  all_goals exact ⟨by decide, by decide, _, _, rfl, by decide⟩
theorem term_op {t : Trm} (h : termB t = true) : 0 ≤ t.1 ∧ t.1 ≤ 7 := by
  unfold termB at h
  simp only [Bool.and_eq_true, decide_eq_true_eq] at h
  exact h.1
theorem part_byte {t : Trm} (h : termB t = true) {d : UInt8} (hd : d ∈ partT t) : d ≠ 59 := by
  obtain ⟨op, vs⟩ := t
  unfold partT at hd
  rcases List.mem_append.1 hd with hd | hd
  · exact ((op_byte (term_op h)).1 d hd).2
  · split at hd
    · cases hd
    · rcases List.mem_cons.1 hd with rfl | hd
      · decide
      · rcases join_mem hd with rfl | ⟨v, hv, hd⟩
        · decide
        · exact (right_byte ((term_vals h).2 v hv) hd).2.2
theorem term_part {t : Trm} (h : termB t = true) : termP (partT t) = t := by
  obtain ⟨op, vs⟩ := t
  obtain ⟨b1, b2, -⟩ := op_byte (term_op h)
  by_cases hv : vs = []
  · subst hv
    have e1 : partT (op, []) = opN op := by simp [partT]
    rw [e1, term_p (split_no fun d hd => (b1 d hd).1), b2]
    rfl
  · have e1 : partT (op, vs) = opN op ++ 58 :: joinC 44 vs := by unfold partT; rw [if_neg hv]
    have e2 : splitL 58 (joinC 44 vs) = [joinC 44 vs] := split_no fun d hd => by
      rcases join_mem hd with rfl | ⟨v, hv, hd⟩
      · decide
      · exact (right_byte ((term_vals h).2 v hv) hd).2.1
    rw [e1, term_p (by rw [split_at fun d hd => (b1 d hd).1, e2]), b2]
    show (op, splitL 44 (joinC 44 vs)) = (op, vs)
    rw [split_join hv fun v hv d hd => (right_byte ((term_vals h).2 v hv) hd).1]
theorem join_head {c d : UInt8} : ∀ {x : Nm} {xs : List Nm}, (joinC c ((d :: x) :: xs)).head? = some d
  | _, [] => rfl
  | _, _ :: _ => rfl
theorem text_not_all {ts : List Trm} (h : rightS ts = true) (hne : ts ≠ []) : textS ts = joinC 59 (ts.map partT) ∧ textS ts ≠ [97, 108, 108] ∧ textS ts ≠ [] := by
  have e1 : textS ts = joinC 59 (ts.map partT) := by unfold textS; rw [if_pos h, if_neg hne]
  obtain _ | ⟨⟨op, vs⟩, r⟩ := ts
  · exact absurd rfl hne
  obtain ⟨-, -, c, s, hs, hc⟩ := op_byte (term_op ((right_all h).2 _ List.mem_cons_self))
  have e2 : (textS ((op, vs) :: r)).head? = some c := by
    rw [e1, List.map_cons]
    have e3 : partT (op, vs) = c :: (s ++ (if vs = [] then [] else 58 :: joinC 44 vs)) := by
      show opN op ++ _ = _
      rw [hs]
      rfl
    rw [e3]
    exact join_head
  refine ⟨e1, fun e => ?_, fun e => ?_⟩
  · rw [e] at e2
    exact hc (Option.some.inj e2).symm
  · rw [e] at e2
    cases e2
/-- A scope that may be is that of its text. -/
theorem there_back {ts : List Trm} (h : rightS ts = true) : parseS (textS ts) = (ts, 0) ∧ textS ts ≠ [] := by
  by_cases hne : ts = []
  · subst hne
    exact ⟨by kernel_rfl, by simp [textS, h]⟩
  obtain ⟨e1, e2, e3⟩ := text_not_all h hne
  refine ⟨?_, e3⟩
  have ho : outP (textS ts) = ts := by
    unfold outP
    rw [if_neg e2, e1, split_join (by simp [hne]) fun x hx d hd => by
      obtain ⟨t, ht, rfl⟩ := List.mem_map.1 hx
      exact part_byte ((right_all h).2 t ht) hd, List.map_map]
    refine (List.map_congr_left fun t ht => ?_).trans (List.map_id ts)
    exact term_part ((right_all h).2 t ht)
  unfold parseS
  rw [ho, h, if_pos (by simp)]
theorem parse_facts (l : Nm) : (∃ ts, parseS l = (ts, 0) ∧ rightS ts = true ∧ textS ts = l) ∨ parseS l = ([], 2) := by
  unfold parseS
  by_cases hg : (rightS (outP l) && textS (outP l) == l) = true
  · rw [if_pos hg]
    rw [Bool.and_eq_true, beq_iff_eq] at hg
    exact .inl ⟨_, rfl, hg.1, hg.2⟩
  · rw [if_neg hg]
    exact .inr rfl
theorem text_none {ts : List Trm} (h : rightS ts = false) : textS ts = [] := by
  unfold textS
  rw [h]
  rfl
theorem text_len {ts : List Trm} : (textS ts).length ≤ 1704 := by
  unfold textS
  split
  · rename_i h
    obtain ⟨h8, hall⟩ := right_all h
    split
    · simp
    · have := join_len 59 212 (xs := ts.map partT) fun y hy => by
        obtain ⟨t, ht, rfl⟩ := List.mem_map.1 hy
        obtain ⟨q1, q2⟩ := term_vals (hall t ht)
        exact part_len t.1 (fun v hv => right_len (q2 v hv)) q1
      rw [List.length_map] at this
      have := Nat.mul_le_mul_right (212 + 1) h8
      omega
  · simp
end Scp
end Go.Proofs.YtlokhemlpmalaaaDoor
