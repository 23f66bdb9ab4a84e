/- What the landed Parse of layer 6 reckons is what the document says: plain facts; conditions: none. -/
import Derived.Test.YtlokhemlpmalaaaDoorScpn
import Derived.Test.YtlokhemlpmalaaaDoorScpk
namespace Go.Proofs.YtlokhemlpmalaaaDoor
namespace Scp
open Go Go.RowKit Sx Lab

def wordP (p : Nm) : Nm := if 0 ≤ Lib.indexByte p 58 then p.take (Lib.indexByte p 58).toNat else p
def listP (p : Nm) : Nm := if 0 ≤ Lib.indexByte p 58 then p.drop ((Lib.indexByte p 58).toNat + 1) else []
def valsP (p : Nm) : List Nm := if 0 ≤ Lib.indexByte p 58 then splN 44 (listP p) else []
/-- The term of a piece, if there is one. -/
def termL (p : Nm) : Option Trm := if opTo 8 (wordP p) < 0 then none else some (opTo 8 (wordP p), valsP p)
theorem cut_p (p : Nm) : cutV p 58 = .tuple #[S (wordP p), S (listP p), .bool (decide (0 ≤ Lib.indexByte p 58))] := by
  unfold cutV wordP listP
  split
  · rename_i h
    rw [decide_eq_true h]
  · rename_i h
    rw [decide_eq_false h]
theorem join_split (c : UInt8) : ∀ (l : Nm), joinC c (splitL c l) = l
  | [] => rfl
  | x :: l => by
    have ih := join_split c l
    have hne := split_ne c l
    unfold splitL
    generalize splitL c l = ps at ih hne
    cases ps with
    | nil => exact absurd rfl hne
    | cons p ps =>
      split
      · rename_i h
        subst h
        show joinC x ([] :: p :: ps) = _
        rw [joinC, ih, List.nil_append]
      · show joinC c ((x :: p) :: ps) = _
        rw [← ih]
        cases ps <;> rfl
theorem to_some {k : Nat} {m : Nm} (h : ¬ opTo k m < 0) : opN (opTo k m) = m := by
  induction k with
  | zero => exact absurd (show (-1 : Int) < 0 by decide) h
  | succ k ih =>
    unfold opTo at h ⊢
    split
    · assumption
    · rename_i hk
      rw [if_neg hk] at h
      exact ih h
theorem to_none {m : Nm} : ∀ {k : Nat}, (∀ j, j < k → opN ((j : Nat) : Int) ≠ m) → opTo k m = -1
  | 0, _ => rfl
  | k + 1, h => by
    unfold opTo
    rw [if_neg (h k (by omega))]
    exact to_none fun j hj => h j (by omega)
theorem op_not (p : Nm) {c : UInt8} (h : ∀ d ∈ p, d ≠ c) : Lib.indexByte p c = -1 := by
  rcases indexByte_cases c p with ⟨h1, -⟩ | ⟨i, -, h2, -, h4⟩
  · exact h1
  · exact absurd rfl (h c (by rw [h4]; simp))
theorem idx_app {c : UInt8} {b : Nm} : ∀ {a : Nm}, (∀ d ∈ a, d ≠ c) → Lib.indexByte (a ++ c :: b) c = (a.length : Int)
  | [], _ => by simp [Lib.indexByte]
  | x :: a, h => by
    have ih := idx_app (b := b) (a := a) fun d hd => h d (List.mem_cons_of_mem x hd)
    have hx : (x == c) = false := beq_eq_false_iff_ne.2 (h x List.mem_cons_self)
    have hn : ((a.length : Int) == -1) = false := by rw [beq_eq_false_iff_ne]; omega
    rw [List.cons_append]
    simp only [Lib.indexByte, hx, ih, hn, Bool.false_eq_true, if_false, List.length_cons]
    omega
theorem word_no {p : Nm} (h : Lib.indexByte p 58 = -1) : wordP p = p ∧ valsP p = [] := by
  unfold wordP valsP
  rw [h]
  exact ⟨rfl, rfl⟩
theorem word_at {p : Nm} {i : Nat} (h : Lib.indexByte p 58 = (i : Int)) : wordP p = p.take i ∧ valsP p = splN 44 (p.drop (i + 1)) := by
  have h0 : (0 : Int) ≤ (i : Int) := by omega
  unfold wordP valsP listP
  rw [h, if_pos h0, if_pos h0, if_pos h0, Int.toNat_natCast]
  exact ⟨rfl, rfl⟩
/-- A piece whose term may be is that term's text. -/
theorem part_of {p : Nm} {t : Trm} (h : termL p = some t) (hb : termB t = true) : partT t = p := by
  unfold termL at h
  split at h
  · cases h
  rename_i h0
  cases h
  have hw := to_some h0
  have hv := (term_vals hb).1
  unfold partT
  simp only
  rw [hw]
  rcases indexByte_cases 58 p with ⟨h1, -⟩ | ⟨i, h1, h2, h3, h4⟩
  · obtain ⟨e1, e2⟩ := word_no h1
    rw [e1, e2, if_pos rfl, List.append_nil]
  · obtain ⟨e1, e2⟩ := word_at h1
    rw [e2] at hv
    rw [e1, e2]
    rcases splN_splitL 44 (p.drop (i + 1)) with he | ⟨he, -⟩
    · rw [he, if_neg (split_ne _ _), join_split, ← h4]
    · omega
/-- The term of a term's text. -/
theorem of_part {t : Trm} (hb : termB t = true) : termL (partT t) = some t := by
  obtain ⟨op, vs⟩ := t
  obtain ⟨b1, b2, -⟩ := op_byte (term_op hb)
  have ho := term_op hb
  simp only at b1 b2 ho
  obtain ⟨hv8, hvr⟩ := term_vals hb
  have h0 : ¬ op < 0 := by omega
  by_cases hv : vs = []
  · subst hv
    have e1 : partT (op, []) = opN op := by simp [partT]
    obtain ⟨q1, q2⟩ := word_no (p := opN op) (op_not _ fun d hd => (b1 d hd).1)
    unfold termL
    rw [e1, q1, q2, b2, if_neg h0]
  · have e1 : partT (op, vs) = opN op ++ 58 :: joinC 44 vs := by unfold partT; rw [if_neg hv]
    obtain ⟨q1, q2⟩ := word_at (p := opN op ++ 58 :: joinC 44 vs) (idx_app fun d hd => (b1 d hd).1)
    have e3 : splitL 44 (joinC 44 vs) = vs := split_join hv fun v hv d hd => (right_byte (hvr v hv) hd).1
    have e4 : splN 44 (joinC 44 vs) = vs := by
      rcases splN_splitL 44 (joinC 44 vs) with h | ⟨-, h⟩
      · rw [h, e3]
      · rw [e3] at h; omega
    unfold termL
    rw [e1, q1, q2, List.take_left, show (opN op ++ 58 :: joinC 44 vs).drop ((opN op).length + 1) = joinC 44 vs by rw [← List.drop_drop, List.drop_left]; rfl, e4, b2, if_neg h0]
/-- What the landed code finds is what the document asks for. -/
theorem parse_yes {l : Nm} {ts : List Trm} (h : (splN 59 l).map termL = ts.map some) (hr : rightS ts = true) : parseS l = (ts, 0) := by
  obtain ⟨h8, hall⟩ := right_all hr
  have hlen : (splN 59 l).length = ts.length := by
    have := congrArg List.length h
    rwa [List.length_map, List.length_map] at this
  have hsp : splN 59 l = splitL 59 l := by
    rcases splN_splitL 59 l with h | ⟨h, -⟩
    · exact h
    · omega
  have hpt : ts.map partT = splN 59 l := by
    refine List.ext_getElem? fun i => ?_
    rw [List.getElem?_map]
    by_cases hi : i < ts.length
    · have h1 : ((splN 59 l).map termL)[i]? = (ts.map some)[i]? := by rw [h]
      rw [List.getElem?_map, List.getElem?_map, List.getElem?_eq_getElem (show i < (splN 59 l).length by omega), List.getElem?_eq_getElem hi] at h1
      rw [List.getElem?_eq_getElem (show i < (splN 59 l).length by omega), List.getElem?_eq_getElem hi]
      simp only [Option.map_some, Option.some.injEq] at h1 ⊢
      exact part_of h1 (hall _ (List.getElem_mem hi))
    · rw [List.getElem?_eq_none (by omega), List.getElem?_eq_none (by omega)]
      rfl
  have hne : ts ≠ [] := fun he => by
    rw [he, List.map_nil, hsp] at hpt
    exact split_ne _ _ hpt.symm
  have htx : textS ts = l := by
    unfold textS
    rw [if_pos hr, if_neg hne, hpt, hsp, join_split]
  have := (there_back hr).1
  rwa [htx] at this
theorem parse_no {l : Nm} (hl : l ≠ [97, 108, 108]) (h : ∀ ts, (splN 59 l).map termL = ts.map some → rightS ts = false) : parseS l = ([], 2) := by
  rcases parse_facts l with ⟨ts, -, hr, ht⟩ | h2
  · exfalso
    have hne : ts ≠ [] := fun he => by
      subst he
      exact hl (by rw [← ht]; rfl)
    obtain ⟨e1, -, -⟩ := text_not_all hr hne
    obtain ⟨h8, hall⟩ := right_all hr
    have hsp : splitL 59 l = ts.map partT := by
      rw [← ht, e1]
      exact split_join (by simp [hne]) fun x hx d hd => by
        obtain ⟨t, ht, rfl⟩ := List.mem_map.1 hx
        exact part_byte (hall t ht) hd
    have hsn : splN 59 l = ts.map partT := by
      rcases splN_splitL 59 l with h | ⟨-, h⟩
      · rw [h, hsp]
      · rw [hsp, List.length_map] at h; omega
    have := h ts (by
      rw [hsn, List.map_map]
      exact List.map_congr_left fun t ht => of_part (hall t ht))
    rw [hr] at this
    cases this
  · exact h2
theorem parse_none {l : Nm} (hl : l ≠ [97, 108, 108]) {p : Nm} (hp : p ∈ splN 59 l) (h : termL p = none) : parseS l = ([], 2) := parse_no hl fun ts ht => by
  obtain ⟨i, hi⟩ := List.getElem?_of_mem hp
  have h1 : ((splN 59 l).map termL)[i]? = (ts.map some)[i]? := by rw [ht]
  rw [List.getElem?_map, List.getElem?_map, hi] at h1
  simp only [Option.map_some, h] at h1
  cases h2 : ts[i]? with
  | none => rw [h2] at h1; cases h1
  | some t => rw [h2] at h1; cases h1
theorem parse_all : parseS [97, 108, 108] = ([], 0) := by kernel_rfl
end Scp
end Go.Proofs.YtlokhemlpmalaaaDoor
