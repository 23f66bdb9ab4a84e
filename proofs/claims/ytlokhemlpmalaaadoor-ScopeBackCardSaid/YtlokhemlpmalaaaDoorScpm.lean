/- Scopes: what they are, which may be, their texts; conditions: none. -/
import Derived.Test.YtlokhemlpmalaaaDoorSxo
import Derived.Test.YtlokhemlpmalaaaDoorLabs
namespace Go.Proofs.YtlokhemlpmalaaaDoor
namespace Scp
open Go Go.RowKit Sx Lab

abbrev Nm := List UInt8
/-- A term: its op and its values. -/
abbrev Trm := Int × List Nm
def opN (op : Int) : Nm :=
  if op = 0 then [105, 110] else if op = 1 then [110, 111, 116, 105, 110] else if op = 2 then [99, 108, 97, 115, 115] else if op = 3 then [110, 111, 99, 108, 97, 115, 115]
  else if op = 4 then [116, 101, 114, 109, 105, 110, 97, 116, 105, 110, 103] else if op = 5 then [114, 117, 110, 110, 105, 110, 103] else if op = 6 then [98, 101, 115, 116] else if op = 7 then [110, 111, 116, 98, 101, 115, 116] else []
def valAt (vs : List Nm) (i : Nat) : Bool :=
  match vs[i]? with
  | none => true
  | some v => rightB v && (match i with
    | 0 => true
    | j + 1 => match vs[j]? with
      | none => true
      | some p => Op.bytesLess p v)
def valsB (vs : List Nm) : Bool := (List.range vs.length).all (valAt vs) && decide (1 ≤ vs.length ∧ vs.length ≤ 8)
/-- May a term be? -/
def termB (t : Trm) : Bool := decide (0 ≤ t.1 ∧ t.1 ≤ 7) && (if 1 < t.1 then t.2.length == 0 else valsB t.2)
/-- May a scope be? -/
def rightS (ts : List Trm) : Bool := ts.all termB && decide (ts.length ≤ 8)
def asksB (op : Int) (vs : List Nm) (c : Nm) (tm bs : Bool) : Bool :=
  if op = 0 then decide (c ∈ vs) else if op = 1 then !decide (c ∈ vs) else if op = 2 then c != [] else if op = 3 then c == [] else if op = 4 then tm else if op = 5 then !tm else if op = 6 then bs else !bs
/-- Does a term hold of an object with this class, terminating or not, best or not? -/
def holdsB (t : Trm) (c : Nm) (tm bs : Bool) : Bool := termB t && asksB t.1 t.2 c tm bs
def matchS (ts : List Trm) (c : Nm) (tm bs : Bool) : Bool := ts.all (fun t => holdsB t c tm bs) && rightS ts

theorem vals_f {vs : List Nm} {i : Nat} (hi : i < vs.length) (h : valAt vs i = false) : valsB vs = false := by
  unfold valsB
  rw [show (List.range vs.length).all (valAt vs) = false from List.all_eq_false.2 ⟨i, List.mem_range.2 hi, by rw [h]; decide⟩]
  rfl
theorem vals_t {vs : List Nm} (h : ∀ j, j < vs.length → valAt vs j = true) : valsB vs = decide (1 ≤ vs.length ∧ vs.length ≤ 8) := by
  unfold valsB
  rw [show (List.range vs.length).all (valAt vs) = true from List.all_eq_true.2 fun j hj => h j (List.mem_range.1 hj)]
  rfl
theorem vals_len {vs : List Nm} (h : valsB vs = true) : 1 ≤ vs.length ∧ vs.length ≤ 8 := by
  unfold valsB at h
  rw [Bool.and_eq_true, decide_eq_true_eq] at h
  exact h.2
theorem vals_right {vs : List Nm} (h : valsB vs = true) {v : Nm} (hv : v ∈ vs) : rightB v = true := by
  unfold valsB at h
  rw [Bool.and_eq_true, List.all_eq_true] at h
  obtain ⟨j, hj⟩ := List.getElem?_of_mem hv
  have := h.1 j (List.mem_range.2 (List.getElem?_eq_some_iff.1 hj).1)
  unfold valAt at this
  rw [hj] at this
  simp only [Bool.and_eq_true] at this
  exact this.1

/-! Texts. -/
def joinC (c : UInt8) : List Nm → Nm
  | [] => []
  | [x] => x
  | x :: y :: r => x ++ c :: joinC c (y :: r)
theorem join_snoc (c : UInt8) (x : Nm) : ∀ (xs : List Nm), joinC c (xs ++ [x]) = if xs = [] then x else joinC c xs ++ c :: x
  | [] => rfl
  | [y] => rfl
  | y :: z :: r => by
    have ih := join_snoc c x (z :: r)
    rw [if_neg (by simp)] at ih ⊢
    rw [List.cons_append, List.cons_append, joinC, ← List.cons_append, ih, joinC, List.append_assoc]
    rfl
def partT (t : Trm) : Nm := opN t.1 ++ (if t.2 = [] then [] else 58 :: joinC 44 t.2)
def textS (ts : List Trm) : Nm := if rightS ts = true then (if ts = [] then [97, 108, 108] else joinC 59 (ts.map partT)) else []
theorem part_snoc (op : Int) (vs : List Nm) (v : Nm) : partT (op, vs ++ [v]) = if vs = [] then opN op ++ [58] ++ v else partT (op, vs) ++ [44] ++ v := by
  unfold partT
  rw [if_neg (by simp), join_snoc]
  split
  · simp
  · simp

/-! Pieces of a text. -/
def splitL (c : UInt8) : Nm → List Nm
  | [] => [[]]
  | x :: l => if x = c then [] :: splitL c l else match splitL c l with
    | [] => [[x]]
    | p :: ps => (x :: p) :: ps
theorem split_ne (c : UInt8) : ∀ (l : Nm), splitL c l ≠ []
  | [] => by simp [splitL]
  | x :: l => by
    unfold splitL
    split
    · simp
    · split <;> simp
theorem split_no {c : UInt8} : ∀ {l : Nm}, (∀ d ∈ l, d ≠ c) → splitL c l = [l]
  | [], _ => rfl
  | x :: l, h => by
    unfold splitL
    rw [if_neg (h x List.mem_cons_self), split_no fun d hd => h d (List.mem_cons_of_mem x hd)]
theorem split_at {c : UInt8} {b : Nm} : ∀ {a : Nm}, (∀ d ∈ a, d ≠ c) → splitL c (a ++ c :: b) = a :: splitL c b
  | [], _ => by
    rw [List.nil_append]
    conv => lhs; unfold splitL
    rw [if_pos rfl]
  | x :: a, h => by
    rw [List.cons_append]
    conv => lhs; unfold splitL
    rw [if_neg (h x List.mem_cons_self), split_at fun d hd => h d (List.mem_cons_of_mem x hd)]
theorem split_len (c : UInt8) : ∀ (l : Nm), (splitL c l).length ≤ l.length + 1 ∧ ∀ p ∈ splitL c l, p.length ≤ l.length
  | [] => by simp [splitL]
  | x :: l => by
    obtain ⟨h1, h2⟩ := split_len c l
    unfold splitL
    split
    · simp only [List.length_cons]
      exact ⟨by omega, fun p hp => by
        rcases List.mem_cons.1 hp with rfl | hp
        · simp
        · have := h2 p hp; omega⟩
    · split
      · simp
      · rename_i p ps he
        rw [he] at h1 h2
        simp only [List.length_cons] at *
        refine ⟨by omega, fun q hq => ?_⟩
        rcases List.mem_cons.1 hq with rfl | hq
        · have := h2 p List.mem_cons_self
          simp only [List.length_cons]; omega
        · have := h2 q (List.mem_cons_of_mem p hq); omega
end Scp
end Go.Proofs.YtlokhemlpmalaaaDoor
