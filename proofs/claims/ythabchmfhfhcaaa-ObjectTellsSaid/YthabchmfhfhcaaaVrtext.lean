/- Contracts of the document's answer for layer 4: Text, find, Parse; conditions: at most 1,000 entries, names and texts of at most 100,000 bytes. -/
import Derived.Test.YthabchmfhfhcaaaVrest
import Derived.Test.YthabchmfhfhcaaaQparse
import Derived.Test.YthabchmfhfhcaaaWrtext
namespace Go.Proofs.Ythabchmfhfhcaaa
namespace Vec
open Go Go.RowKit Sx Wid Lab
attribute [local irreducible] Go.Calls

/-- A number's text. -/
def txtN (X : Int) : List UInt8 := txt X (Qty.lenF 40 X.natAbs)
theorem txtN_is {X : Int} (h : inW X) : IsLen X.natAbs (Qty.lenF 40 X.natAbs) := Qty.lenF_is 40 _ (by
  unfold inW at h
  rw [show (10 : Int) ^ (40 + 1) = 100000000000000000000000000000000000000000 by decide]
  omega)
theorem txtN_len (X : Int) : (txtN X).length ≤ 42 := by
  unfold txtN
  rw [txt_len]
  have := Qty.lenF_le 40 X.natAbs
  split <;> omega
/-- An entry's text. -/
def pcE (e : Ent) : List UInt8 := e.1 ++ [61] ++ txtN e.2
def txtV : List Ent → List UInt8
  | [] => []
  | [e] => pcE e
  | e :: f :: r => pcE e ++ [44] ++ txtV (f :: r)
theorem txtV_snoc (e : Ent) : ∀ (l : List Ent), txtV (l ++ [e]) = (if l = [] then [] else txtV l ++ [44]) ++ pcE e
  | [] => by simp [txtV]
  | [f] => by simp [txtV]
  | f :: g :: r => by
    have ih := txtV_snoc e (g :: r)
    simp only [List.cons_append] at ih ⊢
    rw [txtV, ih]
    rw [if_neg (by simp), if_neg (by simp), txtV]
    simp only [List.append_assoc]
theorem pcE_len {e : Ent} (h : e.1.length ≤ 100000) : (pcE e).length ≤ 100043 := by
  have := txtN_len e.2
  simp only [pcE, List.length_append, List.length_cons, List.length_nil]
  omega
theorem txtV_len : ∀ (l : List Ent), (∀ e ∈ l, e.1.length ≤ 100000) → (txtV l).length ≤ l.length * 100044
  | [], _ => by simp [txtV]
  | [e], h => by
    have := pcE_len (h e List.mem_cons_self)
    simp only [txtV, List.length_cons, List.length_nil]
    omega
  | e :: f :: r, h => by
    have := pcE_len (h e List.mem_cons_self)
    have ih := txtV_len (f :: r) fun x hx => h x (List.mem_cons_of_mem _ hx)
    simp only [txtV, List.length_append, List.length_cons, List.length_nil] at ih ⊢
    omega
def textV (es : List Ent) : List UInt8 := if rightV es then txtV es else []
theorem take_snoc {es : List Ent} {i : Nat} {e : Ent} (h : es[i]? = some e) : es.take (i + 1) = es.take i ++ [e] := by
  rw [List.take_add_one, h]; rfl

/-- How far the first such byte is. -/
def nx (c : UInt8) (l : List UInt8) : Nat := (l.takeWhile (· != c)).length
theorem nx_le (c : UInt8) : ∀ (l : List UInt8), nx c l ≤ l.length
  | [] => by simp [nx]
  | d :: l => by
    have := nx_le c l
    unfold nx at *
    rw [List.takeWhile_cons]
    split
    · simp; omega
    · simp
theorem nx_of (c : UInt8) : ∀ (l : List UInt8) (n : Nat), (∀ (j : Nat) (d : UInt8), j < n → l[j]? = some d → d ≠ c) → n ≤ l.length → (n = l.length ∨ l[n]? = some c) → nx c l = n
  | [], n, _, h, _ => by simp at h; subst h; rfl
  | d :: l, 0, _, _, h => by
    rcases h with h | h
    · simp at h
    · have : d = c := by simpa using h
      simp [nx, this]
  | d :: l, n + 1, h0, h1, h => by
    have ih := nx_of c l n (fun j e hj he => h0 (j + 1) e (by omega) (by simpa using he)) (by simpa using h1) (by simpa using h)
    have hd := h0 0 d (by omega) rfl
    unfold nx at *
    rw [List.takeWhile_cons, if_pos (by simpa using hd), List.length_cons, ih]

end Vec
end Go.Proofs.Ythabchmfhfhcaaa
