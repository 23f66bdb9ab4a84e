/- Contracts of the document's sums and differences for layer 4; conditions: at most 100 entries, names of at most 100,000 bytes, numbers of 128 bits. -/
import Derived.Test.YtdakeicfhbggeaaGreatVput
import Derived.Test.YtdakeicfhbggeaaGreatQsc
import Derived.Test.YtdakeicfhbggeaaGreatWrtext
/- Vboth: Contracts of the document's sums and differences for layer 4; conditions: at most 100 entries, names of at most 100,000 bytes, numbers of 128 bits. -/
namespace Go.Proofs.YtdakeicfhbggeaaGreat
namespace Vec
open Go Go.RowKit Sx Wid Lab
attribute [local irreducible] Go.Calls
theorem inR_iff (Z : Int) : decide (inW Z) = inR Z := by
  rw [Bool.eq_iff_iff]
  unfold inR
  simp only [decide_eq_true_eq, Bool.and_eq_true]
  exact Iff.rfl
theorem get_inW {es : List Ent} (h : wfV es) (m : Nm) : inW (getV es m) := by
  by_cases h0 : getV es m = 0
  · rw [h0]; unfold inW; omega
  · obtain ⟨e, he, -, h2⟩ := get_some h0
    rw [← h2]
    exact (h.2 e he).2
def combV (less : Bool) (a b : List Ent) : List Ent × Int :=
  if (rightV a && rightV b) = true then (match bothL less a a b with | some o => (o, 0) | none => ([], 3)) else ([], 1)
theorem wf_put {es : List Ent} {nm : Nm} {n : Int} (h1 : ∀ e ∈ es, e.1.length ≤ 100000 ∧ inW e.2) (h2 : nm.length ≤ 100000) (h3 : inW n) : ∀ e ∈ putV es nm n, e.1.length ≤ 100000 ∧ inW e.2 := fun e he => by
  rcases put_mem he with ⟨rfl, -⟩ | he
  · exact ⟨h2, h3⟩
  · exact h1 e he
theorem vcells_flat (es : List Ent) : (vcells es).all flat = true := by
  rw [List.all_eq_true]
  intro x hx
  obtain ⟨e, -, he⟩ := List.mem_flatMap.1 hx
  simp only [cellsE, List.mem_cons, List.not_mem_nil, or_false] at he
  rcases he with rfl | rfl | rfl <;> rfl
end Vec
end Go.Proofs.YtdakeicfhbggeaaGreat
/- Vrest: Contracts of the document's answer for layer 4: Of, Within, Fits; conditions: at most 1,000 entries, names of at most 100,000 bytes, numbers of 128, of resources of 64 bits. -/
namespace Go.Proofs.YtdakeicfhbggeaaGreat
namespace Vec
open Go Go.RowKit Sx Wid Lab
attribute [local irreducible] Go.Calls
def okR (r : Ent) : Bool := rightB r.1 && decide (0 ≤ r.2)
def addR (v : List Ent) (r : Ent) : List Ent := putV v r.1 (getV v r.1 + r.2)
def ofV (rs : List Ent) : List Ent × Int :=
  if rs.all okR = true then (if rs.length ≤ 16 then (rs.foldl addR [], 0) else ([], 3)) else ([], 1)
theorem all_no {rs : List Ent} {i : Nat} {r : Ent} (hi : rs[i]? = some r) (h : okR r = false) : rs.all okR = false := by
  rw [List.all_eq_false]
  exact ⟨r, List.mem_of_getElem? hi, by rw [h]; decide⟩
theorem all_yes {rs : List Ent} (h : ∀ (j : Nat) (r : Ent), rs[j]? = some r → okR r = true) : rs.all okR = true := by
  rw [List.all_eq_true]
  intro r hr
  obtain ⟨j, hj⟩ := List.getElem?_of_mem hr
  exact h j r hj
theorem add_rng {v : List Ent} {r : Ent} {B : Int} (h : ∀ e ∈ v, 0 ≤ e.2 ∧ e.2 ≤ B) (hr : 0 ≤ r.2 ∧ r.2 ≤ 9223372036854775807) (hB : 0 ≤ B) : (0 ≤ getV v r.1 ∧ getV v r.1 ≤ B) ∧ ∀ e ∈ addR v r, 0 ≤ e.2 ∧ e.2 ≤ B + 9223372036854775807 := by
  have hg : 0 ≤ getV v r.1 ∧ getV v r.1 ≤ B := by
    by_cases h0 : getV v r.1 = 0
    · rw [h0]; omega
    · obtain ⟨e, he, -, h2⟩ := get_some h0
      rw [← h2]; exact h e he
  refine ⟨hg, fun e he => ?_⟩
  rcases put_mem he with ⟨rfl, -⟩ | he
  · exact ⟨by show 0 ≤ getV v r.1 + r.2; omega, by show getV v r.1 + r.2 ≤ _; omega⟩
  · have := h e he
    omega
end Vec
end Go.Proofs.YtdakeicfhbggeaaGreat
/- Vrtext: Contracts of the document's answer for layer 4: Text, find, Parse; conditions: at most 1,000 entries, names and texts of at most 100,000 bytes. -/
namespace Go.Proofs.YtdakeicfhbggeaaGreat
namespace Vec
open Go Go.RowKit Sx Wid Lab
attribute [local irreducible] Go.Calls
def txtN (X : Int) : List UInt8 := txt X (Qty.lenF 40 X.natAbs)
theorem txtN_is {X : Int} (h : inW X) : IsLen X.natAbs (Qty.lenF 40 X.natAbs) := Qty.lenF_is 40 _ (by
  unfold inW at h
  rw [show (10 : Int) ^ (40 + 1) = 100000000000000000000000000000000000000000 by decide]
  omega)
theorem txtN_len (X : Int) : (txtN X).length ≤ 42 := by
  unfold txtN
  rw [txt_len]
  have := Qty.lenF_le 40 X.natAbs
  split <;> omega
def pcE (e : Ent) : List UInt8 := e.1 ++ [61] ++ txtN e.2
def txtV : List Ent → List UInt8
  | [] => []
  | [e] => pcE e
  | e :: f :: r => pcE e ++ [44] ++ txtV (f :: r)
theorem pcE_len {e : Ent} (h : e.1.length ≤ 100000) : (pcE e).length ≤ 100043 := by
  have := txtN_len e.2
  simp only [pcE, List.length_append, List.length_cons, List.length_nil]
  omega
theorem txtV_len : ∀ (l : List Ent), (∀ e ∈ l, e.1.length ≤ 100000) → (txtV l).length ≤ l.length * 100044
  | [], _ => by simp [txtV]
  | [e], h => by
    have := pcE_len (h e List.mem_cons_self)
    simp only [txtV, List.length_cons, List.length_nil]
    omega
  | e :: f :: r, h => by
    have := pcE_len (h e List.mem_cons_self)
    have ih := txtV_len (f :: r) fun x hx => h x (List.mem_cons_of_mem _ hx)
    simp only [txtV, List.length_append, List.length_cons, List.length_nil] at ih ⊢
    omega
def textV (es : List Ent) : List UInt8 := if rightV es then txtV es else []
theorem take_snoc {es : List Ent} {i : Nat} {e : Ent} (h : es[i]? = some e) : es.take (i + 1) = es.take i ++ [e] := by
  rw [List.take_add_one, h]; rfl
def nx (c : UInt8) (l : List UInt8) : Nat := (l.takeWhile (· != c)).length
end Vec
end Go.Proofs.YtdakeicfhbggeaaGreat
/- Vrparse: Contract of the document's Parse for layer 4; conditions: texts of at most 100,000 bytes. -/
namespace Go.Proofs.YtdakeicfhbggeaaGreat
namespace Vec
open Go Go.RowKit Sx Wid Lab
attribute [local irreducible] Go.Calls
def upB (out : List Ent) (m : Nm) : Bool := match out.getLast? with | none => true | some r => lt r.1 m
end Vec
end Go.Proofs.YtdakeicfhbggeaaGreat
