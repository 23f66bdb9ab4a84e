/- Resources: their cells, where they lie; conditions: none. -/
import Derived.Test.YtifibkddjebmoaaSxt
import Derived.Test.YtifibkddjebmoaaBord
namespace Go.Proofs.Ytifibkddjebmoaa
namespace Vec
open Go Go.RowKit Sx

abbrev Nm := List UInt8
abbrev Ent := Nm × Int
theorem getI {α : Type} {l : List α} {i : Nat} (h : i < l.length) : ∃ a, l[i]? = some a := ⟨_, List.getElem?_eq_getElem h⟩
/-- A resource's cells. -/
def cellsR (r : Ent) : List Value := [S r.1, I r.2]
theorem cellsR_len (r : Ent) : (cellsR r).length = 2 := rfl
abbrev rcells (l : List Ent) : List Value := l.flatMap cellsR
/-- Resources that came in. -/
def ResAt (w : World) (v : Value) (rs : List Ent) : Prop := OldRow w 2 v rs.length (rcells rs)
theorem ResAt.below {w w' : World} {v : Value} {rs : List Ent} (h : ResAt w v rs) (hb : Below w.heap.size w w') : ResAt w' v rs := OldRow.below h hb
def wfR (rs : List Ent) : Prop := rs.length ≤ 100000 ∧ ∀ r ∈ rs, r.1.length ≤ 100000 ∧ -9223372036854775808 ≤ r.2 ∧ r.2 ≤ 9223372036854775807
theorem wfR.at {rs : List Ent} (h : wfR rs) {i : Nat} {r : Ent} (hi : rs[i]? = some r) : r.1.length ≤ 100000 ∧ -9223372036854775808 ≤ r.2 ∧ r.2 ≤ 9223372036854775807 := h.2 r (List.mem_of_getElem? hi)
theorem res_cells {w : World} {g b : Nat} {r : Ent} (hc : ∀ (k : Nat) u, (cellsR r)[k]? = some u → w.cell? ⟨g, b + k, none⟩ = some u) :
    w.cell? ⟨g, b + 0, none⟩ = some (S r.1) ∧ w.cell? ⟨g, b + 1, none⟩ = some (I r.2) ∧ ∀ (j : Nat) u, [S r.1, I r.2][j]? = some u → w.cell? ⟨g, b + j, none⟩ = some u := ⟨hc 0 _ rfl, hc 1 _ rfl, hc⟩
end Vec
end Go.Proofs.Ytifibkddjebmoaa
