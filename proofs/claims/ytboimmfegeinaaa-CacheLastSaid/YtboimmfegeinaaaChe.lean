/- What the document's answer for layer 8 does with lists: sameness of deltas, keys of graves; conditions: names of at most 1,000 bytes, at most 100,000 entries. -/
import Derived.Test.YtboimmfegeinaaaChd
namespace Go.Proofs.Ytboimmfegeinaaa
namespace Chm
open Go Go.RowKit Sx Lab Vec Ojt Evt
attribute [local irreducible] Go.Calls

/-- Deltas that came in. -/
def DelAt (w : World) (v : Value) (ds : List PD) : Prop := OldRow w 21 v ds.length (ds.flatMap cellsD) ∧ ∀ d ∈ ds, ResAt w d.old.1 d.old.2.rs ∧ ResAt w d.new.1 d.new.2.rs
theorem DelAt.below {w w' : World} {v : Value} {ds : List PD} (h : DelAt w v ds) (hb : Below w.heap.size w w') : DelAt w' v ds := ⟨OldRow.below h.1 hb, fun d hd => ⟨(h.2 d hd).1.below hb, (h.2 d hd).2.below hb⟩⟩
def wfD (ds : List PD) : Prop := ds.length ≤ 100000 ∧ ∀ d ∈ ds, wfS d.old.2 ∧ wfS d.new.2
theorem del_parts {w : World} {g b : Nat} {key : Kt} {had has : Bool} {x y : Value} {o n : Ob} (hc : ∀ (j : Nat) z, (cellsD ⟨key, had, has, (x, o), (y, n)⟩)[j]? = some z → w.cell? ⟨g, b + j, none⟩ = some z) :
    (∀ (j : Nat) z, [S key.1, S key.2.1, S key.2.2][j]? = some z → w.cell? ⟨g, b + 0 + j, none⟩ = some z) ∧ w.cell? ⟨g, b + 3, none⟩ = some (.bool had) ∧ w.cell? ⟨g, b + 4, none⟩ = some (.bool has) ∧
    (∀ (j : Nat) z, [S o.k, S o.s, S o.n, I o.ver, S o.c, .bool o.tm, .bool o.bs, x][j]? = some z → w.cell? ⟨g, b + 5 + j, none⟩ = some z) ∧ (∀ (j : Nat) z, [S n.k, S n.s, S n.n, I n.ver, S n.c, .bool n.tm, .bool n.bs, y][j]? = some z → w.cell? ⟨g, b + 13 + j, none⟩ = some z) := by
  refine ⟨fun j z hj => hc j z ?_, hc 3 _ rfl, hc 4 _ rfl, fun j z hj => ?_, fun j z hj => ?_⟩
  · rcases j with _ | _ | _ | j <;> first | exact hj | simp at hj
  · rw [Nat.add_assoc]
    refine hc (5 + j) z ?_
    rcases j with _ | _ | _ | _ | _ | _ | _ | _ | j <;> first | exact hj | simp at hj
  · rw [Nat.add_assoc]
    refine hc (13 + j) z ?_
    rcases j with _ | _ | _ | _ | _ | _ | _ | _ | j <;> first | exact hj | simp at hj

def cellsK (k : Kt) : List Value := [S k.1, S k.2.1, S k.2.2]
theorem cellsK_len (k : Kt) : (cellsK k).length = 3 := rfl
end Chm
end Go.Proofs.Ytboimmfegeinaaa
