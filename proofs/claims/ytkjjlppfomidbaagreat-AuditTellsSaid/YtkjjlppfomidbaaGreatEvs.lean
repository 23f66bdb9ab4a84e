/- Lists of objects, and events: what they are, which may be; conditions: none. -/
import Derived.Test.YtkjjlppfomidbaaGreatOmor
import Derived.Test.YtkjjlppfomidbaaGreatSxk
/- Evm: Lists of objects, and events: what they are, which may be; conditions: none. -/
namespace Go.Proofs.YtkjjlppfomidbaaGreat
namespace Evt
open Go Go.RowKit Sx Lab Vec Ojt
abbrev PO := Value × Ob
def cellsO (p : PO) : List Value := [S p.2.k, S p.2.s, S p.2.n, I p.2.ver, S p.2.c, .bool p.2.tm, .bool p.2.bs, p.1]
theorem cellsO_len (p : PO) : (cellsO p).length = 8 := rfl
abbrev obs (ps : List PO) : List Ob := ps.map (·.2)
def ObjsAt (w : World) (v : Value) (ps : List PO) : Prop := OldRow w 8 v ps.length (ps.flatMap cellsO) ∧ ∀ p ∈ ps, ResAt w p.1 p.2.rs
theorem ObjsAt.below {w w' : World} {v : Value} {ps : List PO} (h : ObjsAt w v ps) (hb : Below w.heap.size w w') : ObjsAt w' v ps := ⟨OldRow.below h.1 hb, fun p hp => (h.2 p hp).below hb⟩
def lessO (a b : Ob) : Bool := Op.bytesLess (joinB a.k a.s a.n) (joinB b.k b.s b.n)
end Evt
end Go.Proofs.YtkjjlppfomidbaaGreat
/- Evn: Lists of objects, and events, in new memory; the order of objects; conditions: none. -/
namespace Go.Proofs.YtkjjlppfomidbaaGreat
namespace Evt
open Go Go.RowKit Sx Lab Vec Ojt
end Evt
end Go.Proofs.YtkjjlppfomidbaaGreat
/- Evr: Contracts of the document's answer for layers 5 and 7: lists of objects; Right, Version, Same; conditions: names of at most 1,000 bytes, at most 100,000 objects and resources. -/
namespace Go.Proofs.YtkjjlppfomidbaaGreat
namespace Evt
open Go Go.RowKit Sx Lab Vec Ojt
attribute [local irreducible] Go.Calls
end Evt
end Go.Proofs.YtkjjlppfomidbaaGreat
/- Evs: Contracts of the document's answer for layer 7: Version, Same, Sorted; conditions: names of at most 1,000 bytes, at most 100,000 objects and resources. -/
namespace Go.Proofs.YtkjjlppfomidbaaGreat
namespace Evt
open Go Go.RowKit Sx Lab Vec Ojt
attribute [local irreducible] Go.Calls
end Evt
end Go.Proofs.YtkjjlppfomidbaaGreat
