/- What the document's answer for layer 8 does with lists: deltas; conditions: names of at most 1,000 bytes, at most 1,000 objects. -/
import Derived.Test.YtkjjlppfomidbaaGreatChw
import Derived.Test.YtkjjlppfomidbaaGreatCsv
namespace Go.Proofs.YtkjjlppfomidbaaGreat
namespace Chm
open Go Go.RowKit Sx Lab Vec Ojt Evt
attribute [local irreducible] Go.Calls
structure PD where
  key : Kt
  had : Bool
  has : Bool
  old : PO
  new : PO
def cellsD (d : PD) : List Value := [S d.key.1, S d.key.2.1, S d.key.2.2, .bool d.had, .bool d.has, S d.old.2.k, S d.old.2.s, S d.old.2.n, I d.old.2.ver, S d.old.2.c, .bool d.old.2.tm, .bool d.old.2.bs, d.old.1,
  S d.new.2.k, S d.new.2.s, S d.new.2.n, I d.new.2.ver, S d.new.2.c, .bool d.new.2.tm, .bool d.new.2.bs, d.new.1]
theorem cellsD_len (d : PD) : (cellsD d).length = 21 := rfl
end Chm
end Go.Proofs.YtkjjlppfomidbaaGreat
