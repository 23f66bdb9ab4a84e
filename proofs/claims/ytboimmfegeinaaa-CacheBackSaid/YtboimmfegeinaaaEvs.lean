/- Contracts of the document's answer for layer 7: Version, Same, Sorted; conditions: names of at most 1,000 bytes, at most 100,000 objects and resources. -/
import Derived.Test.YtboimmfegeinaaaEvr
import Derived.Test.YtboimmfegeinaaaEvn
namespace Go.Proofs.Ytboimmfegeinaaa
namespace Evt
open Go Go.RowKit Sx Lab Vec Ojt
attribute [local irreducible] Go.Calls

def sameE (k1 : Int) (o1 : Ob) (v1 : Int) (ps : List PO) (k2 : Int) (o2 : Ob) (v2 : Int) (qs : List PO) : Bool := decide (o1 = o2) && (decide (obs ps = obs qs) && ((k1 == k2) && (v1 == v2)))
theorem row_o {v : Value} {k : Hp} {os : List PO} {u : Value} {o : Ob} {e : TypeId} (h : RowB e 8 v k (os.length + 1) (os.flatMap cellsO ++ [S o.k, S o.s, S o.n, I o.ver, S o.c, .bool o.tm, .bool o.bs, u])) : RowB e 8 v k (os ++ [(u, o)]).length ((os ++ [(u, o)]).flatMap cellsO) := by
  rw [List.length_append, List.flatMap_append]
  exact h

theorem row_o2 {v : Value} {k : Hp} {os : List PO} {u u2 : Value} {o o2 : Ob} {e : TypeId} (h : RowB e 8 v k (os.length + 1 + 1) (os.flatMap cellsO ++ [S o.k, S o.s, S o.n, I o.ver, S o.c, .bool o.tm, .bool o.bs, u] ++ [S o2.k, S o2.s, S o2.n, I o2.ver, S o2.c, .bool o2.tm, .bool o2.bs, u2])) :
    RowB e 8 v k (os ++ [(u, o)] ++ [(u2, o2)]).length ((os ++ [(u, o)] ++ [(u2, o2)]).flatMap cellsO) := by
  rw [List.length_append, List.length_append, List.flatMap_append, List.flatMap_append]
  exact h

end Evt
end Go.Proofs.Ytboimmfegeinaaa
