/- What the document's answer for layer 8 does with lists: with; conditions: names of at most 1,000 bytes, at most 19,999 objects. -/
import Derived.Test.YtboimmfegeinaaaChk
import Derived.Test.YtboimmfegeinaaaEvs
namespace Go.Proofs.Ytboimmfegeinaaa
namespace Chm
open Go Go.RowKit Sx Lab Vec Ojt Evt
attribute [local irreducible] Go.Calls

def withP (ps : List PO) (p : PO) : List PO := sortP (withoutP ps (keyO p.2) ++ [p])
end Chm
end Go.Proofs.Ytboimmfegeinaaa
