/- Texts, and the live question of layer 11; conditions: none. -/
import Derived.Test.YtonhfddklkbnbaaTrs
namespace Go.Proofs.Ytonhfddklkbnbaa
namespace Trt
open Go Go.RowKit Sx
attribute [local irreducible] Go.Calls

abbrev na : Nm := [97]
abbrev nb : Nm := [98]
abbrev nc : Nm := [99]
abbrev nd : Nm := [100]
abbrev nx : Nm := [120]
abbrev T1 : Tr := [(na, rootN), (rootN, [])]
abbrev T2 : Tr := [(na, rootN), (nb, na), (rootN, [])]
abbrev T3 : Tr := [(na, rootN), (nb, na), (nc, nb), (rootN, [])]
abbrev T4 : Tr := [(na, rootN), (nb, na), (nc, rootN), (rootN, [])]
abbrev T5 : Tr := [(na, rootN), (nc, rootN), (rootN, [])]
end Trt
end Go.Proofs.Ytonhfddklkbnbaa
