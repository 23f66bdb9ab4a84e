/- The walks of layer 1's laws: each returns true, whatever the input; conditions: none. -/
import Derived.Test.YtdakeicfhbggeaaGreatLabs
/- Labw: The walks of layer 1's laws: each returns true, whatever the input; conditions: none. -/
namespace Go.Proofs.YtdakeicfhbggeaaGreat
namespace Lab
open Go Go.RowKit Sx
attribute [local irreducible] Go.Calls
end Lab
end Go.Proofs.YtdakeicfhbggeaaGreat
/- Labb: The walk of LabelBack: it returns true, whatever the input; conditions: none. -/
namespace Go.Proofs.YtdakeicfhbggeaaGreat
namespace Lab
open Go Go.RowKit Sx
attribute [local irreducible] Go.Calls
end Lab
end Go.Proofs.YtdakeicfhbggeaaGreat
/- Labo: The walk of LabelOrder: it returns true, whatever the input; conditions: none. -/
namespace Go.Proofs.YtdakeicfhbggeaaGreat
namespace Lab
open Go Go.RowKit Sx
attribute [local irreducible] Go.Calls
end Lab
end Go.Proofs.YtdakeicfhbggeaaGreat
