/- Contracts of the landed code of layer 7: which events may be, their versions; conditions: names of at most 1,000 bytes, at most 100,000 objects and resources. -/
import Derived.Test.YtdakeicfhbggeaaGreatSxy
import Derived.Test.YtdakeicfhbggeaaGreatEvs
import Derived.Test.YtdakeicfhbggeaaGreatSxw
import Derived.Test.YtdakeicfhbggeaaGreatSrp
import Derived.Test.YtdakeicfhbggeaaGreatCsx
/- Evq: Contracts of the landed code of layer 7: which events may be, their versions; conditions: names of at most 1,000 bytes, at most 100,000 objects and resources. -/
namespace Go.Proofs.YtdakeicfhbggeaaGreat
namespace Evt
open Go Go.RowKit Sx Lab Vec Ojt
end Evt
end Go.Proofs.YtdakeicfhbggeaaGreat
/- Evx: Contracts of the landed code of layer 7: the map of kinds, Version, Right; conditions: names of at most 1,000 bytes, at most 100,000 objects and resources. -/
namespace Go.Proofs.YtdakeicfhbggeaaGreat
namespace Evt
open Go Go.RowKit Sx Lab Vec Ojt
end Evt
end Go.Proofs.YtdakeicfhbggeaaGreat
/- Evy: Contracts of the landed code of layer 7: Same, lists of objects' own, Own; conditions: names of at most 1,000 bytes, at most 100,000 objects and resources. -/
namespace Go.Proofs.YtdakeicfhbggeaaGreat
namespace Evt
open Go Go.RowKit Sx Lab Vec Ojt
end Evt
end Go.Proofs.YtdakeicfhbggeaaGreat
/- Evz: Contracts of the landed code of layer 7: Own, Sorted; conditions: names of at most 1,000 bytes, at most 100,000 objects and resources. -/
namespace Go.Proofs.YtdakeicfhbggeaaGreat
namespace Evt
open Go Go.RowKit Sx Lab Vec Ojt
end Evt
end Go.Proofs.YtdakeicfhbggeaaGreat
/- Evl: What is gone through, and the live question, of layer 7; conditions: none. -/
namespace Go.Proofs.YtdakeicfhbggeaaGreat
namespace Evt
open Go Go.RowKit Sx Lab Vec Ojt
end Evt
end Go.Proofs.YtdakeicfhbggeaaGreat
