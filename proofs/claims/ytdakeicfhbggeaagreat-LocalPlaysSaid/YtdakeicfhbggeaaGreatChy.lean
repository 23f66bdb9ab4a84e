/- What the document's answer for layer 8 does: a relist; conditions: names of at most 1,000 bytes, at most 19,999 objects. -/
import Derived.Test.YtdakeicfhbggeaaGreatChw
import Derived.Test.YtdakeicfhbggeaaGreatCsx
import Derived.Test.YtdakeicfhbggeaaGreatChd
import Derived.Test.YtdakeicfhbggeaaGreatEvl
/- Chr: What the document's answer for layer 8 does: a relist; conditions: names of at most 1,000 bytes, at most 19,999 objects. -/
namespace Go.Proofs.YtdakeicfhbggeaaGreat
namespace Chm
open Go Go.RowKit Sx Lab Vec Ojt Evt
end Chm
end Go.Proofs.YtdakeicfhbggeaaGreat
/- Chn: What the document's answer for layer 8 does: what is there behind an event; conditions: names of at most 1,000 bytes, at most 19,999 objects. -/
namespace Go.Proofs.YtdakeicfhbggeaaGreat
namespace Chm
open Go Go.RowKit Sx Lab Vec Ojt Evt
end Chm
end Go.Proofs.YtdakeicfhbggeaaGreat
/- Cha: What the document's answer for layer 8 does: an event is applied; conditions: names of at most 1,000 bytes, at most 1,000 objects. -/
namespace Go.Proofs.YtdakeicfhbggeaaGreat
namespace Chm
open Go Go.RowKit Sx Lab Vec Ojt Evt
end Chm
end Go.Proofs.YtdakeicfhbggeaaGreat
/- Che: What the document's answer for layer 8 does with lists: sameness of deltas, keys of graves; conditions: names of at most 1,000 bytes, at most 100,000 entries. -/
namespace Go.Proofs.YtdakeicfhbggeaaGreat
namespace Chm
open Go Go.RowKit Sx Lab Vec Ojt Evt
end Chm
end Go.Proofs.YtdakeicfhbggeaaGreat
/- Chf: Lists of events, and which are gone through, of layer 8; conditions: none. -/
namespace Go.Proofs.YtdakeicfhbggeaaGreat
namespace Chm
open Go Go.RowKit Sx Lab Vec Ojt Evt
end Chm
end Go.Proofs.YtdakeicfhbggeaaGreat
/- Chy: Deltas in new memory; where parts of the own heap lie; the document's Apply as a call out of a longer heap; conditions: none. -/
namespace Go.Proofs.YtdakeicfhbggeaaGreat
namespace Chm
open Go Go.RowKit Sx Lab Vec Ojt Evt
end Chm
end Go.Proofs.YtdakeicfhbggeaaGreat
