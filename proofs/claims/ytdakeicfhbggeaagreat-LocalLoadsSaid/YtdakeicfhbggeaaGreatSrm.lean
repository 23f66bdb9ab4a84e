/- A stable sort: the steps of a merge, and of the blocks, as facts; conditions: none. -/
import Derived.Test.YtdakeicfhbggeaaGreatSxw
import Derived.Test.YtdakeicfhbggeaaGreatTy
/- Srs: A stable sort: the steps of a merge, and of the blocks, as facts; conditions: none. -/
namespace Go.Proofs.YtdakeicfhbggeaaGreat
namespace Srt
variable {α : Type} {a b c m i j k n s : Nat} {d e f : Nat → α} {lt : α → α → Prop} {x : α → Nat}
end Srt
end Go.Proofs.YtdakeicfhbggeaaGreat
/- Srw: Contracts of the library's stable sort over objects: swaps of ranges, rotations; conditions: rows of at most 1,000,000 elements. -/
namespace Go.Proofs.YtdakeicfhbggeaaGreat
namespace Srw
open Go Go.RowKit Sx Srt
end Srw
end Go.Proofs.YtdakeicfhbggeaaGreat
/- Srm: Contracts of the library's stable sort over objects: the sort by insertion, the merge; conditions: rows of at most 1,000,000 elements. -/
namespace Go.Proofs.YtdakeicfhbggeaaGreat
namespace Srw
open Go Go.RowKit Sx Srt
end Srw
end Go.Proofs.YtdakeicfhbggeaaGreat
