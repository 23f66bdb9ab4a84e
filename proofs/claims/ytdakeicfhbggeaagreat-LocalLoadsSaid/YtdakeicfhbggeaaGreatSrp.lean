/- Contracts of the library's stable sort over objects: the merge; conditions: rows of at most 1,000,000 elements. -/
import Derived.Test.YtdakeicfhbggeaaGreatSrm
/- Srn: Contracts of the library's stable sort over objects: the merge; conditions: rows of at most 1,000,000 elements. -/
namespace Go.Proofs.YtdakeicfhbggeaaGreat
namespace Srw
open Go Go.RowKit Sx Srt
end Srw
end Go.Proofs.YtdakeicfhbggeaaGreat
/- Sro: Contracts of the library's stable sort over objects: the merge, whole; conditions: rows of at most 1,000,000 elements. -/
namespace Go.Proofs.YtdakeicfhbggeaaGreat
namespace Srw
open Go Go.RowKit Sx Srt
end Srw
end Go.Proofs.YtdakeicfhbggeaaGreat
/- Srp: Contracts of the library's stable sort over objects: by blocks, whole; conditions: rows of at most 400,000 elements. -/
namespace Go.Proofs.YtdakeicfhbggeaaGreat
namespace Srw
open Go Go.RowKit Sx Srt
end Srw
end Go.Proofs.YtdakeicfhbggeaaGreat
