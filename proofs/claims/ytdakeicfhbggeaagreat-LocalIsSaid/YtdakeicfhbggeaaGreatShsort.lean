/- The sort of the library, laid at the program; conditions: as the contracts say. -/
import Derived.Shelf.Lay
import Derived.Shelf.LaySoft
import Derived.Ground.SlsfProg
import Derived.Shelf.SlSortCmp.WholeK
import Derived.Test.YtdakeicfhbggeaaGreatProg
namespace Go.Proofs.YtdakeicfhbggeaaGreat
open Go.Shelf
shelf_try shelf_lay_g SlLaysF0.n6 Slsf 6 at Tryz 126 as Tryz.sortDelta
shelf_tried
end Go.Proofs.YtdakeicfhbggeaaGreat
