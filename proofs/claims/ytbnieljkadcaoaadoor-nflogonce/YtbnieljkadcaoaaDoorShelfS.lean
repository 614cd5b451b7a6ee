import Derived.Test.YtbnieljkadcaoaaDoorProg
import Derived.Shelf.SlSortCmp.Whole1
import Derived.Ground.SlsfProg
import Derived.Shelf.Lay
import Derived.Shelf.LaySoft
namespace Go.Proofs
open Go.Shelf
shelf_try shelf_lay_g SlLaysF.n6 Slsf 6 at Tryd 64 as Tryd.sortSt
shelf_tried
end Go.Proofs
