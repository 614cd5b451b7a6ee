import Derived.Test.YtbnieljkadcaoaaDoorProg
import Derived.Shelf.Unicode.ValidAny
import Derived.Shelf.Lay
import Derived.Shelf.LaySoft
namespace Go.Proofs
open Go.Shelf
shelf_try shelf_lay Lays.n196 Nm 196 at Tryd as Tryd.lays196
shelf_tried
end Go.Proofs
