import Derived.Test.YtifjdfmmafbhkaaDoorProg
import Derived.Shelf.Strconv.Itoa4
import Derived.Shelf.Lay
import Derived.Shelf.LaySoft
namespace Go.Proofs
open Go.Shelf
shelf_try shelf_lay LaysM.n173 Nm 173 at Tryd as Tryd.lays173
shelf_tried
end Go.Proofs
