import Derived.Test.YtifjdfmmafbhkaaDoorProg
import Derived.Shelf.Unicode.DecodeAny
import Derived.Shelf.Strings.Runes
import Derived.Shelf.Unicode.ValidAny
import Derived.Shelf.Lay
import Derived.Shelf.LaySoft
namespace Go.Proofs
open Go.Shelf
shelf_try shelf_lay Lays.n197 Nm 197 at Tryd as Tryd.lays197
shelf_try shelf_lay Lays.n196 Nm 196 at Tryd as Tryd.lays196
shelf_try shelf_lay Lays.n151 Nm 151 at Tryd as Tryd.lays151
shelf_tried
end Go.Proofs
