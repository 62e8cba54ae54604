/- The library's functions that package chars and its reference call, by the shelf's contracts, at this translation's numbers. No conditions but those that each names. -/
import Derived.Shelf.Lay
import Derived.Shelf.LaySoft
import Derived.Shelf.Small.Utf8
import Derived.Shelf.Strings.BuilderK
import Derived.Shelf.Strings.BuilderRune
import Derived.Shelf.Utf8.RuneCount
import Derived.Shelf.Strings.Prefix
import Derived.Shelf.Unicode.DecodeAny
import Derived.Test.YtiohoiebnpdkbaaDoorProg
namespace Go.Proofs
open Go.Shelf
shelf_try shelf_lay Lays.n99 Nm 99 at Tryd as Tryd.lays99
shelf_try shelf_lay Lays.n119 Nm 119 at Tryd as Tryd.lays119
shelf_try shelf_lay Lays.n170 Nm 170 at Tryd as Tryd.lays170
shelf_try shelf_lay Lays.n169 Nm 169 at Tryd as Tryd.lays169
shelf_try shelf_lay Lays.n195 Nm 195 at Tryd as Tryd.lays195
shelf_try shelf_lay Lays.n197 Nm 197 at Tryd as Tryd.lays197
shelf_tried
end Go.Proofs
