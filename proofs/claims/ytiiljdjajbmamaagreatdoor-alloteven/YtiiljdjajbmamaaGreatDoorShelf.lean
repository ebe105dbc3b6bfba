/-
  slices.SortFunc of the library, laid at this program.
-/
import Derived.Shelf.SlSortCmp.NoneTotal
import Derived.Test.YtiiljdjajbmamaaGreatDoorProg
namespace Go.Proofs.YtiiljdjajbmamaaGreatDoor
open Go.Shelf
shelf_try shelf_lay_g SlLaysF0.n6 Slsf 6 at Tryz None as sortLays
shelf_tried
end Go.Proofs.YtiiljdjajbmamaaGreatDoor
