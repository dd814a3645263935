/- Texts that stand in one: PxEntsImpl, PxOkImpl, CliPlace. -/
import Derived.Test.YthfjfccdelbkhaaGreatDoorPxPlainJ
import Derived.Test.YthfjfccdelbkhaaGreatDoorRet9XJ
import Derived.Test.YthfjfccdelbkhaaGreatDoorPolTouchImplJ
import Derived.Lib.QuietBelow
import Derived.BigQuiet
import Derived.Laws.Cover1
import Derived.Test.YthfjfccdelbkhaaGreatDoorPxCliImpl
import Derived.Test.YthfjfccdelbkhaaGreatDoorTouchImplJ
import Derived.Test.YthfjfccdelbkhaaGreatDoorSkNewImplJ
import Derived.Test.YthfjfccdelbkhaaGreatDoorCliLawJ
import Derived.Test.YthfjfccdelbkhaaGreatDoorShelf
import Derived.Shelf.Abstract
namespace Go.Proofs.YthfjfccdelbkhaaGreatDoor
open Go.RowKit Go.Sort
end Go.Proofs.YthfjfccdelbkhaaGreatDoor
