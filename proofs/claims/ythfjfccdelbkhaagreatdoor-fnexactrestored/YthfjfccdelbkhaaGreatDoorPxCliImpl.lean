/- The program's clientOk and clientsOk. Written by mkpxi.py. -/
import Derived.Test.YthfjfccdelbkhaaGreatDoorIdxFetJ
import Derived.Test.YthfjfccdelbkhaaGreatDoorPxPlainJ
namespace Go.Proofs.YthfjfccdelbkhaaGreatDoor
open Go.RowKit Go.Sort
end Go.Proofs.YthfjfccdelbkhaaGreatDoor
