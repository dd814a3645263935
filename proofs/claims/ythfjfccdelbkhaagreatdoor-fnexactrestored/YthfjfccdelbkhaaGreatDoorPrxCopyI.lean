/- The program copies a proxy. Written by mkprx3.py. -/
import Derived.Test.YthfjfccdelbkhaaGreatDoorRestPlainJ
namespace Go.Proofs.YthfjfccdelbkhaaGreatDoor
open Go.RowKit Go.Sort
end Go.Proofs.YthfjfccdelbkhaaGreatDoor
