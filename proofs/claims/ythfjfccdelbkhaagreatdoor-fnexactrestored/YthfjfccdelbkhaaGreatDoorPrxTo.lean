/- A law copies proxies. Written by mkprx.py. -/
import Derived.Test.YthfjfccdelbkhaaGreatDoorCliLawJ
namespace Go.Proofs.YthfjfccdelbkhaaGreatDoor
open Go.RowKit Go.Sort
end Go.Proofs.YthfjfccdelbkhaaGreatDoor
