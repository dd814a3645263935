/- Texts that stand in one: IdxFet, PxOpen, OnePlain, PxOneImpl, PxFetImpl. -/
import Derived.Test.YthfjfccdelbkhaaGreatDoorFolderPlainJ
import Derived.Test.YthfjfccdelbkhaaGreatDoorSkNewImplJ
import Derived.Deep.RegionLaw
import Derived.Shelf.Abstract
import Derived.Test.YthfjfccdelbkhaaGreatDoorPxPlainJ
import Derived.Lib.QuietBelow
import Derived.BigQuiet
import Derived.Test.YthfjfccdelbkhaaGreatDoorRet9XJ
namespace Go.Proofs.YthfjfccdelbkhaaGreatDoor
open Go.RowKit Go.Sort
theorem FetAt.take {w : World} {a : Option Addr} {L : List Fet} {B : Nat} (h : FetAt w a L B) (k : Nat) : FetAt w a (L.take k) B := fun j hj => by
 have hl : j < L.length := by rw [List.length_take] at hj; omega
 obtain ⟨g,o,e,hg,h1⟩ := h j hl
 refine ⟨g,o,e,hg, ?_⟩
 rw [List.getElem_take]
 exact h1
end Go.Proofs.YthfjfccdelbkhaaGreatDoor
