/-
  DERIVED. GIVEN WITH THE SEED: THE CARDS: each row of YtnnaphfeeobelaeDoorRows.lean that lists a variable, with what it lists TIED to the program's text (the seventh form; the later family's looks); each row that meets fmt, with fmt's text TOLD by the authors' own Lean function (tested against real Go, not proved from fmt's source: count such statements apart). THE CARD IS WHAT COUNTS. Prove the row's statement (the work); the ties are given (YtnnaphfeeobelaeDoorTie.lean); close each card by the builder's one call (the guide's Derived/Test/ToyasCard.lean, 'card_holds'). Laid BY PROGRAM, IN A SANDBOX (cutbox-door.mjs). By AI agents, Wed Nov 11 2026. No macro, syntax, notation, axiom, sorry.
-/
import Derived.Test.YtnnaphfeeobelaeDoorRows
import GoSem.ClaimSeven
namespace Go.Proofs.YtnnaphfeeobelaeDoor
namespace Rows

/-- THE TIED CARD OF 'laws.FnBodies'. -/
def fnBodiesCard : Claim7 := { stood := { row := fnBodiesRow, standIns := [], harness := (true, "4d8d6747e4ede30c5512751d7fb72af3b321ee7ff8a37fd190244a7f300e7f05"), looks := true }, kinds := [], alts := [], laidByText := true, laidKinds := [.data, .handle, .pinned], laidTests := true, laidLooks := .later }
def FnBodiesCardSaid : Prop := Claim7.holds Tryd.pinned (.plain (OpenSpec.ofChange fnBodiesSpec)) fnBodiesCard

/-- THE TIED CARD OF 'laws.FnBodiesTold'. -/
def fnBodiesToldCard : Claim7 := { stood := { row := fnBodiesToldRow, standIns := [], harness := (true, "4d8d6747e4ede30c5512751d7fb72af3b321ee7ff8a37fd190244a7f300e7f05"), looks := true }, kinds := [], alts := [], laidByText := true, laidKinds := [.data, .handle, .pinned], laidTests := true, laidLooks := .later }
def FnBodiesToldCardSaid : Prop := Claim7.holds Tryd.pinned (.plain (OpenSpec.ofChange fnBodiesToldSpec)) fnBodiesToldCard

/-- THE TIED CARD OF 'laws.FnSmuggled'. -/
def fnSmuggledCard : Claim7 := { stood := { row := fnSmuggledRow, standIns := [], harness := (true, "4d8d6747e4ede30c5512751d7fb72af3b321ee7ff8a37fd190244a7f300e7f05"), looks := true }, kinds := [], alts := [], laidByText := true, laidKinds := [.handle], laidTests := true, laidLooks := .later }
def FnSmuggledCardSaid : Prop := Claim7.holds Tryd.pinned (.plain (OpenSpec.ofChange fnSmuggledSpec)) fnSmuggledCard

/-- THE SECOND FORM's CARD OF 'laws.FnBodies'. -/
def fnBodiesUptoCard : Claim7 := { stood := { row := fnBodiesUptoRow, standIns := [], harness := (true, "4d8d6747e4ede30c5512751d7fb72af3b321ee7ff8a37fd190244a7f300e7f05"), looks := true }, kinds := [], alts := [], laidByText := true, laidKinds := [.data, .handle, .pinned], laidTests := true, laidLooks := .later }
def FnBodiesUptoCardSaid : Prop := Claim7.holds Tryd.pinned (.plain (OpenSpec.upto fnBodiesSpec)) fnBodiesUptoCard

/-- THE SECOND FORM's CARD OF 'laws.FnBodiesTold'. -/
def fnBodiesToldUptoCard : Claim7 := { stood := { row := fnBodiesToldUptoRow, standIns := [], harness := (true, "4d8d6747e4ede30c5512751d7fb72af3b321ee7ff8a37fd190244a7f300e7f05"), looks := true }, kinds := [], alts := [], laidByText := true, laidKinds := [.data, .handle, .pinned], laidTests := true, laidLooks := .later }
def FnBodiesToldUptoCardSaid : Prop := Claim7.holds Tryd.pinned (.plain (OpenSpec.upto fnBodiesToldSpec)) fnBodiesToldUptoCard

/-- THE SECOND FORM's CARD OF 'laws.FnSmuggled'. -/
def fnSmuggledUptoCard : Claim7 := { stood := { row := fnSmuggledUptoRow, standIns := [], harness := (true, "4d8d6747e4ede30c5512751d7fb72af3b321ee7ff8a37fd190244a7f300e7f05"), looks := true }, kinds := [], alts := [], laidByText := true, laidKinds := [.handle], laidTests := true, laidLooks := .later }
def FnSmuggledUptoCardSaid : Prop := Claim7.holds Tryd.pinned (.plain (OpenSpec.upto fnSmuggledSpec)) fnSmuggledUptoCard
end Rows
end Go.Proofs.YtnnaphfeeobelaeDoor
