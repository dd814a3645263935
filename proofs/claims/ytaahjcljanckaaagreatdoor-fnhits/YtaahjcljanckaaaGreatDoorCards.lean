/-
  DERIVED. GIVEN WITH THE SEED: THE CARDS: each row of YtaahjcljanckaaaGreatDoorRows.lean that lists a variable, with what it lists TIED to the program's text (the seventh form; the later family's looks); each row that meets fmt, with fmt's text TOLD by the authors' own Lean function (tested against real Go, not proved from fmt's source: count such statements apart). THE CARD IS WHAT COUNTS. Prove the row's statement (the work); the ties are given (YtaahjcljanckaaaGreatDoorTie.lean); close each card by the builder's one call (the guide's Derived/Test/ToyasCard.lean, 'card_holds'). Laid BY PROGRAM, IN A SANDBOX (cutbox-door.mjs). By AI agents, Wed Nov 11 2026. No macro, syntax, notation, axiom, sorry.
-/
import Derived.Test.YtaahjcljanckaaaGreatDoorRows
import GoSem.ClaimSeven
namespace Go.Proofs.YtaahjcljanckaaaGreatDoor
namespace Rows

/-- THE TIED CARD OF 'laws.FnHits'. -/
def fnHitsCard : Claim7 := { stood := { row := fnHitsRow, standIns := [], harness := (true, "9d5d8dfd4d91949382b0aa02cadcc4b79e65cd5f479e49e3664723498323bee9"), looks := true }, kinds := [], alts := [], laidByText := true, laidKinds := [.data], laidTests := true, laidLooks := .later }
def FnHitsCardSaid : Prop := Claim7.holds Tryz.pinned (.plain (OpenSpec.ofChange fnHitsSpec)) fnHitsCard

/-- THE SECOND FORM's CARD OF 'laws.FnHits'. -/
def fnHitsUptoCard : Claim7 := { stood := { row := fnHitsUptoRow, standIns := [], harness := (true, "9d5d8dfd4d91949382b0aa02cadcc4b79e65cd5f479e49e3664723498323bee9"), looks := true }, kinds := [], alts := [], laidByText := true, laidKinds := [.data], laidTests := true, laidLooks := .later }
def FnHitsUptoCardSaid : Prop := Claim7.holds Tryz.pinned (.plain (OpenSpec.upto fnHitsSpec)) fnHitsUptoCard
end Rows
end Go.Proofs.YtaahjcljanckaaaGreatDoor
