/-
  DERIVED. GIVEN WITH THE SEED: THE CARDS: each row of YthfjfccdelbkhaaGreatDoorRows.lean that lists a variable, with what it lists TIED to the program's text (the seventh form; the later family's looks); each row that meets fmt, with fmt's text TOLD by the authors' own Lean function (tested against real Go, not proved from fmt's source: count such statements apart). THE CARD IS WHAT COUNTS. Prove the row's statement (the work); the ties are given (YthfjfccdelbkhaaGreatDoorTie.lean); close each card by the builder's one call (the guide's Derived/Test/ToyasCard.lean, 'card_holds'). Laid BY PROGRAM, IN A SANDBOX (cutbox-door.mjs). By AI agents, Wed Nov 11 2026. No macro, syntax, notation, axiom, sorry.
-/
import Derived.Test.YthfjfccdelbkhaaGreatDoorRows
import GoSem.ClaimSeven
namespace Go.Proofs.YthfjfccdelbkhaaGreatDoor
namespace Rows

/-- THE TIED CARD OF 'laws.FnExactRestored'. -/
def fnExactRestoredCard : Claim7 := { stood := { row := fnExactRestoredRow, standIns := [], harness := (true, "c8879e2633adda2ee8b042be8f5db1446b6c939baa53d9a14729c24863eaf212"), looks := false }, kinds := [], alts := [], laidByText := true, laidKinds := [.data], laidTests := true, laidLooks := .later }
def FnExactRestoredCardSaid : Prop := Claim7.holds Tryz.pinned (.plain (OpenSpec.ofChange fnExactRestoredSpec)) fnExactRestoredCard

/-- THE SECOND FORM's CARD OF 'laws.FnExactRestored'. -/
def fnExactRestoredUptoCard : Claim7 := { stood := { row := fnExactRestoredUptoRow, standIns := [], harness := (true, "c8879e2633adda2ee8b042be8f5db1446b6c939baa53d9a14729c24863eaf212"), looks := false }, kinds := [], alts := [], laidByText := true, laidKinds := [.data], laidTests := true, laidLooks := .later }
def FnExactRestoredUptoCardSaid : Prop := Claim7.holds Tryz.pinned (.plain (OpenSpec.upto fnExactRestoredSpec)) fnExactRestoredUptoCard
end Rows
end Go.Proofs.YthfjfccdelbkhaaGreatDoor
