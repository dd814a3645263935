/-
  DERIVED. GIVEN WITH THE SEED: THE CARDS: each row of YtlefccgdeafinapDoorRows.lean that lists a variable, with what it lists TIED to the program's text (the seventh form; the later family's looks); each row that meets fmt, with fmt's text TOLD by the authors' own Lean function (tested against real Go, not proved from fmt's source: count such statements apart). THE CARD IS WHAT COUNTS. Prove the row's statement (the work); the ties are given (YtlefccgdeafinapDoorTie.lean); close each card by the builder's one call (the guide's Derived/Test/ToyasCard.lean, 'card_holds'). Laid BY PROGRAM, IN A SANDBOX (cutbox-door.mjs). By AI agents, Wed Nov 11 2026. No macro, syntax, notation, axiom, sorry.
-/
import Derived.Test.YtlefccgdeafinapDoorRows
import GoSem.ClaimSeven
namespace Go.Proofs.YtlefccgdeafinapDoor
namespace Rows

/-- THE TIED CARD OF 'laws.FnExactFieldOk'. -/
def fnExactFieldOkCard : Claim7 := { stood := { row := fnExactFieldOkRow, standIns := [], harness := (true, "a8cbe1895cb5e131de29d11cd0477ab8b527c23f668e513f0638e819531598da"), looks := false }, kinds := [], alts := [], laidByText := true, laidKinds := [.data, .pinned], laidTests := true, laidLooks := .later }
def FnExactFieldOkCardSaid : Prop := Claim7.holds Tryd.pinned (.plain (OpenSpec.ofChange fnExactFieldOkSpec)) fnExactFieldOkCard

/-- THE TIED CARD OF 'laws.FnExactHeadOk'. -/
def fnExactHeadOkCard : Claim7 := { stood := { row := fnExactHeadOkRow, standIns := [], harness := (true, "a8cbe1895cb5e131de29d11cd0477ab8b527c23f668e513f0638e819531598da"), looks := false }, kinds := [], alts := [], laidByText := true, laidKinds := [.data, .pinned], laidTests := true, laidLooks := .later }
def FnExactHeadOkCardSaid : Prop := Claim7.holds Tryd.pinned (.plain (OpenSpec.ofChange fnExactHeadOkSpec)) fnExactHeadOkCard

/-- THE SECOND FORM's CARD OF 'laws.FnExactFieldOk'. -/
def fnExactFieldOkUptoCard : Claim7 := { stood := { row := fnExactFieldOkUptoRow, standIns := [], harness := (true, "a8cbe1895cb5e131de29d11cd0477ab8b527c23f668e513f0638e819531598da"), looks := false }, kinds := [], alts := [], laidByText := true, laidKinds := [.data, .pinned], laidTests := true, laidLooks := .later }
def FnExactFieldOkUptoCardSaid : Prop := Claim7.holds Tryd.pinned (.plain (OpenSpec.upto fnExactFieldOkSpec)) fnExactFieldOkUptoCard

/-- THE SECOND FORM's CARD OF 'laws.FnExactHeadOk'. -/
def fnExactHeadOkUptoCard : Claim7 := { stood := { row := fnExactHeadOkUptoRow, standIns := [], harness := (true, "a8cbe1895cb5e131de29d11cd0477ab8b527c23f668e513f0638e819531598da"), looks := false }, kinds := [], alts := [], laidByText := true, laidKinds := [.data, .pinned], laidTests := true, laidLooks := .later }
def FnExactHeadOkUptoCardSaid : Prop := Claim7.holds Tryd.pinned (.plain (OpenSpec.upto fnExactHeadOkSpec)) fnExactHeadOkUptoCard
end Rows
end Go.Proofs.YtlefccgdeafinapDoor
