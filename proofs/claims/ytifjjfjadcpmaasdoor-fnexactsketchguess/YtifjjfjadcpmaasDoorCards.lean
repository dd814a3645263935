/-
  DERIVED. GIVEN WITH THE SEED: THE CARDS: each row of YtifjjfjadcpmaasDoorRows.lean that lists a variable, with what it lists TIED to the program's text (the seventh form; the later family's looks); each row that meets fmt, with fmt's text TOLD by the authors' own Lean function (tested against real Go, not proved from fmt's source: count such statements apart). THE CARD IS WHAT COUNTS. Prove the row's statement (the work); the ties are given (YtifjjfjadcpmaasDoorTie.lean); close each card by the builder's one call (the guide's Derived/Test/ToyasCard.lean, 'card_holds'). Laid BY PROGRAM, IN A SANDBOX (cutbox-door.mjs). By AI agents, Wed Nov 11 2026. No macro, syntax, notation, axiom, sorry.
-/
import Derived.Test.YtifjjfjadcpmaasDoorRows
import GoSem.ClaimSeven
namespace Go.Proofs.YtifjjfjadcpmaasDoor
namespace Rows

/-- THE TIED CARD OF 'laws.FnExactAnswerText'. -/
def fnExactAnswerTextCard : Claim7 := { stood := { row := fnExactAnswerTextRow, standIns := [], harness := (true, "7f98782f463d163b3d95d957164bdcdd7bc9196e414139afb585c26199fcfd33"), looks := false }, kinds := [], alts := [], laidByText := true, laidKinds := [.data, .data, .data, .data, .pinned], laidTests := true, laidLooks := .later }
def FnExactAnswerTextCardSaid : Prop := Claim7.holds Tryd.pinned (.plain (OpenSpec.ofChange fnExactAnswerTextSpec)) fnExactAnswerTextCard

/-- THE TIED CARD OF 'laws.FnExactSketchPlace'. -/
def fnExactSketchPlaceCard : Claim7 := { stood := { row := fnExactSketchPlaceRow, standIns := [], harness := (true, "7f98782f463d163b3d95d957164bdcdd7bc9196e414139afb585c26199fcfd33"), looks := false }, kinds := [], alts := [], laidByText := true, laidKinds := [.data], laidTests := true, laidLooks := .later }
def FnExactSketchPlaceCardSaid : Prop := Claim7.holds Tryd.pinned (.plain (OpenSpec.ofChange fnExactSketchPlaceSpec)) fnExactSketchPlaceCard

/-- THE TIED CARD OF 'laws.FnExactSketchBump'. -/
def fnExactSketchBumpCard : Claim7 := { stood := { row := fnExactSketchBumpRow, standIns := [], harness := (true, "7f98782f463d163b3d95d957164bdcdd7bc9196e414139afb585c26199fcfd33"), looks := false }, kinds := [], alts := [], laidByText := true, laidKinds := [.data], laidTests := true, laidLooks := .later }
def FnExactSketchBumpCardSaid : Prop := Claim7.holds Tryd.pinned (.plain (OpenSpec.ofChange fnExactSketchBumpSpec)) fnExactSketchBumpCard

/-- THE TIED CARD OF 'laws.FnExactSketchGuess'. -/
def fnExactSketchGuessCard : Claim7 := { stood := { row := fnExactSketchGuessRow, standIns := [], harness := (true, "7f98782f463d163b3d95d957164bdcdd7bc9196e414139afb585c26199fcfd33"), looks := false }, kinds := [], alts := [], laidByText := true, laidKinds := [.data], laidTests := true, laidLooks := .later }
def FnExactSketchGuessCardSaid : Prop := Claim7.holds Tryd.pinned (.plain (OpenSpec.ofChange fnExactSketchGuessSpec)) fnExactSketchGuessCard

/-- THE SECOND FORM's CARD OF 'laws.FnExactAnswerText'. -/
def fnExactAnswerTextUptoCard : Claim7 := { stood := { row := fnExactAnswerTextUptoRow, standIns := [], harness := (true, "7f98782f463d163b3d95d957164bdcdd7bc9196e414139afb585c26199fcfd33"), looks := false }, kinds := [], alts := [], laidByText := true, laidKinds := [.data, .data, .data, .data, .pinned], laidTests := true, laidLooks := .later }
def FnExactAnswerTextUptoCardSaid : Prop := Claim7.holds Tryd.pinned (.plain (OpenSpec.upto fnExactAnswerTextSpec)) fnExactAnswerTextUptoCard

/-- THE SECOND FORM's CARD OF 'laws.FnExactSketchPlace'. -/
def fnExactSketchPlaceUptoCard : Claim7 := { stood := { row := fnExactSketchPlaceUptoRow, standIns := [], harness := (true, "7f98782f463d163b3d95d957164bdcdd7bc9196e414139afb585c26199fcfd33"), looks := false }, kinds := [], alts := [], laidByText := true, laidKinds := [.data], laidTests := true, laidLooks := .later }
def FnExactSketchPlaceUptoCardSaid : Prop := Claim7.holds Tryd.pinned (.plain (OpenSpec.upto fnExactSketchPlaceSpec)) fnExactSketchPlaceUptoCard

/-- THE SECOND FORM's CARD OF 'laws.FnExactSketchBump'. -/
def fnExactSketchBumpUptoCard : Claim7 := { stood := { row := fnExactSketchBumpUptoRow, standIns := [], harness := (true, "7f98782f463d163b3d95d957164bdcdd7bc9196e414139afb585c26199fcfd33"), looks := false }, kinds := [], alts := [], laidByText := true, laidKinds := [.data], laidTests := true, laidLooks := .later }
def FnExactSketchBumpUptoCardSaid : Prop := Claim7.holds Tryd.pinned (.plain (OpenSpec.upto fnExactSketchBumpSpec)) fnExactSketchBumpUptoCard

/-- THE SECOND FORM's CARD OF 'laws.FnExactSketchGuess'. -/
def fnExactSketchGuessUptoCard : Claim7 := { stood := { row := fnExactSketchGuessUptoRow, standIns := [], harness := (true, "7f98782f463d163b3d95d957164bdcdd7bc9196e414139afb585c26199fcfd33"), looks := false }, kinds := [], alts := [], laidByText := true, laidKinds := [.data], laidTests := true, laidLooks := .later }
def FnExactSketchGuessUptoCardSaid : Prop := Claim7.holds Tryd.pinned (.plain (OpenSpec.upto fnExactSketchGuessSpec)) fnExactSketchGuessUptoCard
end Rows
end Go.Proofs.YtifjjfjadcpmaasDoor
