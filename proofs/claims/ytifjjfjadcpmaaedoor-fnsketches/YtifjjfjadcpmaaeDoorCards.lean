/-
  DERIVED. GIVEN WITH THE SEED: THE CARDS: each row of YtifjjfjadcpmaaeDoorRows.lean that lists a variable, with what it lists TIED to the program's text (the seventh form; the later family's looks); each row that meets fmt, with fmt's text TOLD by the authors' own Lean function (tested against real Go, not proved from fmt's source: count such statements apart). THE CARD IS WHAT COUNTS. Prove the row's statement (the work); the ties are given (YtifjjfjadcpmaaeDoorTie.lean); close each card by the builder's one call (the guide's Derived/Test/ToyasCard.lean, 'card_holds'). Laid BY PROGRAM, IN A SANDBOX (cutbox-door.mjs). By AI agents, Wed Nov 11 2026. No macro, syntax, notation, axiom, sorry.
-/
import Derived.Test.YtifjjfjadcpmaaeDoorRows
import GoSem.ClaimSeven
namespace Go.Proofs.YtifjjfjadcpmaaeDoor
namespace Rows

/-- THE TIED CARD OF 'laws.FnBodies'. -/
def fnBodiesCard : Claim7 := { stood := { row := fnBodiesRow, standIns := [], harness := (true, "3dcc3bb2e8d187bb00b0437752d90976532e11063c085e230b1345513642dad1"), looks := true }, kinds := [], alts := [], laidByText := true, laidKinds := [.data, .handle, .pinned], laidTests := true, laidLooks := .later }
def FnBodiesCardSaid : Prop := Claim7.holds Tryd.pinned (.plain (OpenSpec.ofChange fnBodiesSpec)) fnBodiesCard

/-- THE TIED CARD OF 'laws.FnBodiesTold'. -/
def fnBodiesToldCard : Claim7 := { stood := { row := fnBodiesToldRow, standIns := [], harness := (true, "3dcc3bb2e8d187bb00b0437752d90976532e11063c085e230b1345513642dad1"), looks := true }, kinds := [], alts := [], laidByText := true, laidKinds := [.data, .handle, .pinned], laidTests := true, laidLooks := .later }
def FnBodiesToldCardSaid : Prop := Claim7.holds Tryd.pinned (.plain (OpenSpec.ofChange fnBodiesToldSpec)) fnBodiesToldCard

/-- THE TIED CARD OF 'laws.FnSmuggled'. -/
def fnSmuggledCard : Claim7 := { stood := { row := fnSmuggledRow, standIns := [], harness := (true, "3dcc3bb2e8d187bb00b0437752d90976532e11063c085e230b1345513642dad1"), looks := true }, kinds := [], alts := [], laidByText := true, laidKinds := [.handle], laidTests := true, laidLooks := .later }
def FnSmuggledCardSaid : Prop := Claim7.holds Tryd.pinned (.plain (OpenSpec.ofChange fnSmuggledSpec)) fnSmuggledCard

/-- THE TIED CARD OF 'laws.FnGuesses'. -/
def fnGuessesCard : Claim7 := { stood := { row := fnGuessesRow, standIns := [], harness := (true, "3dcc3bb2e8d187bb00b0437752d90976532e11063c085e230b1345513642dad1"), looks := true }, kinds := [], alts := [], laidByText := true, laidKinds := [.data], laidTests := true, laidLooks := .later }
def FnGuessesCardSaid : Prop := Claim7.holds Tryd.pinned (.plain (OpenSpec.ofChange fnGuessesSpec)) fnGuessesCard

/-- THE TIED CARD OF 'laws.FnSketches'. -/
def fnSketchesCard : Claim7 := { stood := { row := fnSketchesRow, standIns := [], harness := (true, "3dcc3bb2e8d187bb00b0437752d90976532e11063c085e230b1345513642dad1"), looks := true }, kinds := [], alts := [], laidByText := true, laidKinds := [.data], laidTests := true, laidLooks := .later }
def FnSketchesCardSaid : Prop := Claim7.holds Tryd.pinned (.plain (OpenSpec.ofChange fnSketchesSpec)) fnSketchesCard

/-- THE SECOND FORM's CARD OF 'laws.FnBodies'. -/
def fnBodiesUptoCard : Claim7 := { stood := { row := fnBodiesUptoRow, standIns := [], harness := (true, "3dcc3bb2e8d187bb00b0437752d90976532e11063c085e230b1345513642dad1"), looks := true }, kinds := [], alts := [], laidByText := true, laidKinds := [.data, .handle, .pinned], laidTests := true, laidLooks := .later }
def FnBodiesUptoCardSaid : Prop := Claim7.holds Tryd.pinned (.plain (OpenSpec.upto fnBodiesSpec)) fnBodiesUptoCard

/-- THE SECOND FORM's CARD OF 'laws.FnBodiesTold'. -/
def fnBodiesToldUptoCard : Claim7 := { stood := { row := fnBodiesToldUptoRow, standIns := [], harness := (true, "3dcc3bb2e8d187bb00b0437752d90976532e11063c085e230b1345513642dad1"), looks := true }, kinds := [], alts := [], laidByText := true, laidKinds := [.data, .handle, .pinned], laidTests := true, laidLooks := .later }
def FnBodiesToldUptoCardSaid : Prop := Claim7.holds Tryd.pinned (.plain (OpenSpec.upto fnBodiesToldSpec)) fnBodiesToldUptoCard

/-- THE SECOND FORM's CARD OF 'laws.FnSmuggled'. -/
def fnSmuggledUptoCard : Claim7 := { stood := { row := fnSmuggledUptoRow, standIns := [], harness := (true, "3dcc3bb2e8d187bb00b0437752d90976532e11063c085e230b1345513642dad1"), looks := true }, kinds := [], alts := [], laidByText := true, laidKinds := [.handle], laidTests := true, laidLooks := .later }
def FnSmuggledUptoCardSaid : Prop := Claim7.holds Tryd.pinned (.plain (OpenSpec.upto fnSmuggledSpec)) fnSmuggledUptoCard

/-- THE SECOND FORM's CARD OF 'laws.FnGuesses'. -/
def fnGuessesUptoCard : Claim7 := { stood := { row := fnGuessesUptoRow, standIns := [], harness := (true, "3dcc3bb2e8d187bb00b0437752d90976532e11063c085e230b1345513642dad1"), looks := true }, kinds := [], alts := [], laidByText := true, laidKinds := [.data], laidTests := true, laidLooks := .later }
def FnGuessesUptoCardSaid : Prop := Claim7.holds Tryd.pinned (.plain (OpenSpec.upto fnGuessesSpec)) fnGuessesUptoCard

/-- THE SECOND FORM's CARD OF 'laws.FnSketches'. -/
def fnSketchesUptoCard : Claim7 := { stood := { row := fnSketchesUptoRow, standIns := [], harness := (true, "3dcc3bb2e8d187bb00b0437752d90976532e11063c085e230b1345513642dad1"), looks := true }, kinds := [], alts := [], laidByText := true, laidKinds := [.data], laidTests := true, laidLooks := .later }
def FnSketchesUptoCardSaid : Prop := Claim7.holds Tryd.pinned (.plain (OpenSpec.upto fnSketchesSpec)) fnSketchesUptoCard
end Rows
end Go.Proofs.YtifjjfjadcpmaaeDoor
