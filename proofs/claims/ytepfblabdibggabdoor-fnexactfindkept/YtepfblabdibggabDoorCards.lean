/-
  DERIVED. GIVEN WITH THE SEED: THE CARDS: each row of YtepfblabdibggabDoorRows.lean that lists a variable, with what it lists TIED to the program's text (the seventh form; the later family's looks); each row that meets fmt, with fmt's text TOLD by the authors' own Lean function (tested against real Go, not proved from fmt's source: count such statements apart). THE CARD IS WHAT COUNTS. Prove the row's statement (the work); the ties are given (YtepfblabdibggabDoorTie.lean); close each card by the builder's one call (the guide's Derived/Test/ToyasCard.lean, 'card_holds'). Laid BY PROGRAM, IN A SANDBOX (cutbox-door.mjs). By AI agents, Wed Nov 11 2026. No macro, syntax, notation, axiom, sorry.
-/
import Derived.Test.YtepfblabdibggabDoorRows
import GoSem.ClaimSeven
namespace Go.Proofs.YtepfblabdibggabDoor
namespace Rows

/-- THE TIED CARD OF 'laws.FnExactKeepActs'. -/
def fnExactKeepActsCard : Claim7 := { stood := { row := fnExactKeepActsRow, standIns := [], harness := (true, "d526934a895dd7792189278e2d86d58a0b738a25600a84b95096df0d499c5456"), looks := false }, kinds := [], alts := [], laidByText := true, laidKinds := [.data], laidTests := true, laidLooks := .later }
def FnExactKeepActsCardSaid : Prop := Claim7.holds Tryd.pinned (.plain (OpenSpec.ofChange fnExactKeepActsSpec)) fnExactKeepActsCard

/-- THE TIED CARD OF 'laws.FnExactFindKept'. -/
def fnExactFindKeptCard : Claim7 := { stood := { row := fnExactFindKeptRow, standIns := [], harness := (true, "d526934a895dd7792189278e2d86d58a0b738a25600a84b95096df0d499c5456"), looks := false }, kinds := [], alts := [], laidByText := true, laidKinds := [.data], laidTests := true, laidLooks := .later }
def FnExactFindKeptCardSaid : Prop := Claim7.holds Tryd.pinned (.plain (OpenSpec.ofChange fnExactFindKeptSpec)) fnExactFindKeptCard

/-- THE TIED CARD OF 'laws.FnExactAnewActs'. -/
def fnExactAnewActsCard : Claim7 := { stood := { row := fnExactAnewActsRow, standIns := [], harness := (true, "d526934a895dd7792189278e2d86d58a0b738a25600a84b95096df0d499c5456"), looks := false }, kinds := [], alts := [], laidByText := true, laidKinds := [.data], laidTests := true, laidLooks := .later }
def FnExactAnewActsCardSaid : Prop := Claim7.holds Tryd.pinned (.plain (OpenSpec.ofChange fnExactAnewActsSpec)) fnExactAnewActsCard

/-- THE SECOND FORM's CARD OF 'laws.FnExactKeepActs'. -/
def fnExactKeepActsUptoCard : Claim7 := { stood := { row := fnExactKeepActsUptoRow, standIns := [], harness := (true, "d526934a895dd7792189278e2d86d58a0b738a25600a84b95096df0d499c5456"), looks := false }, kinds := [], alts := [], laidByText := true, laidKinds := [.data], laidTests := true, laidLooks := .later }
def FnExactKeepActsUptoCardSaid : Prop := Claim7.holds Tryd.pinned (.plain (OpenSpec.upto fnExactKeepActsSpec)) fnExactKeepActsUptoCard

/-- THE SECOND FORM's CARD OF 'laws.FnExactFindKept'. -/
def fnExactFindKeptUptoCard : Claim7 := { stood := { row := fnExactFindKeptUptoRow, standIns := [], harness := (true, "d526934a895dd7792189278e2d86d58a0b738a25600a84b95096df0d499c5456"), looks := false }, kinds := [], alts := [], laidByText := true, laidKinds := [.data], laidTests := true, laidLooks := .later }
def FnExactFindKeptUptoCardSaid : Prop := Claim7.holds Tryd.pinned (.plain (OpenSpec.upto fnExactFindKeptSpec)) fnExactFindKeptUptoCard

/-- THE SECOND FORM's CARD OF 'laws.FnExactAnewActs'. -/
def fnExactAnewActsUptoCard : Claim7 := { stood := { row := fnExactAnewActsUptoRow, standIns := [], harness := (true, "d526934a895dd7792189278e2d86d58a0b738a25600a84b95096df0d499c5456"), looks := false }, kinds := [], alts := [], laidByText := true, laidKinds := [.data], laidTests := true, laidLooks := .later }
def FnExactAnewActsUptoCardSaid : Prop := Claim7.holds Tryd.pinned (.plain (OpenSpec.upto fnExactAnewActsSpec)) fnExactAnewActsUptoCard
end Rows
end Go.Proofs.YtepfblabdibggabDoor
