/-
  DERIVED. GIVEN WITH THE SEED: THE CARDS: each row of YtbcjkinalghokatDoorRows.lean that lists a variable, with what it lists TIED to the program's text (the seventh form; the later family's looks); each row that meets fmt, with fmt's text TOLD by the authors' own Lean function (tested against real Go, not proved from fmt's source: count such statements apart). THE CARD IS WHAT COUNTS. Prove the row's statement (the work); the ties are given (YtbcjkinalghokatDoorTie.lean); close each card by the builder's one call (the guide's Derived/Test/ToyasCard.lean, 'card_holds'). Laid BY PROGRAM, IN A SANDBOX (cutbox-door.mjs). By AI agents, Wed Nov 11 2026. No macro, syntax, notation, axiom, sorry.
-/
import Derived.Test.YtbcjkinalghokatDoorRows
import GoSem.ClaimSeven
namespace Go.Proofs.YtbcjkinalghokatDoor
namespace Rows

/-- THE TIED CARD OF 'laws.FnExactPolicyTouch'. -/
def fnExactPolicyTouchCard : Claim7 := { stood := { row := fnExactPolicyTouchRow, standIns := [], harness := (true, "f807d2e3c6f79274ff1d84c6a18dcc4bcb1b62db2bf804c9caa965ebda030f1c"), looks := false }, kinds := [], alts := [], laidByText := true, laidKinds := [.data], laidTests := true, laidLooks := .later }
def FnExactPolicyTouchCardSaid : Prop := Claim7.holds Tryd.pinned (.plain (OpenSpec.ofChange fnExactPolicyTouchSpec)) fnExactPolicyTouchCard

/-- THE SECOND FORM's CARD OF 'laws.FnExactPolicyTouch'. -/
def fnExactPolicyTouchUptoCard : Claim7 := { stood := { row := fnExactPolicyTouchUptoRow, standIns := [], harness := (true, "f807d2e3c6f79274ff1d84c6a18dcc4bcb1b62db2bf804c9caa965ebda030f1c"), looks := false }, kinds := [], alts := [], laidByText := true, laidKinds := [.data], laidTests := true, laidLooks := .later }
def FnExactPolicyTouchUptoCardSaid : Prop := Claim7.holds Tryd.pinned (.plain (OpenSpec.upto fnExactPolicyTouchSpec)) fnExactPolicyTouchUptoCard
end Rows
end Go.Proofs.YtbcjkinalghokatDoor
