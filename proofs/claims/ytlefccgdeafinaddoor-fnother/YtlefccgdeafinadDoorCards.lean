/-
  DERIVED. GIVEN WITH THE SEED: THE CARDS: each row of YtlefccgdeafinadDoorRows.lean that lists a variable, with what it lists TIED to the program's text (the seventh form; the later family's looks); each row that meets fmt, with fmt's text TOLD by the authors' own Lean function (tested against real Go, not proved from fmt's source: count such statements apart). THE CARD IS WHAT COUNTS. Prove the row's statement (the work); the ties are given (YtlefccgdeafinadDoorTie.lean); close each card by the builder's one call (the guide's Derived/Test/ToyasCard.lean, 'card_holds'). Laid BY PROGRAM, IN A SANDBOX (cutbox-door.mjs). By AI agents, Wed Nov 11 2026. No macro, syntax, notation, axiom, sorry.
-/
import Derived.Test.YtlefccgdeafinadDoorRows
import GoSem.ClaimSeven
namespace Go.Proofs.YtlefccgdeafinadDoor
namespace Rows

/-- THE TIED CARD OF 'laws.FnHeadsTold'. -/
def fnHeadsToldCard : Claim7 := { stood := { row := fnHeadsToldRow, standIns := [], harness := (true, "ed5c94a4efa4d6909c27d8ebf827611c8ee18b5089317cfc5e94de2f7abdce88"), looks := true }, kinds := [], alts := [], laidByText := true, laidKinds := [.data, .pinned], laidTests := true, laidLooks := .later }
def FnHeadsToldCardSaid : Prop := Claim7.holds Tryd.pinned (.plain (OpenSpec.ofChange fnHeadsToldSpec)) fnHeadsToldCard

/-- THE TIED CARD OF 'laws.FnOther'. -/
def fnOtherCard : Claim7 := { stood := { row := fnOtherRow, standIns := [], harness := (true, "ed5c94a4efa4d6909c27d8ebf827611c8ee18b5089317cfc5e94de2f7abdce88"), looks := true }, kinds := [], alts := [], laidByText := true, laidKinds := [.data, .pinned], laidTests := true, laidLooks := .later }
def FnOtherCardSaid : Prop := Claim7.holds Tryd.pinned (.plain (OpenSpec.ofChange fnOtherSpec)) fnOtherCard

/-- THE SECOND FORM's CARD OF 'laws.FnHeadsTold'. -/
def fnHeadsToldUptoCard : Claim7 := { stood := { row := fnHeadsToldUptoRow, standIns := [], harness := (true, "ed5c94a4efa4d6909c27d8ebf827611c8ee18b5089317cfc5e94de2f7abdce88"), looks := true }, kinds := [], alts := [], laidByText := true, laidKinds := [.data, .pinned], laidTests := true, laidLooks := .later }
def FnHeadsToldUptoCardSaid : Prop := Claim7.holds Tryd.pinned (.plain (OpenSpec.upto fnHeadsToldSpec)) fnHeadsToldUptoCard

/-- THE SECOND FORM's CARD OF 'laws.FnOther'. -/
def fnOtherUptoCard : Claim7 := { stood := { row := fnOtherUptoRow, standIns := [], harness := (true, "ed5c94a4efa4d6909c27d8ebf827611c8ee18b5089317cfc5e94de2f7abdce88"), looks := true }, kinds := [], alts := [], laidByText := true, laidKinds := [.data, .pinned], laidTests := true, laidLooks := .later }
def FnOtherUptoCardSaid : Prop := Claim7.holds Tryd.pinned (.plain (OpenSpec.upto fnOtherSpec)) fnOtherUptoCard
end Rows
end Go.Proofs.YtlefccgdeafinadDoor
