/-
  DERIVED. GIVEN WITH THE SEED: THE CARDS: each row of YtbcjkinalghokafDoorRows.lean that lists a variable, with what it lists TIED to the program's text (the seventh form; the later family's looks); each row that meets fmt, with fmt's text TOLD by the authors' own Lean function (tested against real Go, not proved from fmt's source: count such statements apart). THE CARD IS WHAT COUNTS. Prove the row's statement (the work); the ties are given (YtbcjkinalghokafDoorTie.lean); close each card by the builder's one call (the guide's Derived/Test/ToyasCard.lean, 'card_holds'). Laid BY PROGRAM, IN A SANDBOX (cutbox-door.mjs). By AI agents, Wed Nov 11 2026. No macro, syntax, notation, axiom, sorry.
-/
import Derived.Test.YtbcjkinalghokafDoorRows
import GoSem.ClaimSeven
namespace Go.Proofs.YtbcjkinalghokafDoor
namespace Rows

/-- THE TIED CARD OF 'laws.FnPolicies'. -/
def fnPoliciesCard : Claim7 := { stood := { row := fnPoliciesRow, standIns := [], harness := (true, "379025619e664f5b2aab7aca85f69774e4c2bb4d5de2d4e570e16c98da5651a3"), looks := false }, kinds := [], alts := [], laidByText := true, laidKinds := [.data], laidTests := true, laidLooks := .later }
def FnPoliciesCardSaid : Prop := Claim7.holds Tryd.pinned (.plain (OpenSpec.ofChange fnPoliciesSpec)) fnPoliciesCard

/-- THE TIED CARD OF 'laws.FnPoliciesTold'. -/
def fnPoliciesToldCard : Claim7 := { stood := { row := fnPoliciesToldRow, standIns := [], harness := (true, "379025619e664f5b2aab7aca85f69774e4c2bb4d5de2d4e570e16c98da5651a3"), looks := false }, kinds := [], alts := [], laidByText := true, laidKinds := [.data], laidTests := true, laidLooks := .later }
def FnPoliciesToldCardSaid : Prop := Claim7.holds Tryd.pinned (.plain (OpenSpec.ofChange fnPoliciesToldSpec)) fnPoliciesToldCard

/-- THE TIED CARD OF 'laws.FnOften'. -/
def fnOftenCard : Claim7 := { stood := { row := fnOftenRow, standIns := [], harness := (true, "379025619e664f5b2aab7aca85f69774e4c2bb4d5de2d4e570e16c98da5651a3"), looks := false }, kinds := [], alts := [], laidByText := true, laidKinds := [.data], laidTests := true, laidLooks := .later }
def FnOftenCardSaid : Prop := Claim7.holds Tryd.pinned (.plain (OpenSpec.ofChange fnOftenSpec)) fnOftenCard

/-- THE SECOND FORM's CARD OF 'laws.FnPolicies'. -/
def fnPoliciesUptoCard : Claim7 := { stood := { row := fnPoliciesUptoRow, standIns := [], harness := (true, "379025619e664f5b2aab7aca85f69774e4c2bb4d5de2d4e570e16c98da5651a3"), looks := false }, kinds := [], alts := [], laidByText := true, laidKinds := [.data], laidTests := true, laidLooks := .later }
def FnPoliciesUptoCardSaid : Prop := Claim7.holds Tryd.pinned (.plain (OpenSpec.upto fnPoliciesSpec)) fnPoliciesUptoCard

/-- THE SECOND FORM's CARD OF 'laws.FnPoliciesTold'. -/
def fnPoliciesToldUptoCard : Claim7 := { stood := { row := fnPoliciesToldUptoRow, standIns := [], harness := (true, "379025619e664f5b2aab7aca85f69774e4c2bb4d5de2d4e570e16c98da5651a3"), looks := false }, kinds := [], alts := [], laidByText := true, laidKinds := [.data], laidTests := true, laidLooks := .later }
def FnPoliciesToldUptoCardSaid : Prop := Claim7.holds Tryd.pinned (.plain (OpenSpec.upto fnPoliciesToldSpec)) fnPoliciesToldUptoCard

/-- THE SECOND FORM's CARD OF 'laws.FnOften'. -/
def fnOftenUptoCard : Claim7 := { stood := { row := fnOftenUptoRow, standIns := [], harness := (true, "379025619e664f5b2aab7aca85f69774e4c2bb4d5de2d4e570e16c98da5651a3"), looks := false }, kinds := [], alts := [], laidByText := true, laidKinds := [.data], laidTests := true, laidLooks := .later }
def FnOftenUptoCardSaid : Prop := Claim7.holds Tryd.pinned (.plain (OpenSpec.upto fnOftenSpec)) fnOftenUptoCard
end Rows
end Go.Proofs.YtbcjkinalghokafDoor
