/-
  DERIVED. GIVEN WITH THE SEED: THE CARDS: each row of YtnnaphfeeobelaqDoorRows.lean that lists a variable, with what it lists TIED to the program's text (the seventh form; the later family's looks); each row that meets fmt, with fmt's text TOLD by the authors' own Lean function (tested against real Go, not proved from fmt's source: count such statements apart). THE CARD IS WHAT COUNTS. Prove the row's statement (the work); the ties are given (YtnnaphfeeobelaqDoorTie.lean); close each card by the builder's one call (the guide's Derived/Test/ToyasCard.lean, 'card_holds'). Laid BY PROGRAM, IN A SANDBOX (cutbox-door.mjs). By AI agents, Wed Nov 11 2026. No macro, syntax, notation, axiom, sorry.
-/
import Derived.Test.YtnnaphfeeobelaqDoorRows
import GoSem.ClaimSeven
namespace Go.Proofs.YtnnaphfeeobelaqDoor
namespace Rows

/-- THE TIED CARD OF 'laws.FnExactHeadText'. -/
def fnExactHeadTextCard : Claim7 := { stood := { row := fnExactHeadTextRow, standIns := [], harness := (true, "ff60f164ffce57cf57e607e533a68ece43b83cd854bd6508b0362e4fbbecc805"), looks := false }, kinds := [], alts := [], laidByText := true, laidKinds := [.data, .pinned], laidTests := true, laidLooks := .later }
def FnExactHeadTextCardSaid : Prop := Claim7.holds Tryd.pinned (.plain (OpenSpec.ofChange fnExactHeadTextSpec)) fnExactHeadTextCard

/-- THE TIED CARD OF 'laws.FnExactControlOf'. -/
def fnExactControlOfCard : Claim7 := { stood := { row := fnExactControlOfRow, standIns := [], harness := (true, "ff60f164ffce57cf57e607e533a68ece43b83cd854bd6508b0362e4fbbecc805"), looks := false }, kinds := [], alts := [], laidByText := true, laidKinds := [.data, .pinned], laidTests := true, laidLooks := .later }
def FnExactControlOfCardSaid : Prop := Claim7.holds Tryd.pinned (.plain (OpenSpec.ofChange fnExactControlOfSpec)) fnExactControlOfCard

/-- THE SECOND FORM's CARD OF 'laws.FnExactHeadText'. -/
def fnExactHeadTextUptoCard : Claim7 := { stood := { row := fnExactHeadTextUptoRow, standIns := [], harness := (true, "ff60f164ffce57cf57e607e533a68ece43b83cd854bd6508b0362e4fbbecc805"), looks := false }, kinds := [], alts := [], laidByText := true, laidKinds := [.data, .pinned], laidTests := true, laidLooks := .later }
def FnExactHeadTextUptoCardSaid : Prop := Claim7.holds Tryd.pinned (.plain (OpenSpec.upto fnExactHeadTextSpec)) fnExactHeadTextUptoCard

/-- THE SECOND FORM's CARD OF 'laws.FnExactControlOf'. -/
def fnExactControlOfUptoCard : Claim7 := { stood := { row := fnExactControlOfUptoRow, standIns := [], harness := (true, "ff60f164ffce57cf57e607e533a68ece43b83cd854bd6508b0362e4fbbecc805"), looks := false }, kinds := [], alts := [], laidByText := true, laidKinds := [.data, .pinned], laidTests := true, laidLooks := .later }
def FnExactControlOfUptoCardSaid : Prop := Claim7.holds Tryd.pinned (.plain (OpenSpec.upto fnExactControlOfSpec)) fnExactControlOfUptoCard
end Rows
end Go.Proofs.YtnnaphfeeobelaqDoor
