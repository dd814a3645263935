/-
  DERIVED. GIVEN WITH THE SEED: THE CARDS: each row of YtpgcfgbhkodmeaaGreatDoorRows.lean that lists a variable, with what it lists TIED to the program's text (the seventh form; the later family's looks); each row that meets fmt, with fmt's text TOLD by the authors' own Lean function (tested against real Go, not proved from fmt's source: count such statements apart). THE CARD IS WHAT COUNTS. Prove the row's statement (the work); the ties are given (YtpgcfgbhkodmeaaGreatDoorTie.lean); close each card by the builder's one call (the guide's Derived/Test/ToyasCard.lean, 'card_holds'). Laid BY PROGRAM, IN A SANDBOX (cutbox-door.mjs). By AI agents, Wed Nov 11 2026. No macro, syntax, notation, axiom, sorry.
-/
import Derived.Test.YtpgcfgbhkodmeaaGreatDoorRows
import GoSem.ClaimSeven
namespace Go.Proofs.YtpgcfgbhkodmeaaGreatDoor
namespace Rows

/-- THE TIED CARD OF 'laws.FnExactSoundWorld'. -/
def fnExactSoundWorldCard : Claim7 := { stood := { row := fnExactSoundWorldRow, standIns := [], harness := (true, "0e269d038e5e114f61089082d6d71d1cb7dcad1a0c63d4ae5615bd0c5d782382"), looks := false }, kinds := [], alts := [], laidByText := true, laidKinds := [.data], laidTests := true, laidLooks := .later }
def FnExactSoundWorldCardSaid : Prop := Claim7.holds Tryz.pinned (.plain (OpenSpec.ofChange fnExactSoundWorldSpec)) fnExactSoundWorldCard

/-- THE TIED CARD OF 'laws.FnExactAskFor'. -/
def fnExactAskForCard : Claim7 := { stood := { row := fnExactAskForRow, standIns := [], harness := (true, "0e269d038e5e114f61089082d6d71d1cb7dcad1a0c63d4ae5615bd0c5d782382"), looks := false }, kinds := [], alts := [], laidByText := true, laidKinds := [.data], laidTests := true, laidLooks := .later }
def FnExactAskForCardSaid : Prop := Claim7.holds Tryz.pinned (.plain (OpenSpec.ofChange fnExactAskForSpec)) fnExactAskForCard

/-- THE SECOND FORM's CARD OF 'laws.FnExactSoundWorld'. -/
def fnExactSoundWorldUptoCard : Claim7 := { stood := { row := fnExactSoundWorldUptoRow, standIns := [], harness := (true, "0e269d038e5e114f61089082d6d71d1cb7dcad1a0c63d4ae5615bd0c5d782382"), looks := false }, kinds := [], alts := [], laidByText := true, laidKinds := [.data], laidTests := true, laidLooks := .later }
def FnExactSoundWorldUptoCardSaid : Prop := Claim7.holds Tryz.pinned (.plain (OpenSpec.upto fnExactSoundWorldSpec)) fnExactSoundWorldUptoCard

/-- THE SECOND FORM's CARD OF 'laws.FnExactAskFor'. -/
def fnExactAskForUptoCard : Claim7 := { stood := { row := fnExactAskForUptoRow, standIns := [], harness := (true, "0e269d038e5e114f61089082d6d71d1cb7dcad1a0c63d4ae5615bd0c5d782382"), looks := false }, kinds := [], alts := [], laidByText := true, laidKinds := [.data], laidTests := true, laidLooks := .later }
def FnExactAskForUptoCardSaid : Prop := Claim7.holds Tryz.pinned (.plain (OpenSpec.upto fnExactAskForSpec)) fnExactAskForUptoCard
end Rows
end Go.Proofs.YtpgcfgbhkodmeaaGreatDoor
