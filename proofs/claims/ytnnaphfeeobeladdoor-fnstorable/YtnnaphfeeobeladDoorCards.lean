/-
  DERIVED. GIVEN WITH THE SEED: THE CARDS: each row of YtnnaphfeeobeladDoorRows.lean that lists a variable, with what it lists TIED to the program's text (the seventh form; the later family's looks); each row that meets fmt, with fmt's text TOLD by the authors' own Lean function (tested against real Go, not proved from fmt's source: count such statements apart). THE CARD IS WHAT COUNTS. Prove the row's statement (the work); the ties are given (YtnnaphfeeobeladDoorTie.lean); close each card by the builder's one call (the guide's Derived/Test/ToyasCard.lean, 'card_holds'). Laid BY PROGRAM, IN A SANDBOX (cutbox-door.mjs). By AI agents, Wed Nov 11 2026. No macro, syntax, notation, axiom, sorry.
-/
import Derived.Test.YtnnaphfeeobeladDoorRows
import GoSem.ClaimSeven
namespace Go.Proofs.YtnnaphfeeobeladDoor
namespace Rows

/-- THE TIED CARD OF 'laws.FnHeadsTold'. -/
def fnHeadsToldCard : Claim7 := { stood := { row := fnHeadsToldRow, standIns := [], harness := (true, "e9eef2e1bacbeff22b75579c5ffccd618f1ebb978245af85e6377ba071b271b2"), looks := true }, kinds := [], alts := [], laidByText := true, laidKinds := [.data, .pinned], laidTests := true, laidLooks := .later }
def FnHeadsToldCardSaid : Prop := Claim7.holds Tryd.pinned (.plain (OpenSpec.ofChange fnHeadsToldSpec)) fnHeadsToldCard

/-- THE TIED CARD OF 'laws.FnOther'. -/
def fnOtherCard : Claim7 := { stood := { row := fnOtherRow, standIns := [], harness := (true, "e9eef2e1bacbeff22b75579c5ffccd618f1ebb978245af85e6377ba071b271b2"), looks := true }, kinds := [], alts := [], laidByText := true, laidKinds := [.data, .pinned], laidTests := true, laidLooks := .later }
def FnOtherCardSaid : Prop := Claim7.holds Tryd.pinned (.plain (OpenSpec.ofChange fnOtherSpec)) fnOtherCard

/-- THE TIED CARD OF 'laws.FnControls'. -/
def fnControlsCard : Claim7 := { stood := { row := fnControlsRow, standIns := [], harness := (true, "e9eef2e1bacbeff22b75579c5ffccd618f1ebb978245af85e6377ba071b271b2"), looks := true }, kinds := [], alts := [], laidByText := true, laidKinds := [.data, .data, .data, .data, .pinned], laidTests := true, laidLooks := .later }
def FnControlsCardSaid : Prop := Claim7.holds Tryd.pinned (.plain (OpenSpec.ofChange fnControlsSpec)) fnControlsCard

/-- THE TIED CARD OF 'laws.FnLifetimes'. -/
def fnLifetimesCard : Claim7 := { stood := { row := fnLifetimesRow, standIns := [], harness := (true, "e9eef2e1bacbeff22b75579c5ffccd618f1ebb978245af85e6377ba071b271b2"), looks := true }, kinds := [], alts := [], laidByText := true, laidKinds := [.data, .pinned], laidTests := true, laidLooks := .later }
def FnLifetimesCardSaid : Prop := Claim7.holds Tryd.pinned (.plain (OpenSpec.ofChange fnLifetimesSpec)) fnLifetimesCard

/-- THE TIED CARD OF 'laws.FnStorable'. -/
def fnStorableCard : Claim7 := { stood := { row := fnStorableRow, standIns := [], harness := (true, "e9eef2e1bacbeff22b75579c5ffccd618f1ebb978245af85e6377ba071b271b2"), looks := true }, kinds := [], alts := [], laidByText := true, laidKinds := [.data, .pinned], laidTests := true, laidLooks := .later }
def FnStorableCardSaid : Prop := Claim7.holds Tryd.pinned (.plain (OpenSpec.ofChange fnStorableSpec)) fnStorableCard

/-- THE SECOND FORM's CARD OF 'laws.FnHeadsTold'. -/
def fnHeadsToldUptoCard : Claim7 := { stood := { row := fnHeadsToldUptoRow, standIns := [], harness := (true, "e9eef2e1bacbeff22b75579c5ffccd618f1ebb978245af85e6377ba071b271b2"), looks := true }, kinds := [], alts := [], laidByText := true, laidKinds := [.data, .pinned], laidTests := true, laidLooks := .later }
def FnHeadsToldUptoCardSaid : Prop := Claim7.holds Tryd.pinned (.plain (OpenSpec.upto fnHeadsToldSpec)) fnHeadsToldUptoCard

/-- THE SECOND FORM's CARD OF 'laws.FnOther'. -/
def fnOtherUptoCard : Claim7 := { stood := { row := fnOtherUptoRow, standIns := [], harness := (true, "e9eef2e1bacbeff22b75579c5ffccd618f1ebb978245af85e6377ba071b271b2"), looks := true }, kinds := [], alts := [], laidByText := true, laidKinds := [.data, .pinned], laidTests := true, laidLooks := .later }
def FnOtherUptoCardSaid : Prop := Claim7.holds Tryd.pinned (.plain (OpenSpec.upto fnOtherSpec)) fnOtherUptoCard

/-- THE SECOND FORM's CARD OF 'laws.FnControls'. -/
def fnControlsUptoCard : Claim7 := { stood := { row := fnControlsUptoRow, standIns := [], harness := (true, "e9eef2e1bacbeff22b75579c5ffccd618f1ebb978245af85e6377ba071b271b2"), looks := true }, kinds := [], alts := [], laidByText := true, laidKinds := [.data, .data, .data, .data, .pinned], laidTests := true, laidLooks := .later }
def FnControlsUptoCardSaid : Prop := Claim7.holds Tryd.pinned (.plain (OpenSpec.upto fnControlsSpec)) fnControlsUptoCard

/-- THE SECOND FORM's CARD OF 'laws.FnLifetimes'. -/
def fnLifetimesUptoCard : Claim7 := { stood := { row := fnLifetimesUptoRow, standIns := [], harness := (true, "e9eef2e1bacbeff22b75579c5ffccd618f1ebb978245af85e6377ba071b271b2"), looks := true }, kinds := [], alts := [], laidByText := true, laidKinds := [.data, .pinned], laidTests := true, laidLooks := .later }
def FnLifetimesUptoCardSaid : Prop := Claim7.holds Tryd.pinned (.plain (OpenSpec.upto fnLifetimesSpec)) fnLifetimesUptoCard

/-- THE SECOND FORM's CARD OF 'laws.FnStorable'. -/
def fnStorableUptoCard : Claim7 := { stood := { row := fnStorableUptoRow, standIns := [], harness := (true, "e9eef2e1bacbeff22b75579c5ffccd618f1ebb978245af85e6377ba071b271b2"), looks := true }, kinds := [], alts := [], laidByText := true, laidKinds := [.data, .pinned], laidTests := true, laidLooks := .later }
def FnStorableUptoCardSaid : Prop := Claim7.holds Tryd.pinned (.plain (OpenSpec.upto fnStorableSpec)) fnStorableUptoCard
end Rows
end Go.Proofs.YtnnaphfeeobeladDoor
