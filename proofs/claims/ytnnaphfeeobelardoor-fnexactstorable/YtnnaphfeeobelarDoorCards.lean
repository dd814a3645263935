/-
  DERIVED. GIVEN WITH THE SEED: THE CARDS: each row of YtnnaphfeeobelarDoorRows.lean that lists a variable, with what it lists TIED to the program's text (the seventh form; the later family's looks); each row that meets fmt, with fmt's text TOLD by the authors' own Lean function (tested against real Go, not proved from fmt's source: count such statements apart). THE CARD IS WHAT COUNTS. Prove the row's statement (the work); the ties are given (YtnnaphfeeobelarDoorTie.lean); close each card by the builder's one call (the guide's Derived/Test/ToyasCard.lean, 'card_holds'). Laid BY PROGRAM, IN A SANDBOX (cutbox-door.mjs). By AI agents, Wed Nov 11 2026. No macro, syntax, notation, axiom, sorry.
-/
import Derived.Test.YtnnaphfeeobelarDoorRows
import GoSem.ClaimSeven
namespace Go.Proofs.YtnnaphfeeobelarDoor
namespace Rows

/-- THE TIED CARD OF 'laws.FnExactControlText'. -/
def fnExactControlTextCard : Claim7 := { stood := { row := fnExactControlTextRow, standIns := [], harness := (true, "1facd9a8c9582c35fdb6ce2775617574bcb63a472adab9761d19913b1ee677af"), looks := true }, kinds := [], alts := [], laidByText := true, laidKinds := [.data, .data, .data], laidTests := true, laidLooks := .later }
def FnExactControlTextCardSaid : Prop := Claim7.holds Tryd.pinned (.plain (OpenSpec.ofChange fnExactControlTextSpec)) fnExactControlTextCard

/-- THE TIED CARD OF 'laws.FnExactStorable'. -/
def fnExactStorableCard : Claim7 := { stood := { row := fnExactStorableRow, standIns := [], harness := (true, "1facd9a8c9582c35fdb6ce2775617574bcb63a472adab9761d19913b1ee677af"), looks := true }, kinds := [], alts := [], laidByText := true, laidKinds := [.data, .pinned], laidTests := true, laidLooks := .later }
def FnExactStorableCardSaid : Prop := Claim7.holds Tryd.pinned (.plain (OpenSpec.ofChange fnExactStorableSpec)) fnExactStorableCard

/-- THE TIED CARD OF 'laws.FnExactChunkText'. -/
def fnExactChunkTextCard : Claim7 := { stood := { row := fnExactChunkTextRow, standIns := [], harness := (true, "1facd9a8c9582c35fdb6ce2775617574bcb63a472adab9761d19913b1ee677af"), looks := true }, kinds := [], alts := [], laidByText := true, laidKinds := [.data, .pinned], laidTests := true, laidLooks := .later }
def FnExactChunkTextCardSaid : Prop := Claim7.holds Tryd.pinned (.plain (OpenSpec.ofChange fnExactChunkTextSpec)) fnExactChunkTextCard

/-- THE TIED CARD OF 'laws.FnExactReadChunks'. -/
def fnExactReadChunksCard : Claim7 := { stood := { row := fnExactReadChunksRow, standIns := [], harness := (true, "1facd9a8c9582c35fdb6ce2775617574bcb63a472adab9761d19913b1ee677af"), looks := true }, kinds := [], alts := [], laidByText := true, laidKinds := [.handle], laidTests := true, laidLooks := .later }
def FnExactReadChunksCardSaid : Prop := Claim7.holds Tryd.pinned (.plain (OpenSpec.ofChange fnExactReadChunksSpec)) fnExactReadChunksCard

/-- THE TIED CARD OF 'laws.FnExactBodyOf'. -/
def fnExactBodyOfCard : Claim7 := { stood := { row := fnExactBodyOfRow, standIns := [], harness := (true, "1facd9a8c9582c35fdb6ce2775617574bcb63a472adab9761d19913b1ee677af"), looks := true }, kinds := [], alts := [], laidByText := true, laidKinds := [.handle], laidTests := true, laidLooks := .later }
def FnExactBodyOfCardSaid : Prop := Claim7.holds Tryd.pinned (.plain (OpenSpec.ofChange fnExactBodyOfSpec)) fnExactBodyOfCard

/-- THE SECOND FORM's CARD OF 'laws.FnExactControlText'. -/
def fnExactControlTextUptoCard : Claim7 := { stood := { row := fnExactControlTextUptoRow, standIns := [], harness := (true, "1facd9a8c9582c35fdb6ce2775617574bcb63a472adab9761d19913b1ee677af"), looks := true }, kinds := [], alts := [], laidByText := true, laidKinds := [.data, .data, .data], laidTests := true, laidLooks := .later }
def FnExactControlTextUptoCardSaid : Prop := Claim7.holds Tryd.pinned (.plain (OpenSpec.upto fnExactControlTextSpec)) fnExactControlTextUptoCard

/-- THE SECOND FORM's CARD OF 'laws.FnExactStorable'. -/
def fnExactStorableUptoCard : Claim7 := { stood := { row := fnExactStorableUptoRow, standIns := [], harness := (true, "1facd9a8c9582c35fdb6ce2775617574bcb63a472adab9761d19913b1ee677af"), looks := true }, kinds := [], alts := [], laidByText := true, laidKinds := [.data, .pinned], laidTests := true, laidLooks := .later }
def FnExactStorableUptoCardSaid : Prop := Claim7.holds Tryd.pinned (.plain (OpenSpec.upto fnExactStorableSpec)) fnExactStorableUptoCard

/-- THE SECOND FORM's CARD OF 'laws.FnExactChunkText'. -/
def fnExactChunkTextUptoCard : Claim7 := { stood := { row := fnExactChunkTextUptoRow, standIns := [], harness := (true, "1facd9a8c9582c35fdb6ce2775617574bcb63a472adab9761d19913b1ee677af"), looks := true }, kinds := [], alts := [], laidByText := true, laidKinds := [.data, .pinned], laidTests := true, laidLooks := .later }
def FnExactChunkTextUptoCardSaid : Prop := Claim7.holds Tryd.pinned (.plain (OpenSpec.upto fnExactChunkTextSpec)) fnExactChunkTextUptoCard

/-- THE SECOND FORM's CARD OF 'laws.FnExactReadChunks'. -/
def fnExactReadChunksUptoCard : Claim7 := { stood := { row := fnExactReadChunksUptoRow, standIns := [], harness := (true, "1facd9a8c9582c35fdb6ce2775617574bcb63a472adab9761d19913b1ee677af"), looks := true }, kinds := [], alts := [], laidByText := true, laidKinds := [.handle], laidTests := true, laidLooks := .later }
def FnExactReadChunksUptoCardSaid : Prop := Claim7.holds Tryd.pinned (.plain (OpenSpec.upto fnExactReadChunksSpec)) fnExactReadChunksUptoCard

/-- THE SECOND FORM's CARD OF 'laws.FnExactBodyOf'. -/
def fnExactBodyOfUptoCard : Claim7 := { stood := { row := fnExactBodyOfUptoRow, standIns := [], harness := (true, "1facd9a8c9582c35fdb6ce2775617574bcb63a472adab9761d19913b1ee677af"), looks := true }, kinds := [], alts := [], laidByText := true, laidKinds := [.handle], laidTests := true, laidLooks := .later }
def FnExactBodyOfUptoCardSaid : Prop := Claim7.holds Tryd.pinned (.plain (OpenSpec.upto fnExactBodyOfSpec)) fnExactBodyOfUptoCard
end Rows
end Go.Proofs.YtnnaphfeeobelarDoor
