/- Texts in a row that lie in memory. -/
import Derived.Test.YtepfblabdibggaaRowed
import Derived.Test.YtepfblabdibggaaBase
namespace Go.Proofs.Ytepfblabdibggaa
open Go.RowKit
/-- The texts L lie at the address a, below the block B. -/
def LAt (w : World) (a : Option Addr) (L : List ByteArray) (B : Nat) : Prop :=
  ∀ j (hj : j < L.length), ∃ g off, a = some ⟨g, off, none⟩ ∧ g < B ∧ w.cell? ⟨g, off + j, none⟩ = some (.string L[j])
theorem LAt.below {w w' : World} {a : Option Addr} {L : List ByteArray} {B B' : Nat} (h : LAt w a L B) (hb : Below B' w w') (hB : B ≤ B') : LAt w' a L B := by
  intro j hj
  obtain ⟨g, off, ha, hg, h1⟩ := h j hj
  exact ⟨g, off, ha, hg, (hb.cell (Nat.lt_of_lt_of_le hg hB)).trans h1⟩
theorem LAt.mono {w : World} {a : Option Addr} {L : List ByteArray} {B B' : Nat} (h : LAt w a L B) (hB : B ≤ B') : LAt w a L B' := by
  intro j hj
  obtain ⟨g, off, ha, hg, r⟩ := h j hj
  exact ⟨g, off, ha, Nat.lt_of_lt_of_le hg hB, r⟩
theorem LAt.on {w w' : World} {a : Option Addr} {L : List ByteArray} (h : LAt w a L w.heap.size) (hb : Below w.heap.size w w') : LAt w' a L w'.heap.size := (h.below hb (Nat.le_refl _)).mono hb.size
theorem OwnV.strsAt {w : World} {base : Nat} {e : TypeId} {v : Value} {L : List ByteArray} (h : OwnV w base e v (strs L)) : ∃ a cap, v = .slice a L.length cap ∧ LAt w a L w.heap.size := by
  obtain ⟨a, cap, hv, hc⟩ := h.shape
  rw [strs_length] at hv
  refine ⟨a, cap, hv, fun j hj => ?_⟩
  obtain ⟨g, ha, hcell, _, _, hg⟩ := hc j (by rw [strs_length]; exact hj)
  rw [strs_at hj] at hcell
  exact ⟨g, 0, ha, hg, by simpa using hcell⟩
end Go.Proofs.Ytepfblabdibggaa
