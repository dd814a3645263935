/- Rows of numbers: what a law does with them. -/
import Derived.Test.YtepfblabdibggaaRowed
import Derived.Test.YtepfblabdibggaaBase
import Derived.Laws.OwnMore
import Derived.Lib.QuietBelow
import Derived.BigQuiet
namespace Go.Proofs.Ytepfblabdibggaa
open Go.RowKit Go.Sort

theorem Try.infoInt : (Try.prog.info? 3).map (fun i => (i.zero, i.size, i.bytes)) = some (some (.int .i64 0), 1, 8) := by kernel_rfl


/-- The numbers l lie at the address a, below the block B. -/
def IAt (w : World) (a : Option Addr) (l : List Int) (B : Nat) : Prop :=
  ∀ j (hj : j < l.length), ∃ g off, a = some ⟨g, off, none⟩ ∧ g < B ∧ w.cell? ⟨g, off + j, none⟩ = some (.int .i64 l[j])
theorem IAt.below {w w' : World} {a : Option Addr} {l : List Int} {B B' : Nat} (h : IAt w a l B) (hb : Below B' w w') (hB : B ≤ B') : IAt w' a l B := by
  intro j hj
  obtain ⟨g, off, ha, hg, h1⟩ := h j hj
  exact ⟨g, off, ha, hg, (hb.cell (Nat.lt_of_lt_of_le hg hB)).trans h1⟩
theorem IAt.mono {w : World} {a : Option Addr} {l : List Int} {B B' : Nat} (h : IAt w a l B) (hB : B ≤ B') : IAt w a l B' := by
  intro j hj
  obtain ⟨g, off, ha, hg, r⟩ := h j hj
  exact ⟨g, off, ha, Nat.lt_of_lt_of_le hg hB, r⟩
theorem IAt.on {w w' : World} {a : Option Addr} {l : List Int} (h : IAt w a l w.heap.size) (hb : Below w.heap.size w w') : IAt w' a l w'.heap.size := (h.below hb (Nat.le_refl _)).mono hb.size
theorem OwnV.ints {w : World} {base : Nat} {e : TypeId} {v : Value} {l : List Int} (h : OwnV w base e v (ints l)) : ∃ a cap, v = .slice a l.length cap ∧ IAt w a l w.heap.size := by
  obtain ⟨a, cap, hv, hc⟩ := h.shape
  rw [ints_length] at hv
  refine ⟨a, cap, hv, fun j hj => ?_⟩
  obtain ⟨g, ha, hcell, _, _, hg⟩ := hc j (by rw [ints_length]; exact hj)
  rw [ints_at hj] at hcell
  exact ⟨g, 0, ha, hg, by simpa using hcell⟩



end Go.Proofs.Ytepfblabdibggaa
