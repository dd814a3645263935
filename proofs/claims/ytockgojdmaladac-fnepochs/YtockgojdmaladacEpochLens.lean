/- Lengths of what calls on epochs answer. Plain, no program. -/
import Derived.Test.YtockgojdmaladacEpochPlain
namespace Go.Proofs.Ytockgojdmaladac
open Go.RowKit
theorem pinE_len (E : Ep) (x : Int) (h : E.pins.length ≤ 1048576) (h' : E.gone.length ≤ 1048576) : (pinE E x).1.pins.length ≤ 1048576 ∧ (pinE E x).1.gone.length ≤ 1048577 := by
  unfold pinE; split <;> simp <;> omega
theorem unpinE_len (E : Ep) (x : Int) (h : E.pins.length ≤ 1048576) (h' : E.gone.length ≤ 1048576) : (unpinE E x).1.pins.length ≤ 1048576 ∧ (unpinE E x).1.gone.length ≤ 1048577 := by
  unfold unpinE; split <;> simp <;> omega
theorem retireE_len (E : Ep) (x : Int) (h : E.pins.length ≤ 1048576) (h' : E.gone.length ≤ 1048576) : (retireE E x).1.pins.length ≤ 1048576 ∧ (retireE E x).1.gone.length ≤ 1048577 := by
  unfold retireE; split <;> simp <;> omega
theorem advE_len (E : Ep) (h : E.pins.length ≤ 1048576) (h' : E.gone.length ≤ 1048576) : (advE E).1.pins.length ≤ 1048576 ∧ (advE E).1.gone.length ≤ 1048577 := by
  unfold advE; split <;> simp <;> omega
theorem freeE_len (E : Ep) (h : E.pins.length ≤ 1048576) (h' : E.gone.length ≤ 1048576) : (freeE E).1.pins.length ≤ 1048576 ∧ (freeE E).1.gone.length ≤ 1048577 := by
  unfold freeE
  split
  · exact ⟨h, Nat.le_trans (List.length_filter_le _ _) (by omega)⟩
  · exact ⟨h, Nat.le_trans h' (by omega)⟩
end Go.Proofs.Ytockgojdmaladac
