/- Lengths of what a call on a sketch answers. Plain, no program. -/
import Derived.Test.YtifjjfjadcpmaaeDoorSkLaw3
import Derived.Test.YtifjjfjadcpmaaeDoorSkPlain
namespace Go.Proofs.YtifjjfjadcpmaaeDoor
open Go.RowKit

theorem bumpTo_lens (key : ByteArray) (rows : List (List Int)) (k : Nat) : (bumpTo key rows k).map List.length = rows.map List.length := by
  unfold bumpTo
  apply List.ext_getElem?
  intro i
  simp only [List.getElem?_map, List.getElem?_mapIdx]
  cases rows[i]? with
  | none => rfl
  | some r =>
    simp only [Option.map_some]
    split
    · simp [bumpR]
    · rfl
theorem halfTo_lens (rows : List (List Int)) (k : Nat) : (halfTo rows k).map List.length = rows.map List.length := by
  unfold halfTo
  apply List.ext_getElem?
  intro i
  simp only [List.getElem?_map, List.getElem?_mapIdx]
  cases rows[i]? with
  | none => rfl
  | some r =>
    simp only [Option.map_some]
    split
    · simp [halfR]
    · rfl
theorem bumpS_sz (S : Sk) (key : ByteArray) (h : SkSz S) : SkSz (bumpS S key) := by
  have hl : (bumpS S key).rows.map List.length = S.rows.map List.length := by
    unfold bumpS
    split
    · split
      · simp only [halfTo_lens, bumpTo_lens]
      · simp only [bumpTo_lens]
    · rfl
  have hn : (bumpS S key).rows.length = S.rows.length := by have := congrArg List.length hl; simpa using this
  unfold SkSz at *
  rw [hn, tot_same hl]
  exact h
end Go.Proofs.YtifjjfjadcpmaaeDoor
