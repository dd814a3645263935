/- Lengths of what calls on streams answer. Plain, no program. -/
import Derived.Test.YtmpnjijbahjinauStmBase
namespace Go.Proofs.Ytmpnjijbahjinau
open Go.RowKit
theorem putM_len (S : Stm) (part : ByteArray) (h : S.rd.length ≤ 1048576) : (putM S part).1.rd.length ≤ 1048577 := by
  unfold putM; split <;> dsimp only <;> omega
theorem endM_len (S : Stm) (br : Bool) (h : S.rd.length ≤ 1048576) : (endM S br).1.rd.length ≤ 1048577 := by
  unfold endM; split <;> dsimp only <;> omega
theorem joinM_len (S : Stm) (id : Int) (h : S.rd.length ≤ 1048576) : (joinM S id).1.rd.length ≤ 1048577 := by
  unfold joinM
  split
  · rename_i hc
    simp only [Bool.and_eq_true] at hc
    have := hc.2
    unfold okM at this
    simp only [Bool.and_eq_true, decide_eq_true_eq] at this
    dsimp only
    omega
  · dsimp only; omega
theorem leaveM_len (S : Stm) (id : Int) (h : S.rd.length ≤ 1048576) : (leaveM S id).rd.length ≤ 1048577 := Nat.le_trans (List.length_filter_le _ _) (by omega)
theorem readM_len (S : Stm) (id most : Int) (h : S.rd.length ≤ 1048576) : (readM S id most).1.rd.length ≤ 1048577 := by
  unfold readM; split
  · simp; omega
  · dsimp only; omega
end Go.Proofs.Ytmpnjijbahjinau
