/- The walk of the law on VarText. -/
import Derived.Test.YtednbcdomkhhmaiVarText
namespace Go.Proofs.Ytednbcdomkhhmai
open Go.RowKit

set_option maxHeartbeats 400000 in
theorem varText_walk (a0 : Int) (w0 : (Lit.int .i64 a0).wf = true) (w : World) :
    Calls Try.prog 3 #[.int .i64 a0] w fun e w' => e = .returned (.bool true) ∧ Below w.heap.size w w' := by
  go_enter Try.func3, Try.ntmps3
  go_wp2_with (first | (go_at_call 6; refine (specVarText_any a0 _ w0).mono ?_; rintro e w' ⟨rfl, hb⟩) | (go_at_call 7; refine (implVarText_any a0 _ w0).mono ?_; rintro e w2 ⟨rfl, hb2⟩))
  go_ret
  exact ⟨rfl, hb.trans (hb2.mono hb.size)⟩
end Go.Proofs.Ytednbcdomkhhmai
