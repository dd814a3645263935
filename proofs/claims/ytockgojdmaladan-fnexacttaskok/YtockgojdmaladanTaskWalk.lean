/- TaskOk and TaskNew: their laws' walks. -/
import Derived.Test.YtockgojdmaladanTaskOkLaw
import Derived.Test.YtockgojdmaladanTaskImpl
namespace Go.Proofs.Ytockgojdmaladan
open Go.RowKit Go.Sort

theorem taskOk_walk (t : Tk) (w : World) : Calls Try.prog 5 #[.agg (tcs t)] w fun e w' => e = .returned (.bool true) ∧ Below w.heap.size w w' := taskOk_given implTaskOk_any t w
theorem taskNew_walk (kind key val node : Int) (w : World) (h0 : (Lit.int .i64 kind).wf = true) (h1 : (Lit.int .i64 key).wf = true) (h2 : (Lit.int .i64 val).wf = true) (h3 : (Lit.int .i64 node).wf = true) :
    Calls Try.prog 4 #[.int .i64 kind, .int .i64 key, .int .i64 val, .int .i64 node] w fun e w' => e = .returned (.bool true) ∧ Below w.heap.size w w' := taskNew_given implTaskNew_any kind key val node w h0 h1 h2 h3
end Go.Proofs.Ytockgojdmaladan
