/- StepTask: its law's walk. -/
import Derived.Test.YtockgojdmaladanStepTaskLaw
import Derived.Test.YtockgojdmaladanStepImpl
namespace Go.Proofs.Ytockgojdmaladan
open Go.RowKit Go.Sort

theorem stepTask_walk (a : Option Addr) (cap : Nat) (l : List Int) (t : Tk) (w : World) (hL : IAt w a l w.heap.size) (hi : l.length ≤ maxLen) :
    Calls Try.prog 6 #[.slice a l.length cap, .agg (tcs t)] w fun e w' => e = .returned (.bool true) ∧ Below w.heap.size w w' := stepTask_given implStep_any a cap l t w hL hi
end Go.Proofs.Ytockgojdmaladan
