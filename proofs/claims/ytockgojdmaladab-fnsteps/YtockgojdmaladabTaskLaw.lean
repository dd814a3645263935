/- Tasks: what a law does with them. -/
import Derived.Test.YtockgojdmaladabTaskKit
import Derived.Test.YtockgojdmaladabStepSpec
namespace Go.Proofs.Ytockgojdmaladab
open Go.RowKit Go.Sort

def Tk.new (kind key val node : Int) : Tk := ⟨kind, key, val, node, 0, 0, 0, 0, 0, false, 0⟩
set_option maxHeartbeats 1000000 in
theorem specTaskNew_any (kind key val node : Int) (w : World) :
    Calls Try.prog 81 #[.int .i64 kind, .int .i64 key, .int .i64 val, .int .i64 node] w fun e w' => e = .returned (.agg (tcs (Tk.new kind key val node))) ∧ Below w.heap.size w w' := by
  go_enter Try.func81, Try.ntmps81
  go_wp2
  refine bodyPost_ret (v := .agg (tcs (Tk.new kind key val node))) (by simp [results, Try.results81, go_sem, tcs, Tk.new]) rfl ⟨rfl, (Below.refl _ _).alloc (Nat.le_refl _) _⟩
end Go.Proofs.Ytockgojdmaladab
