/- Tasks: what a law does with them. -/
import Derived.Test.YtockgojdmaladanTaskKit
import Derived.Test.YtockgojdmaladanStepSpec
namespace Go.Proofs.Ytockgojdmaladan
open Go.RowKit Go.Sort

def Tk.new (kind key val node : Int) : Tk := ⟨kind, key, val, node, 0, 0, 0, 0, 0, false, 0⟩
set_option maxHeartbeats 1000000 in
theorem specTaskNew_any (kind key val node : Int) (w : World) :
    Calls Try.prog 14 #[.int .i64 kind, .int .i64 key, .int .i64 val, .int .i64 node] w fun e w' => e = .returned (.agg (tcs (Tk.new kind key val node))) ∧ Below w.heap.size w w' := by
  go_enter Try.func14, Try.ntmps14
  go_wp2
  refine bodyPost_ret (v := .agg (tcs (Tk.new kind key val node))) (by simp [results, Try.results14, go_sem, tcs, Tk.new]) rfl ⟨rfl, (Below.refl _ _).alloc (Nat.le_refl _) _⟩
set_option maxRecDepth 100000 in
set_option maxHeartbeats 2000000 in
theorem eqTask_same (t : Tk) (w : World) :
    Calls Try.prog 16 #[.agg (tcs t), .agg (tcs t)] w fun e w' => e = .returned (.bool true) ∧ Below w.heap.size w w' := by
  unfold tcs
  go_enter Try.func16, Try.ntmps16
  go_wp2
  go_ret
  exact ⟨rfl, ((Below.refl _ w).alloc (Nat.le_refl _) _).alloc (by simp) _⟩
set_option maxRecDepth 100000 in
set_option maxHeartbeats 4000000 in
theorem toTask_any (t : Tk) (w : World) :
    Calls Try.prog 18 #[.agg (tcs t)] w fun e w' => e = .returned (.agg (tcs t)) ∧ Below w.heap.size w w' := by
  unfold tcs
  go_enter Try.func18, Try.ntmps18
  go_wp2
  refine bodyPost_ret (v := .agg #[.int .i64 t.kind, .int .i64 t.key, .int .i64 t.val, .int .i64 t.node, .int .i64 t.pc, .int .i64 t.prev, .int .i64 t.cur, .int .i64 t.next, .int .i64 t.mark, .bool t.done, .int .i64 t.ans]) (by simp [results, Try.results18, go_sem]) rfl ⟨rfl, (((Below.refl _ w).alloc (Nat.le_refl _) _).alloc (by simp) _).alloc (by simp; omega) _⟩
end Go.Proofs.Ytockgojdmaladan
