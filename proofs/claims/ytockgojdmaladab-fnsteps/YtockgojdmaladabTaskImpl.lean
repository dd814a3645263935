/- A task that is new, and one that is right: the program's. -/
import Derived.Test.YtockgojdmaladabTaskKit
import Derived.Test.YtockgojdmaladabTaskOne
import Derived.Test.YtockgojdmaladabTaskTwo
import Derived.Test.YtockgojdmaladabTaskThree
import Derived.Test.YtockgojdmaladabTaskLaw
namespace Go.Proofs.Ytockgojdmaladab
open Go.RowKit Go.Sort

theorem implTaskOk_any (t : Tk) (w : World) :
    Calls Try.prog 35 #[.agg (tcs t)] w fun e w' => e = .returned (.bool t.ok) ∧ Below w.heap.size w w' := by
  by_cases h1 : 1 ≤ t.kind ∧ t.kind ≤ 3 ∧ 1 ≤ t.key ∧ t.key ≤ 99 ∧ 0 ≤ t.val
  · obtain ⟨h0, h1, h2, h3, h4⟩ := h1
    by_cases h5 : t.val ≤ 99 ∧ 1 ≤ t.node ∧ t.node ≤ 20 ∧ 0 ≤ t.pc ∧ t.pc ≤ 6
    · obtain ⟨h5, h6, h7, h8, h9⟩ := h5
      exact taskOk_three t w h0 h1 h2 h3 h4 h5 h6 h7 h8 h9
    · exact taskOk_two t w h0 h1 h2 h3 h4 h5
  · exact taskOk_one t w h1
set_option maxRecDepth 100000 in
theorem implTaskNew_any (kind key val node : Int) (w : World) :
    Calls Try.prog 26 #[.int .i64 kind, .int .i64 key, .int .i64 val, .int .i64 node] w fun e w' => e = .returned (.agg (tcs (Tk.new kind key val node))) ∧ Below w.heap.size w w' := by
  go_enter Try.func26, Try.ntmps26
  go_wp2
  refine bodyPost_ret (v := .agg (tcs (Tk.new kind key val node))) (by simp [results, Try.results26, go_sem, tcs, Tk.new]) rfl ⟨rfl, (Below.refl _ _).alloc (Nat.le_refl _) _⟩
end Go.Proofs.Ytockgojdmaladab
