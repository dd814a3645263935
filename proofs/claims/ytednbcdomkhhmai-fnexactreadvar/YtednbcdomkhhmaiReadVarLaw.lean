/- The walk of the law on ReadVar. -/
import Derived.Test.YtednbcdomkhhmaiReadSpec
namespace Go.Proofs.Ytednbcdomkhhmai
open Go.RowKit

set_option maxHeartbeats 1000000 in
theorem readVar_walk (s : ByteArray) (a : Int) (hs : s.size ≤ maxLen) (_ha : (Lit.int .i64 a).wf = true) (w : World) :
    Calls Try.prog 4 #[.string s, .int .i64 a] w fun e w' => e = .returned (.bool true) ∧ Below w.heap.size w w' := by
  unfold maxLen at hs
  by_cases h : s.size ≤ 1048576
  · obtain ⟨n, hn⟩ : ∃ n, rvN s.data.toList a = n := ⟨_, rfl⟩
    obtain ⟨x, hx⟩ : ∃ n, rvE s.data.toList a = n := ⟨_, rfl⟩
    obtain ⟨b, hb⟩ : ∃ n, rvOk s.data.toList a = n := ⟨_, rfl⟩
    have c1 := specReadVar_any s a w h
    have c2 := fun w => implReadVar_any s a w h
    rw [hn, hx, hb] at c1 c2
    clear hn hx hb
    go_enter Try.func4, Try.ntmps4
    go_wp2_with (first | (go_at_call 8; refine c1.mono ?_; rintro e w' ⟨rfl, hb⟩) | (go_at_call 9; refine (c2 _).mono ?_; rintro e w2 ⟨rfl, rfl⟩))
    go_ret
    exact ⟨rfl, hb⟩
  · go_enter Try.func4, Try.ntmps4
    go_wp2
    go_ret
    exact ⟨rfl, Below.refl _ _⟩
end Go.Proofs.Ytednbcdomkhhmai
