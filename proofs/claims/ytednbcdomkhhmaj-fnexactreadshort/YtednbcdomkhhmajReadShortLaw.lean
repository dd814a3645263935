/- The walk of the law on ReadShort. -/
import Derived.Test.YtednbcdomkhhmajReadShort
namespace Go.Proofs.Ytednbcdomkhhmaj
open Go.RowKit

set_option maxHeartbeats 1000000 in
theorem readShort_walk (s : ByteArray) (a : Int) (hs : s.size ≤ maxLen) (_ha : (Lit.int .i64 a).wf = true) (w : World) :
    Calls Try.prog 3 #[.string s, .int .i64 a] w fun e w' => e = .returned (.bool true) ∧ Below w.heap.size w w' := by
  unfold maxLen at hs
  by_cases h : s.size ≤ 1048576
  · obtain ⟨n, hn⟩ : ∃ n, rsText s a = n := ⟨_, rfl⟩
    obtain ⟨x, hx⟩ : ∃ n, rsE s a = n := ⟨_, rfl⟩
    obtain ⟨b, hb⟩ : ∃ n, rsOk s a = n := ⟨_, rfl⟩
    have c1 := specReadShort_any s a w h
    have c2 := fun w => implReadShort_any s a w h
    rw [hn, hx, hb] at c1 c2
    clear hn hx hb
    go_enter Try.func3, Try.ntmps3
    go_wp2_with (first | (go_at_call 7; refine c1.mono ?_; rintro e w' ⟨rfl, hb⟩) | (go_at_call 8; refine (c2 _).mono ?_; rintro e w2 ⟨rfl, hb2⟩))
    go_ret
    exact ⟨rfl, hb.trans (hb2.mono hb.size)⟩
  · go_enter Try.func3, Try.ntmps3
    go_wp2
    go_ret
    exact ⟨rfl, Below.refl _ _⟩
end Go.Proofs.Ytednbcdomkhhmaj
