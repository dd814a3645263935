/- The walk of the law on Unhex. -/
import Derived.Test.YtednbcdomkhhmajUnhex
namespace Go.Proofs.Ytednbcdomkhhmaj
open Go.RowKit

set_option maxHeartbeats 1000000 in
theorem unhex_walk (s : ByteArray) (hs : s.size ≤ maxLen) (w : World) :
    Calls Try.prog 5 #[.string s] w fun e w' => e = .returned (.bool true) ∧ Below w.heap.size w w' := by
  unfold maxLen at hs
  by_cases h : s.size ≤ 1048576
  · obtain ⟨n, hn⟩ : ∃ n, uhText s = n := ⟨_, rfl⟩
    obtain ⟨b, hb⟩ : ∃ n, uhOk s = n := ⟨_, rfl⟩
    have c1 := specUnhex_any s w h
    have c2 := fun w => implUnhex_any s w h
    rw [hn, hb] at c1 c2
    clear hn hb
    go_enter Try.func5, Try.ntmps5
    go_wp2_with (first | (go_at_call 11; refine c1.mono ?_; rintro e w' ⟨rfl, hb⟩) | (go_at_call 12; refine (c2 _).mono ?_; rintro e w2 ⟨rfl, hb2⟩))
    go_ret
    exact ⟨rfl, hb.trans (hb2.mono hb.size)⟩
  · go_enter Try.func5, Try.ntmps5
    go_wp2
    go_ret
    exact ⟨rfl, Below.refl _ _⟩
end Go.Proofs.Ytednbcdomkhhmaj
