/- The walk of the law on ReadDecimal. -/
import Derived.Test.YtednbcdomkhhmajReadDecSpec
namespace Go.Proofs.Ytednbcdomkhhmaj
open Go.RowKit

set_option maxHeartbeats 1000000 in
theorem readDecimal_walk (s : ByteArray) (hs : s.size ≤ maxLen) (w : World) :
    Calls Try.prog 6 #[.string s] w fun e w' => e = .returned (.bool true) ∧ Below w.heap.size w w' := by
  unfold maxLen at hs
  by_cases h : s.size ≤ 1048576
  · have c1 := specReadDecimal_any s w h
    have c2 := fun w => implReadDecimal_any s w h
    rw [sdF_eq] at c1
    obtain ⟨n, hn⟩ : ∃ n, (rdF 0 0 s.data.toList).getD 0 = n := ⟨_, rfl⟩
    obtain ⟨b, hb⟩ : ∃ n, (rdF 0 0 s.data.toList).isSome = n := ⟨_, rfl⟩
    rw [hn, hb] at c1 c2
    clear hn hb
    go_enter Try.func6, Try.ntmps6
    go_wp2_with (first | (go_at_call 13; refine c1.mono ?_; rintro e w' ⟨rfl, hb⟩) | (go_at_call 14; refine (c2 _).mono ?_; rintro e w2 ⟨rfl, hb2⟩))
    go_ret
    exact ⟨rfl, hb.trans (hb2.mono hb.size)⟩
  · go_enter Try.func6, Try.ntmps6
    go_wp2
    go_ret
    exact ⟨rfl, Below.refl _ _⟩
end Go.Proofs.Ytednbcdomkhhmaj
