/- The walk of the law on Frame. -/
import Derived.Test.YtlmclblndjeljalDoorFrameImpl
import Derived.Test.YtlmclblndjeljalDoorFrameSpec
namespace Go.Proofs.YtlmclblndjeljalDoor
open Go.RowKit

set_option maxHeartbeats 1000000 in
theorem frame_walk (s : ByteArray) (hs : s.size ≤ maxLen) (w : World) (ht : Tab w) :
    Calls Tryd.prog 3 #[.string s] w fun e w' => e = .returned (.bool true) ∧ Below w.heap.size w w' := by
  unfold maxLen at hs
  by_cases h : s.size ≤ 1048576
  · have c1 := specFrame_any s w
    have c2 := fun w' (hb : Below w.heap.size w w') => implFrame_any s w' h (ht.below hb (Nat.le_refl _))
    generalize frText s = q at c1 c2
    generalize frOk s = r at c1 c2
    go_enter Tryd.func3, Tryd.ntmps3
    go_wp2_with (first | (go_at_call 4; refine c1.mono ?_; rintro e w' ⟨rfl, hb⟩) | (go_at_call 5; refine (c2 _ hb).mono ?_; rintro e w2 ⟨rfl, hb2⟩))
    go_ret
    exact ⟨rfl, hb.trans (hb2.mono hb.size)⟩
  · go_enter Tryd.func3, Tryd.ntmps3
    go_wp2
    go_ret
    exact ⟨rfl, Below.refl _ _⟩
end Go.Proofs.YtlmclblndjeljalDoor
