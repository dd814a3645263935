/- The walks of the laws on sums and sealed texts. -/
import Derived.Test.YthpliadeeaodeakDoorSealImpl
import Derived.Test.YthpliadeeaodeakDoorSealSpec
namespace Go.Proofs.YthpliadeeaodeakDoor
open Go.RowKit

set_option maxHeartbeats 1000000 in
theorem sumMore_walk (n : Nat) (s : ByteArray) (hn : n < 4294967296) (hs : s.size ≤ maxLen) (w : World) (ht : Tab w) :
    Calls Tryd.prog 3 #[.int .u32 (n : Int), .string s] w fun e w' => e = .returned (.bool true) ∧ Below w.heap.size w w' := by
  unfold maxLen at hs
  by_cases h : s.size ≤ 1048576
  · have c1 := specSumMore_any n s w hn (by omega)
    have c2 := implSumMore_any n s w hn (by omega) ht
    generalize sumAll n s.data.toList = q at c1 c2
    go_enter Tryd.func3, Tryd.ntmps3
    go_wp2_with (first | (go_at_call 7; refine c1.mono ?_; rintro e w' ⟨rfl, rfl⟩) | (go_at_call 8; refine c2.mono ?_; rintro e w' ⟨rfl, rfl⟩))
    go_ret
    exact ⟨rfl, Below.refl _ _⟩
  · go_enter Tryd.func3, Tryd.ntmps3
    go_wp2
    go_ret
    exact ⟨rfl, Below.refl _ _⟩

set_option maxHeartbeats 1000000 in
theorem sumOf_walk (s : ByteArray) (hs : s.size ≤ maxLen) (w : World) (ht : Tab w) :
    Calls Tryd.prog 4 #[.string s] w fun e w' => e = .returned (.bool true) ∧ Below w.heap.size w w' := by
  unfold maxLen at hs
  by_cases h : s.size ≤ 1048576
  · have c1 := specSumOf_s s w (by omega)
    have c2 := implSumOf_s s w (by omega) ht
    generalize sumOf s = q at c1 c2
    go_enter Tryd.func4, Tryd.ntmps4
    go_wp2_with (first | (go_at_call 9; refine c1.mono ?_; rintro e w' ⟨rfl, rfl⟩) | (go_at_call 10; refine c2.mono ?_; rintro e w' ⟨rfl, rfl⟩))
    go_ret
    exact ⟨rfl, Below.refl _ _⟩
  · go_enter Tryd.func4, Tryd.ntmps4
    go_wp2
    go_ret
    exact ⟨rfl, Below.refl _ _⟩

set_option maxHeartbeats 1000000 in
theorem sealed_walk (s : ByteArray) (hs : s.size ≤ maxLen) (w : World) (ht : Tab w) :
    Calls Tryd.prog 5 #[.string s] w fun e w' => e = .returned (.bool true) ∧ Below w.heap.size w w' := by
  unfold maxLen at hs
  by_cases h : s.size ≤ 1048576
  · have c1 := specSealed_any s w h
    have c2 := fun w' (hb : Below w.heap.size w w') => implSealed_any s w' h (ht.below hb (Nat.le_refl _))
    generalize slText s = q at c1 c2
    generalize slOk s = r at c1 c2
    go_enter Tryd.func5, Tryd.ntmps5
    go_wp2_with (first | (go_at_call 11; refine c1.mono ?_; rintro e w' ⟨rfl, hb⟩) | (go_at_call 12; refine (c2 _ hb).mono ?_; rintro e w2 ⟨rfl, hb2⟩))
    go_ret
    exact ⟨rfl, hb.trans (hb2.mono hb.size)⟩
  · go_enter Tryd.func5, Tryd.ntmps5
    go_wp2
    go_ret
    exact ⟨rfl, Below.refl _ _⟩

set_option maxHeartbeats 1000000 in
theorem unsealed_walk (s : ByteArray) (hs : s.size ≤ maxLen) (w : World) (ht : Tab w) :
    Calls Tryd.prog 6 #[.string s] w fun e w' => e = .returned (.bool true) ∧ Below w.heap.size w w' := by
  unfold maxLen at hs
  by_cases h : s.size ≤ 1048576
  · have c1 := specUnsealed_any s w (by omega)
    have c2 := fun w' (hb : Below w.heap.size w w') => implUnsealed_any s w' (by omega) (ht.below hb (Nat.le_refl _))
    generalize unText s = q at c1 c2
    generalize unOk s = r at c1 c2
    go_enter Tryd.func6, Tryd.ntmps6
    go_wp2_with (first | (go_at_call 13; refine c1.mono ?_; rintro e w' ⟨rfl, hb⟩) | (go_at_call 14; refine (c2 _ hb).mono ?_; rintro e w2 ⟨rfl, hb2⟩))
    go_ret
    exact ⟨rfl, hb.trans (hb2.mono hb.size)⟩
  · go_enter Tryd.func6, Tryd.ntmps6
    go_wp2
    go_ret
    exact ⟨rfl, Below.refl _ _⟩
end Go.Proofs.YthpliadeeaodeakDoor
