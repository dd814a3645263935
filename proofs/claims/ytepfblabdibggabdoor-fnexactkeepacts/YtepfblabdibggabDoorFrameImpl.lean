/- The walk over Frame: the program's own text. -/
import Derived.Test.YtepfblabdibggabDoorFramePlain
import Derived.Test.YtepfblabdibggabDoorVarImpl
import Derived.Test.YtepfblabdibggabDoorSumImpl
namespace Go.Proofs.YtepfblabdibggabDoor
open Go.RowKit

set_option maxHeartbeats 1000000 in
theorem implFrame_in (s : ByteArray) (w : World) (h1 : 1 ≤ s.size) (h2 : s.size ≤ 9000) (ht : Tab w) :
    Calls Tryd.prog 58 #[.string s] w fun e w' => e = .returned (.tuple #[.string (frAll s), .bool true]) ∧ Below w.heap.size w w' := by
  have hne := not_empty h1
  have hm : s.size ≤ 1000000000 := by omega
  have c0 := implVarText_in s.size w hm
  have c1 : ∀ w', Below w.heap.size w w' → Calls Tryd.prog 77 #[.string s] w' fun e w'' => e = .returned (.int .u32 (sumOf s : Nat)) ∧ w' = w'' := fun w' hb => implSumOf_any s w' (by omega) (ht.below hb (Nat.le_refl _))
  have c2 := fun w => bytes_any (sumOf s) w (sumOf_lt s)
  have hl := four_length (sumOf s)
  have hv := varF_length 8 s.size
  unfold frAll
  generalize sumOf s = n at c1 c2 hl ⊢
  generalize four n = l at c2 hl ⊢
  generalize varF 8 s.size = v at c0 hv ⊢
  go_enter Tryd.func58, Tryd.ntmps58
  go_wp2_with (first | (go_at_call 76; refine c0.mono ?_; rintro e w' ⟨rfl, hb⟩) | (go_at_call 77; refine (c1 _ hb).mono ?_; rintro e w' ⟨rfl, rfl⟩) | (go_at_call 78; refine (c2 _).mono ?_; rintro e w2 ⟨rfl, hb2⟩))
  go_ret2
  exact ⟨rfl, hb.trans (hb2.mono hb.size)⟩

set_option maxHeartbeats 1000000 in
theorem implFrame_any (s : ByteArray) (w : World) (hs : s.size ≤ 1048576) (ht : Tab w) :
    Calls Tryd.prog 58 #[.string s] w fun e w' => e = .returned (.tuple #[.string (frText s), .bool (frOk s)]) ∧ Below w.heap.size w w' := by
  by_cases h1 : 1 ≤ s.size
  · by_cases h2 : s.size ≤ 9000
    · rw [frOk_in h1 h2, frText_in h1 h2]
      exact implFrame_in s w h1 h2 ht
    · rw [frOk_out (by omega), frText_out (by omega)]
      have hne := not_empty h1
      go_enter Tryd.func58, Tryd.ntmps58
      go_wp2
      go_ret2
      exact ⟨rfl, Below.refl _ _⟩
  · rw [frOk_out (by omega), frText_out (by omega), size_zero (s := s) (by omega)]
    go_enter Tryd.func58, Tryd.ntmps58
    go_wp2
    go_ret2
    exact ⟨rfl, Below.refl _ _⟩
end Go.Proofs.YtepfblabdibggabDoor
