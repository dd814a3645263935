/- The walk over Frame: the other text. -/
import Derived.Test.YtepfblabdibggabDoorFramePlain
import Derived.Test.YtepfblabdibggabDoorVar
import Derived.Test.YtepfblabdibggabDoorSumSpec
namespace Go.Proofs.YtepfblabdibggabDoor
open Go.RowKit

set_option maxHeartbeats 1000000 in
theorem specFrame_in (s : ByteArray) (w : World) (h1 : 1 ≤ s.size) (h2 : s.size ≤ 9000) :
    Calls Tryd.prog 27 #[.string s] w fun e w' => e = .returned (.tuple #[.string (frAll s), .bool true]) ∧ Below w.heap.size w w' := by
  have hin : inB (s.size : Int) 1 9000 = true := inB_yes (by omega) (by omega)
  have cI : ∀ w, Calls Tryd.prog 52 #[.int .i64 (s.size : Int), .int .i64 1, .int .i64 9000] w fun e w' => e = .returned (.bool true) ∧ w = w' := fun w => hin ▸ l01In_any _ _ _ w
  have hm : s.size ≤ 9223372036854775807 := by omega
  have c0 := fun w => l01Var_any s.size w hm
  have c1 : ∀ w', Calls Tryd.prog 54 #[.string s] w' fun e w'' => e = .returned (.int .u32 (sumOf s : Nat)) ∧ w' = w'' := fun w' => specSumOf_any s w' (by omega)
  have c2 := fun w => l02Four_any (sumOf s) w (sumOf_lt s)
  have hl := four_length (sumOf s)
  have hv := varF_length 8 s.size
  unfold frAll
  generalize sumOf s = n at c1 c2 hl ⊢
  generalize four n = l at c2 hl ⊢
  generalize varF 8 s.size = v at c0 hv ⊢
  go_enter Tryd.func27, Tryd.ntmps27
  go_wp2_with (first | (go_at_call 52; refine (cI _).mono ?_; rintro e w' ⟨rfl, rfl⟩) | (go_at_call 51; refine (c0 _).mono ?_; rintro e w' ⟨rfl, hb⟩) | (go_at_call 54; refine (c1 _).mono ?_; rintro e w' ⟨rfl, rfl⟩) | (go_at_call 53; refine (c2 _).mono ?_; rintro e w2 ⟨rfl, hb2⟩))
  all_goals go_ret2
  all_goals first | exact ⟨rfl, hb.trans (hb2.mono hb.size)⟩ | exact ⟨rfl, hb2.trans (hb.mono hb2.size)⟩

set_option maxHeartbeats 1000000 in
theorem specFrame_any (s : ByteArray) (w : World) :
    Calls Tryd.prog 27 #[.string s] w fun e w' => e = .returned (.tuple #[.string (frText s), .bool (frOk s)]) ∧ Below w.heap.size w w' := by
  by_cases h : 1 ≤ s.size ∧ s.size ≤ 9000
  · rw [frOk_in h.1 h.2, frText_in h.1 h.2]
    exact specFrame_in s w h.1 h.2
  · rw [frOk_out h, frText_out h]
    have hin : inB (s.size : Int) 1 9000 = false := inB_no (by omega)
    have cI : ∀ w, Calls Tryd.prog 52 #[.int .i64 (s.size : Int), .int .i64 1, .int .i64 9000] w fun e w' => e = .returned (.bool false) ∧ w = w' := fun w => hin ▸ l01In_any _ _ _ w
    go_enter Tryd.func27, Tryd.ntmps27
    go_wp2_with (go_at_call 52; refine (cI _).mono ?_; rintro e w' ⟨rfl, rfl⟩)
    go_ret2
    exact ⟨rfl, Below.refl _ _⟩
end Go.Proofs.YtepfblabdibggabDoor
