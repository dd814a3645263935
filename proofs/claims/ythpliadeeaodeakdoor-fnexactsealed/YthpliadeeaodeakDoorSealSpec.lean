/- The walks over sealed texts: the other text. -/
import Derived.Test.YthpliadeeaodeakDoorSealPlain
import Derived.Test.YthpliadeeaodeakDoorSumSpec
import Derived.Lib.QuietBelow
import Derived.BigQuiet
namespace Go.Proofs.YthpliadeeaodeakDoor
open Go.RowKit Go.Sort

theorem specSumOf_s (s : ByteArray) (w : World) (hs : s.size ≤ 1048580) :
    Calls Tryd.prog 9 #[.string s] w fun e w' => e = .returned (.int .u32 (sumOf s : Nat)) ∧ w = w' := specSumOf_any s w hs

set_option maxHeartbeats 1000000 in
theorem specSealed_any (s : ByteArray) (w : World) (hs : s.size ≤ 1048576) :
    Calls Tryd.prog 11 #[.string s] w fun e w' => e = .returned (.tuple #[.string (slText s), .bool (slOk s)]) ∧ Below w.heap.size w w' := by
  by_cases h : s.size ≤ 20000
  · rw [show slOk s = true by simp [slOk, h], show slText s = s ++ ⟨(four (sumOf s)).toArray⟩ by simp [slText, h]]
    have c1 := specSumOf_s s w (by omega)
    have c2 := fun w => l02Four_any (sumOf s) w (sumOf_lt s)
    have hl := four_length (sumOf s)
    generalize sumOf s = n at c1 c2 hl ⊢
    generalize four n = l at c2 hl ⊢
    go_enter Tryd.func11, Tryd.ntmps11
    go_wp2_with (first | (go_at_call 9; refine c1.mono ?_; rintro e w' ⟨rfl, rfl⟩) | (go_at_call 16; refine (c2 _).mono ?_; rintro e w2 ⟨rfl, hb2⟩))
    go_ret2
    exact ⟨rfl, hb2⟩
  · rw [show slOk s = false by simp [slOk]; omega, show slText s = ⟨#[]⟩ by simp [slText, h]]
    go_enter Tryd.func11, Tryd.ntmps11
    go_wp2
    go_ret2
    exact ⟨rfl, Below.refl _ _⟩

set_option maxHeartbeats 2000000 in
set_option maxRecDepth 100000 in
theorem specUnsealed_any (s : ByteArray) (w : World) (hs : s.size ≤ 1048580) :
    Calls Tryd.prog 13 #[.string s] w fun e w' => e = .returned (.tuple #[.string (unText s), .bool (unOk s)]) ∧ Below w.heap.size w w' := by
  by_cases h1 : 4 ≤ s.size
  · by_cases h2 : s.size ≤ 20004
    · have hsz := unHead_size s
      have cS : ∀ d os, Calls Tryd.prog 9 #[.string (unHead s)] (grow (redrawn w d) os) fun e w'' => e = .returned (.int .u32 (sumOf (unHead s) : Nat)) ∧ ∃ p : Regrown, w'' = grow (redrawn w p.d) p.os := fun d os => Calls.regrown_of ((specSumOf_s _ _ (by omega)).mono fun _ _ ⟨he, hw⟩ => ⟨he, hw ▸ Below.refl _ _⟩)
      have cB : ∀ d os, Calls Tryd.prog 16 #[.int .u32 (sumOf (unHead s) : Nat)] (grow (redrawn w d) os) fun e w'' => e = .returned (.string ⟨(four (sumOf (unHead s))).toArray⟩) ∧ ∃ p : Regrown, w'' = grow (redrawn w p.d) p.os := fun d os => Calls.regrown_of (l02Four_any _ _ (sumOf_lt _))
      have hsl1 : ∀ w, (Instr.slice 9 (.string s) none (some (.int .i64 ((s.size : Int) - 4))) none).run Tryd.prog w = .ok (.string (unHead s)) w := fun w => by
        rw [run_slice_string_h w 9 s Tryd.underlying9 .i64 _ (by omega) (by omega)]
        rw [show ((s.size : Int) - 4).toNat = s.size - 4 by omega]
        rfl
      have hsl2 : ∀ w, (Instr.slice 9 (.string s) (some (.int .i64 ((s.size : Int) - 4))) none none).run Tryd.prog w = .ok (.string ⟨(unTail s).toArray⟩) w := fun w => by
        rw [run_slice_string_l w 9 s Tryd.underlying9 .i64 _ (by omega) (by omega)]
        rw [show ((s.size : Int) - 4).toNat = s.size - 4 by omega]
        rfl
      have hd1 : decide ((s.size : Int) - 4 < 0) = false := by simp; omega
      have hd2 : decide (20000 < (s.size : Int) - 4) = false := by simp; omega
      go_enter Tryd.func13, Tryd.ntmps13
      go_wp2
      refine wp_region_quiet_below (by kernel_rfl) (by kernel_rfl) ?_
      repeat (first | go_big_quiet_step (first | exact cS _ _ | exact cB _ _) | quiet_step (first | exact cS _ _ | exact cB _ _))
      refine wpQuiet_nil ?_
      intro _ hw'
      obtain ⟨⟨dq, osq⟩, hw''⟩ := hw'
      subst hw''
      cases hq : (unTail s == four (sumOf (unHead s)))
      · go_wp2
        go_ret2
        have hq' : (four (sumOf (unHead s)) == unTail s) = false := by rw [← hq, BEq.comm]
        rw [show unOk s = false by simp [unOk, hq'], show unText s = ⟨#[]⟩ by simp [unText, unOk, hq']]
        exact ⟨rfl, below_regrown _ _ _⟩
      · go_wp2
        go_ret2
        have hq' : (four (sumOf (unHead s)) == unTail s) = true := by rw [← hq, BEq.comm]
        rw [show unOk s = true by simp [unOk, hq', h1, h2], show unText s = unHead s by simp [unText, unOk, hq', h1, h2]]
        exact ⟨rfl, below_regrown w dq osq⟩
    · rw [show unOk s = false by simp [unOk, h2], show unText s = ⟨#[]⟩ by simp [unText, unOk, h2]]
      have hd1 : decide ((s.size : Int) - 4 < 0) = false := by simp; omega
      have hd2 : decide (20000 < (s.size : Int) - 4) = true := by simp; omega
      go_enter Tryd.func13, Tryd.ntmps13
      go_wp2
      go_quiet (fail)
      go_wp2
      go_ret2
      exact ⟨rfl, ⟨rfl, rfl, rfl, Nat.le_refl _, fun _ _ => rfl⟩⟩
  · rw [show unOk s = false by simp [unOk, h1], show unText s = ⟨#[]⟩ by simp [unText, unOk, h1]]
    have hd1 : decide ((s.size : Int) - 4 < 0) = true := by simp; omega
    go_enter Tryd.func13, Tryd.ntmps13
    go_wp2
    go_quiet (fail)
    go_wp2
    go_ret2
    exact ⟨rfl, ⟨rfl, rfl, rfl, Nat.le_refl _, fun _ _ => rfl⟩⟩
end Go.Proofs.YthpliadeeaodeakDoor
