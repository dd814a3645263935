/- The walks over sealed texts: the program's own text. -/
import Derived.Test.YtlmclblndjeljaaDoorSealPlain
import Derived.Test.YtlmclblndjeljaaDoorSumImpl
import Derived.Test.YtlmclblndjeljaaDoorShelf
import Derived.Deep.RegionHeld3
import Derived.Deep.RegionLaw
import Derived.Lib.QuietBelow
import Derived.BigQuiet
namespace Go.Proofs.YtlmclblndjeljaaDoor
open Go.RowKit Go.Sort

theorem implSumOf_s (s : ByteArray) (w : World) (hs : s.size ≤ 1048580) (ht : Tab w) :
    Calls Tryd.prog 22 #[.string s] w fun e w' => e = .returned (.int .u32 (sumOf s : Nat)) ∧ w = w' := implSumOf_any s w hs ht

set_option maxHeartbeats 1000000 in
theorem implSealed_any (s : ByteArray) (w : World) (hs : s.size ≤ 1048576) (ht : Tab w) :
    Calls Tryd.prog 19 #[.string s] w fun e w' => e = .returned (.tuple #[.string (slText s), .bool (slOk s)]) ∧ Below w.heap.size w w' := by
  by_cases h : s.size ≤ 20000
  · rw [show slOk s = true by simp [slOk, h], show slText s = s ++ ⟨(four (sumOf s)).toArray⟩ by simp [slText, h]]
    have c1 := implSumOf_s s w (by omega) ht
    have c2 := fun w => bytes_any (sumOf s) w (sumOf_lt s)
    have hl := four_length (sumOf s)
    generalize sumOf s = n at c1 c2 hl ⊢
    generalize four n = l at c2 hl ⊢
    go_enter Tryd.func19, Tryd.ntmps19
    go_wp2_with (first | (go_at_call 22; refine c1.mono ?_; rintro e w' ⟨rfl, rfl⟩) | (go_at_call 36; refine (c2 _).mono ?_; rintro e w2 ⟨rfl, hb2⟩))
    go_ret2
    exact ⟨rfl, hb2⟩
  · rw [show slOk s = false by simp [slOk]; omega, show slText s = ⟨#[]⟩ by simp [slText, h]]
    go_enter Tryd.func19, Tryd.ntmps19
    go_wp2
    go_ret2
    exact ⟨rfl, Below.refl _ _⟩

theorem cloneOf_any (s : ByteArray) (w : World) (hs : s.size ≤ 281474976710656) :
    Calls Tryd.prog 33 #[.string s] w fun e w' => e = .returned (.string s) ∧ Below w.heap.size w w' := by
  go_enter Tryd.func33, Tryd.ntmps33
  go_wp2_with (go_at_call 41; refine (Tryd.stringslite_Clone s _ hs).mono ?_; rintro e w' ⟨rfl, hb⟩)
  go_ret
  exact ⟨rfl, hb⟩

set_option maxHeartbeats 2000000 in
set_option maxRecDepth 100000 in
theorem implUnsealed_any (s : ByteArray) (w : World) (hs : s.size ≤ 1048580) (ht : Tab w) :
    Calls Tryd.prog 20 #[.string s] w fun e w' => e = .returned (.tuple #[.string (unText s), .bool (unOk s)]) ∧ Below w.heap.size w w' := by
  by_cases h1 : 4 ≤ s.size
  · by_cases h2 : s.size ≤ 20004
    · have hsz := unHead_size s
      have cS : ∀ d os, Calls Tryd.prog 22 #[.string (unHead s)] (grow (redrawn w d) os) fun e w'' => e = .returned (.int .u32 (sumOf (unHead s) : Nat)) ∧ ∃ p : Regrown, w'' = grow (redrawn w p.d) p.os := fun d os => Calls.regrown_of ((implSumOf_s _ _ (by omega) (ht.below (below_regrown w d os) (Nat.le_refl _))).mono fun _ _ ⟨he, hw⟩ => ⟨he, hw ▸ Below.refl _ _⟩)
      have cB : ∀ d os, Calls Tryd.prog 36 #[.int .u32 (sumOf (unHead s) : Nat)] (grow (redrawn w d) os) fun e w'' => e = .returned (.string ⟨(four (sumOf (unHead s))).toArray⟩) ∧ ∃ p : Regrown, w'' = grow (redrawn w p.d) p.os := fun d os => Calls.regrown_of (bytes_any _ _ (sumOf_lt _))
      have cC := fun w => cloneOf_any (unHead s) w (by omega)
      have hsl1 : ∀ w, (Instr.slice 9 (.string s) none (some (.int .i64 ((s.size : Int) - 4))) none).run Tryd.prog w = .ok (.string (unHead s)) w := fun w => by
        rw [run_slice_string_h w 9 s Tryd.underlying9 .i64 _ (by omega) (by omega)]
        rw [show ((s.size : Int) - 4).toNat = s.size - 4 by omega]
        rfl
      have hsl2 : ∀ w, (Instr.slice 9 (.string s) (some (.int .i64 ((s.size : Int) - 4))) none none).run Tryd.prog w = .ok (.string ⟨(unTail s).toArray⟩) w := fun w => by
        rw [run_slice_string_l w 9 s Tryd.underlying9 .i64 _ (by omega) (by omega)]
        rw [show ((s.size : Int) - 4).toNat = s.size - 4 by omega]
        rfl
      go_enter Tryd.func20, Tryd.ntmps20
      go_wp2
      refine wp_region_quiet_below (by kernel_rfl) (by kernel_rfl) ?_
      repeat (first | go_big_quiet_step (first | exact cS _ _ | exact cB _ _) | quiet_step (first | exact cS _ _ | exact cB _ _))
      refine wpQuiet_nil ?_
      intro _ hw'
      obtain ⟨⟨dq, osq⟩, hw''⟩ := hw'
      subst hw''
      cases hq : (four (sumOf (unHead s)) == unTail s)
      · go_wp2
        go_ret2
        rw [show unOk s = false by simp [unOk, hq], show unText s = ⟨#[]⟩ by simp [unText, unOk, hq]]
        exact ⟨rfl, below_regrown _ _ _⟩
      · go_wp2_with (go_at_call 33; refine (cC _).mono ?_; rintro e w2 ⟨rfl, hb2⟩)
        go_ret2
        rw [show unOk s = true by simp [unOk, hq, h1, h2], show unText s = unHead s by simp [unText, unOk, hq, h1, h2]]
        exact ⟨rfl, (below_regrown w dq osq).trans (hb2.mono (below_regrown w dq osq).size)⟩
    · rw [show unOk s = false by simp [unOk, h2], show unText s = ⟨#[]⟩ by simp [unText, unOk, h2]]
      go_enter Tryd.func20, Tryd.ntmps20
      go_wp2
      go_ret2
      exact ⟨rfl, Below.refl _ _⟩
  · rw [show unOk s = false by simp [unOk, h1], show unText s = ⟨#[]⟩ by simp [unText, unOk, h1]]
    go_enter Tryd.func20, Tryd.ntmps20
    go_wp2
    go_ret2
    exact ⟨rfl, Below.refl _ _⟩
end Go.Proofs.YtlmclblndjeljaaDoor
