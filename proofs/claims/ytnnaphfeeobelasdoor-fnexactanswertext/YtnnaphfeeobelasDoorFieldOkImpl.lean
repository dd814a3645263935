/- The program's FieldOk. -/
import Derived.Test.YtnnaphfeeobelasDoorFieldImpl
namespace Go.Proofs.YtnnaphfeeobelasDoor
open Go.RowKit Go.Sort
set_option maxRecDepth 100000 in
set_option maxHeartbeats 4000000 in
theorem implFieldOk_any (f : ByteArray × ByteArray) (w : World) (hs1 : f.1.size ≤ 1048576) (hs2 : f.2.size ≤ 1048576) :
    Calls Tryd.prog 42 #[.agg #[.string f.1, .string f.2]] w fun e w' => e = .returned (.bool (fieldOkS f)) ∧ Below w.heap.size w w' := by
  obtain ⟨n, v⟩ := f
  dsimp only at *
  obtain ⟨wx, hwx⟩ : ∃ x, w.alloc (.cells #[.string n, .string v] 37) = x := ⟨_, rfl⟩
  have hb1 : Below w.heap.size w wx := by rw [← hwx]; exact (Below.refl _ _).alloc (Nat.le_refl _) _
  have hB : DBx wx w.heap.size (n, v) := by rw [← hwx]; exact DBx.new w (n, v)
  obtain ⟨b0, b1⟩ := hB.cells
  dsimp only at b0 b1
  have k0 := cell_regrown b0
  have k1 := cell_regrown b1
  have HW : Hid (w.alloc (.cells #[.string n, .string v] 37) = wx) := hwx
  have cN : ∀ d os, Calls Tryd.prog 48 #[.string n] (grow (redrawn wx d) os) fun e w'' => e = .returned (.bool (nameOkS n)) ∧ ∃ p : Regrown, w'' = grow (redrawn wx p.d) p.os := fun d os => Calls.regrown_of ((implName_any n _ hs1).mono (by rintro e w1 ⟨rfl, rfl⟩; exact ⟨rfl, Below.refl _ _⟩))
  have cP : ∀ d os, Calls Tryd.prog 41 #[.string v] (grow (redrawn wx d) os) fun e w'' => e = .returned (.bool (allB plainB v)) ∧ ∃ p : Regrown, w'' = grow (redrawn wx p.d) p.os := fun d os => Calls.regrown_of ((implPlain_any v _ hs2).mono (by rintro e w1 ⟨rfl, rfl⟩; exact ⟨rfl, Below.refl _ _⟩))
  have cT : ∀ d os, Calls Tryd.prog 49 #[.string v] (grow (redrawn wx d) os) fun e w'' => e = .returned (.string (trimT v)) ∧ ∃ p : Regrown, w'' = grow (redrawn wx p.d) p.os := fun d os => Calls.regrown_of (implBlanks_any v _ hs2)
  obtain ⟨R, hR⟩ : ∃ R, fieldOkS (n, v) = R := ⟨_, rfl⟩
  rw [hR]
  have HR : Hid ((nameOkS n && (allB plainB v && decide ((v.size : Int) ≤ 60)) && trimS v) = R) := hR
  have hTT := trimT_same v
  generalize trimT v = tv at cT hTT
  generalize trimS v = B at HR hTT
  have hdr := below_regrown wx
  clear hwx hB hR b0 b1
  go_enter Tryd.func42, Tryd.ntmps42
  go_wp2
  rw [HW.out]
  cases hn : nameOkS n with
  | false =>
    rw [hn] at cN HR
    have HP : Hid (R = false) := by show _ = _; rw [← HR.out]; rfl
    clear hn cP cT
    refine wp_region_quiet_below (by kernel_rfl) (by kernel_rfl) ?_
    repeat (first | go_big_quiet_step (with_reducible exact cN _ _) | quiet_step (with_reducible exact cN _ _))
    refine wpQuiet_nil ?_
    intro _ hw'
    obtain ⟨⟨dq, osq⟩, hw''⟩ := hw'
    subst hw''
    go_wp2
    go_ret
    exact ⟨by rw [HP.out]; rfl, hb1.trans ((hdr dq osq).mono hb1.size)⟩
  | true =>
    rw [hn] at cN HR
    clear hn
    by_cases h60 : (v.size : Int) ≤ 60
    · rw [decide_eq_true h60] at HR
      cases hp : allB plainB v with
      | false =>
        rw [hp] at cP HR
        have HP : Hid (R = false) := by show _ = _; rw [← HR.out]; rfl
        clear hp cT
        refine wp_region_quiet_below (by kernel_rfl) (by kernel_rfl) ?_
        repeat (first | go_big_quiet_step (first | with_reducible exact cN _ _ | with_reducible exact cP _ _) | quiet_step (first | with_reducible exact cN _ _ | with_reducible exact cP _ _))
        refine wpQuiet_nil ?_
        intro _ hw'
        obtain ⟨⟨dq, osq⟩, hw''⟩ := hw'
        subst hw''
        go_wp2
        go_ret
        exact ⟨by rw [HP.out]; rfl, hb1.trans ((hdr dq osq).mono hb1.size)⟩
      | true =>
        rw [hp] at cP HR
        have HP : Hid (R = B) := by show _ = _; rw [← HR.out]; simp
        clear hp
        refine wp_region_quiet_below (by kernel_rfl) (by kernel_rfl) ?_
        repeat (first | go_big_quiet_step (first | with_reducible exact cN _ _ | with_reducible exact cP _ _ | with_reducible exact cT _ _) | quiet_step (first | with_reducible exact cN _ _ | with_reducible exact cP _ _ | with_reducible exact cT _ _))
        refine wpQuiet_nil ?_
        intro _ hw'
        obtain ⟨⟨dq, osq⟩, hw''⟩ := hw'
        subst hw''
        go_wp2
        go_ret
        exact ⟨by rw [HP.out]; first | rfl | simp [hTT], hb1.trans ((hdr dq osq).mono hb1.size)⟩
    · have HP : Hid (R = false) := by show _ = _; rw [← HR.out, decide_eq_false h60]; simp
      clear cP cT
      refine wp_region_quiet_below (by kernel_rfl) (by kernel_rfl) ?_
      repeat (first | go_big_quiet_step (with_reducible exact cN _ _) | quiet_step (with_reducible exact cN _ _))
      refine wpQuiet_nil ?_
      intro _ hw'
      obtain ⟨⟨dq, osq⟩, hw''⟩ := hw'
      subst hw''
      go_wp2
      go_ret
      exact ⟨by rw [HP.out]; rfl, hb1.trans ((hdr dq osq).mono hb1.size)⟩
end Go.Proofs.YtnnaphfeeobelasDoor
