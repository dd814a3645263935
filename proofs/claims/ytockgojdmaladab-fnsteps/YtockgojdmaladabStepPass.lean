/- A step that passes by, and one that meets: the program's. -/
import Derived.Test.YtockgojdmaladabStepRead
import Derived.Lib.QuietBelow
import Derived.BigQuiet
namespace Go.Proofs.Ytockgojdmaladab
open Go.RowKit Go.Sort

/-- A key is read: the calls of it, in a drawn region. -/
theorem key_calls {w0 : World} {S g m : Nat} {l : List Int} {t : Tk} {wi : World} (H : SS w0 S g m l t wi) (n : Int) (hn : 0 ≤ n ∧ n ≤ 20) :
    Hid (∀ d os, Calls Try.prog 67 #[.int .i64 n] (grow (redrawn wi d) os) fun e w'' => e = .returned (.int .i64 (3 * n)) ∧ ∃ p : Regrown, w'' = grow (redrawn wi p.d) p.os) ∧
    Hid (∀ d os, Calls Try.prog 121 #[.pointer (some ⟨S, 0, none⟩), .int .i64 (3 * n)] (grow (redrawn wi d) os) fun e w'' => e = .returned (.int .i64 (cellL6 l (3 * n))) ∧ ∃ p : Regrown, w'' = grow (redrawn wi p.d) p.os) := by
  refine ⟨fun d os => Calls.regrown_of ((keyCell_any n hn _).mono fun _ _ ⟨he, hw⟩ => ⟨he, hw ▸ Below.refl _ _⟩), fun d os => Calls.regrown_of ?_⟩
  have h := load_any (H.next (below_regrown wi d os)) (p := (3 * n).toNat) (by omega)
  rw [Int.toNat_of_nonneg (by omega)] at h
  exact h

theorem lookM {l M : List Int} {t : Tk} {b : Bool} (h : t.mark = 1) (hs : swapW l t.prev (2 * t.cur) (2 * t.next) = (M, b)) : lookL l t = (M, if b then { t with cur := t.next, pc := 1 } else { t with pc := 0 }) := by
  unfold lookL; rw [if_pos h, hs]; cases b <;> rfl
theorem lookB {l : List Int} {t : Tk} (h : ¬ t.mark = 1) (hk : cellL6 l (3 * t.cur) < t.key) : lookL l t = (l, { t with prev := t.cur, cur := t.next, pc := 1 }) := by unfold lookL; rw [if_neg h, if_pos hk]
theorem lookE {l : List Int} {t : Tk} (h : ¬ t.mark = 1) (hk : ¬ cellL6 l (3 * t.cur) < t.key) : lookL l t = (l, { t with pc := 3 }) := by unfold lookL; rw [if_neg h, if_neg hk]

set_option maxRecDepth 100000 in
set_option maxHeartbeats 4000000 in
theorem pass_any {w0 : World} {S g m : Nat} {l : List Int} {t : Tk} {wi : World} (H : SS w0 S g m l t wi) (hok : t.ok = true) :
    Calls Try.prog 94 #[.pointer (some ⟨S, 0, none⟩)] wi fun e w' => e = .returned (.tuple #[]) ∧ SS w0 S g m (lookL l t).1 (lookL l t).2 w' := by
  obtain ⟨_, _, _, _, _, hprev, hcur, hnext, hmark⟩ := Tk.ok_iff.1 hok
  obtain ⟨_, b1, _, _, _, b5, b6, b7, b8, _⟩ := H.box.cells
  by_cases hm1 : t.mark = 1
  · rw [hm1] at b8
    have C1 : Hid (∀ w, Calls Try.prog 124 #[.int .i64 t.next] w fun e w' => e = .returned (.int .i64 (2 * t.next)) ∧ w' = w) := wordTo_any t.next hnext
    have c2 := swapNext_any (H.next (drewB _)) t.prev t.cur (2 * t.next) hprev hcur
    obtain ⟨M, b, hMb⟩ : ∃ M b, swapW l t.prev (2 * t.cur) (2 * t.next) = (M, b) := ⟨_, _, rfl⟩
    rw [lookM hm1 hMb]
    have HM : Hid (t.mark = 1) := hm1
    clear hm1
    rw [hMb] at c2
    dsimp only at c2 ⊢
    clear H hok hprev hcur hnext hmark hMb
    cases b with
    | true =>
      go_enter Try.func94, Try.ntmps94
      go_wp2
      refine wp_region_still_tail 20 (by kernel_rfl) (by kernel_rfl) ?_
      simp only [List.take_succ_cons, List.take_zero, List.drop_succ_cons, List.drop_zero]
      repeat (first | still_step | still_call (C1.out _))
      try refine wpStill_nil ?_
      go_wp2_with fail
      refine c2.mono ?_
      rintro e w1 ⟨rfl, H1⟩
      clear b1 b5 b6 b7 b8 c2 C1
      obtain ⟨_, _, _, _, _, _, _, b7, _⟩ := H1.box.cells
      obtain ⟨⟨f1, f2, f3, f4⟩, H3⟩ := H1.on t.next
      clear H1
      go_wp2
      refine bodyPost_end (results_none rfl _ _ _) rfl ?_
      dsimp only
      go_wp2
      go_end0
      exact ⟨rfl, H3.out⟩
    | false =>
      go_enter Try.func94, Try.ntmps94
      go_wp2
      refine wp_region_still_tail 20 (by kernel_rfl) (by kernel_rfl) ?_
      simp only [List.take_succ_cons, List.take_zero, List.drop_succ_cons, List.drop_zero]
      repeat (first | still_step | still_call (C1.out _))
      try refine wpStill_nil ?_
      go_wp2_with fail
      refine c2.mono ?_
      rintro e w1 ⟨rfl, H1⟩
      clear b1 b5 b6 b7 b8 c2 C1
      obtain ⟨_, _, _, _, _, _, _, _, b8, _⟩ := H1.box.cells
      rw [HM.out] at b8
      obtain ⟨⟨f1, f2⟩, H3⟩ := H1.pcTo 0
      clear H1
      go_wp2
      refine bodyPost_end (results_none rfl _ _ _) rfl ?_
      dsimp only
      go_wp2
      go_end0
      exact ⟨rfl, H3.out⟩
  · have HM : Hid (t.mark = 0) := by show t.mark = 0; omega
    rw [HM.out] at b8
    by_cases hlt : cellL6 l (3 * t.cur) < t.key
    · rw [lookB hm1 hlt]
      dsimp only
      obtain ⟨x, hx⟩ : ∃ x, cellL6 l (3 * t.cur) = x := ⟨_, rfl⟩
      rw [hx] at hlt
      have hd : decide (x < t.key) = true := decide_eq_true hlt
      have HX : Hid (cellL6 l (3 * t.cur) = x) := hx
      have HH : Hid (SS w0 S g m l t wi ∧ (0 ≤ t.cur ∧ t.cur ≤ 20)) := ⟨H, hcur⟩
      clear hok hprev hcur hnext hmark hx hm1 H
      go_enter Try.func94, Try.ntmps94
      go_wp2
      go_quiet (fail)
      have HA : SS w0 S g m l t (wi.drewN nq) := HH.out.1.next ⟨rfl, rfl, rfl, Nat.le_refl _, fun _ _ => rfl⟩
      obtain ⟨wA, hwA⟩ : ∃ wA, wi.drewN nq = wA := ⟨_, rfl⟩
      rw [hwA] at HA ⊢
      clear b1 b5 b6 b7 b8 hwA
      obtain ⟨_, b1, _, _, _, _, b6, _, b8, _⟩ := HA.box.cells
      rw [HM.out] at b8
      obtain ⟨K1, K2⟩ := key_calls HA t.cur HH.out.2
      rw [HX.out] at K2
      have g1 := fun d os => cell_regrown b1 d os
      have g6 := fun d os => cell_regrown b6 d os
      have HB : Hid (SS w0 S g m l t wA) := HA
      clear HA
      go_wp2
      refine wp_region_quiet_below (by kernel_rfl) (by kernel_rfl) ?_
      repeat (first | go_big_quiet_step (first | exact K1.out _ _ | exact K2.out _ _) | quiet_step (first | exact K1.out _ _ | exact K2.out _ _))
      refine wpQuiet_nil ?_
      intro _ hw'
      obtain ⟨⟨dq, osq⟩, hw''⟩ := hw'
      subst hw''
      have H1 := HB.out.next (below_regrown wA dq osq)
      obtain ⟨wq, hwq⟩ : ∃ wq, grow (redrawn wA dq) osq = wq := ⟨_, rfl⟩
      rw [hwq] at H1 ⊢
      clear b1 b6 b8 K1 K2 hwq g1 g6
      obtain ⟨_, _, _, _, _, b5, b6, _⟩ := H1.box.cells
      have y5 := H1.box.thaw 7
      have H2 := H1.setT 7 (.int .i64 t.cur) { t with prev := t.cur } (fun _ _ => rfl)
      obtain ⟨_, _, _, _, _, _, _, b7, _⟩ := H2.box.cells
      obtain ⟨⟨f1, f2, f3, f4⟩, H3⟩ := H2.on t.next
      clear H1 H2
      go_wp2
      refine bodyPost_end (results_none rfl _ _ _) rfl ?_
      dsimp only
      go_wp2
      go_end0
      exact ⟨rfl, H3.out⟩
    · rw [lookE hm1 hlt]
      dsimp only
      obtain ⟨x, hx⟩ : ∃ x, cellL6 l (3 * t.cur) = x := ⟨_, rfl⟩
      rw [hx] at hlt
      have hd : decide (x < t.key) = false := decide_eq_false hlt
      have HX : Hid (cellL6 l (3 * t.cur) = x) := hx
      have HH : Hid (SS w0 S g m l t wi ∧ (0 ≤ t.cur ∧ t.cur ≤ 20)) := ⟨H, hcur⟩
      clear hok hprev hcur hnext hmark hx hm1 H
      go_enter Try.func94, Try.ntmps94
      go_wp2
      go_quiet (fail)
      have HA : SS w0 S g m l t (wi.drewN nq) := HH.out.1.next ⟨rfl, rfl, rfl, Nat.le_refl _, fun _ _ => rfl⟩
      obtain ⟨wA, hwA⟩ : ∃ wA, wi.drewN nq = wA := ⟨_, rfl⟩
      rw [hwA] at HA ⊢
      clear b1 b5 b6 b7 b8 hwA
      obtain ⟨_, b1, _, _, _, _, b6, _, b8, _⟩ := HA.box.cells
      rw [HM.out] at b8
      obtain ⟨K1, K2⟩ := key_calls HA t.cur HH.out.2
      rw [HX.out] at K2
      have g1 := fun d os => cell_regrown b1 d os
      have g6 := fun d os => cell_regrown b6 d os
      have HB : Hid (SS w0 S g m l t wA) := HA
      clear HA
      go_wp2
      refine wp_region_quiet_below (by kernel_rfl) (by kernel_rfl) ?_
      repeat (first | go_big_quiet_step (first | exact K1.out _ _ | exact K2.out _ _) | quiet_step (first | exact K1.out _ _ | exact K2.out _ _))
      refine wpQuiet_nil ?_
      intro _ hw'
      obtain ⟨⟨dq, osq⟩, hw''⟩ := hw'
      subst hw''
      have H1 := HB.out.next (below_regrown wA dq osq)
      obtain ⟨wq, hwq⟩ : ∃ wq, grow (redrawn wA dq) osq = wq := ⟨_, rfl⟩
      rw [hwq] at H1 ⊢
      clear b1 b6 b8 K1 K2 hwq g1 g6
      obtain ⟨⟨f1, f2⟩, H3⟩ := H1.pcTo 3
      clear H1
      go_wp2
      go_end0
      exact ⟨rfl, H3.out⟩
end Go.Proofs.Ytockgojdmaladab
