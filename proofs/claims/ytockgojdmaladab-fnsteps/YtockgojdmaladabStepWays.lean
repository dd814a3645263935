/- The ways of a step: the program's. -/
import Derived.Test.YtockgojdmaladabStepNobody
namespace Go.Proofs.Ytockgojdmaladab
open Go.RowKit Go.Sort

set_option maxRecDepth 100000 in
set_option maxHeartbeats 2000000 in
theorem hang_any {w0 : World} {S g m : Nat} {l : List Int} {t : Tk} {wi : World} (H : SS w0 S g m l t wi) (hok : t.ok = true) :
    Calls Try.prog 96 #[.pointer (some ⟨S, 0, none⟩)] wi fun e w' => e = .returned (.tuple #[]) ∧ SS w0 S g m (swapW l t.prev (2 * t.cur) (2 * t.node)).1 (if (swapW l t.prev (2 * t.cur) (2 * t.node)).2 then { t with done := true, ans := 1 } else { t with pc := 0 }) w' := by
  obtain ⟨_, _, _, hnode, _, hprev, hcur, _⟩ := Tk.ok_iff.1 hok
  have C1 : Hid (∀ w, Calls Try.prog 124 #[.int .i64 t.node] w fun e w' => e = .returned (.int .i64 (2 * t.node)) ∧ w' = w) := wordTo_any t.node (by omega)
  have c2 := swapNext_any (H.next (drewB _)) t.prev t.cur (2 * t.node) hprev hcur
  obtain ⟨M, b, hMb⟩ : ∃ M b, swapW l t.prev (2 * t.cur) (2 * t.node) = (M, b) := ⟨_, _, rfl⟩
  rw [hMb] at c2 ⊢
  dsimp only at c2 ⊢
  obtain ⟨_, _, _, b3, _, b5, b6, _⟩ := H.box.cells
  clear H hok hnode hprev hcur hMb
  cases b with
  | true =>
    go_enter Try.func96, Try.ntmps96
    go_wp2
    refine wp_region_still_tail 17 (by kernel_rfl) (by kernel_rfl) ?_
    simp only [List.take_succ_cons, List.take_zero, List.drop_succ_cons, List.drop_zero]
    repeat (first | still_step | still_call (C1.out _))
    try refine wpStill_nil ?_
    go_wp2_with fail
    refine c2.mono ?_
    rintro e w1 ⟨rfl, H1⟩
    obtain ⟨⟨f1, f2, f3, f4⟩, H3⟩ := H1.fin 1
    clear c2 b3 b5 b6 H1
    go_wp2
    refine bodyPost_end (results_none rfl _ _ _) rfl ?_
    dsimp only
    go_wp2
    go_end0
    exact ⟨rfl, H3.out⟩
  | false =>
    go_enter Try.func96, Try.ntmps96
    go_wp2
    refine wp_region_still_tail 17 (by kernel_rfl) (by kernel_rfl) ?_
    simp only [List.take_succ_cons, List.take_zero, List.drop_succ_cons, List.drop_zero]
    repeat (first | still_step | still_call (C1.out _))
    try refine wpStill_nil ?_
    go_wp2_with fail
    refine c2.mono ?_
    rintro e w1 ⟨rfl, H1⟩
    obtain ⟨⟨f1, f2⟩, H3⟩ := H1.pcTo 0
    clear c2 b3 b5 b6 H1
    go_wp2
    refine bodyPost_end (results_none rfl _ _ _) rfl ?_
    dsimp only
    go_wp2
    (try simp only [Exit.inBlock, Exit.then])
    refine bodyPost_ret (results_none rfl _ _ _) rfl ?_
    exact ⟨rfl, H3.out⟩

set_option maxRecDepth 100000 in
set_option maxHeartbeats 2000000 in
theorem markGone_any {w0 : World} {S g m : Nat} {l : List Int} {t : Tk} {wi : World} (H : SS w0 S g m l t wi) (hok : t.ok = true) :
    Calls Try.prog 97 #[.pointer (some ⟨S, 0, none⟩)] wi fun e w' => e = .returned (.tuple #[]) ∧ SS w0 S g m (swapW l t.cur (2 * t.next) (2 * t.next + 1)).1 (if (swapW l t.cur (2 * t.next) (2 * t.next + 1)).2 then { t with pc := 6 } else { t with pc := 0 }) w' := by
  obtain ⟨_, _, _, _, _, _, hcur, hnext, _⟩ := Tk.ok_iff.1 hok
  have C1 : Hid (∀ w, Calls Try.prog 124 #[.int .i64 t.next] w fun e w' => e = .returned (.int .i64 (2 * t.next)) ∧ w' = w) := wordTo_any t.next hnext
  have c2 := swapNext_any (H.next (drewB _)) t.cur t.next (2 * t.next + 1) hcur hnext
  obtain ⟨M, b, hMb⟩ : ∃ M b, swapW l t.cur (2 * t.next) (2 * t.next + 1) = (M, b) := ⟨_, _, rfl⟩
  rw [hMb] at c2 ⊢
  dsimp only at c2 ⊢
  obtain ⟨_, _, _, _, _, _, b6, b7, _⟩ := H.box.cells
  have hwr : IntKind.i64.wrap (2 * t.next + 1) = 2 * t.next + 1 := by rw [IntKind.wrap_i64]; omega
  have hn1 := hnext.1
  have hn2 := hnext.2
  clear H hok hnext hcur hMb
  cases b with
  | true =>
    go_enter Try.func97, Try.ntmps97
    go_wp2
    refine wp_region_still_tail 18 (by kernel_rfl) (by kernel_rfl) ?_
    simp only [List.take_succ_cons, List.take_zero, List.drop_succ_cons, List.drop_zero]
    repeat (first | still_step | still_call (C1.out _))
    try refine wpStill_nil ?_
    go_wp2_with fail
    refine c2.mono ?_
    rintro e w1 ⟨rfl, H1⟩
    obtain ⟨⟨f1, f2⟩, H3⟩ := H1.pcTo 6
    clear c2 b6 b7 H1
    go_wp2
    go_end0
    exact ⟨rfl, H3.out⟩
  | false =>
    go_enter Try.func97, Try.ntmps97
    go_wp2
    refine wp_region_still_tail 18 (by kernel_rfl) (by kernel_rfl) ?_
    simp only [List.take_succ_cons, List.take_zero, List.drop_succ_cons, List.drop_zero]
    repeat (first | still_step | still_call (C1.out _))
    try refine wpStill_nil ?_
    go_wp2_with fail
    refine c2.mono ?_
    rintro e w1 ⟨rfl, H1⟩
    obtain ⟨⟨f1, f2⟩, H3⟩ := H1.pcTo 0
    clear c2 b6 b7 H1
    go_wp2
    refine bodyPost_end (results_none rfl _ _ _) rfl ?_
    dsimp only
    go_wp2
    (try simp only [Exit.inBlock, Exit.then])
    refine bodyPost_ret (results_none rfl _ _ _) rfl ?_
    exact ⟨rfl, H3.out⟩

set_option maxRecDepth 100000 in
set_option maxHeartbeats 2000000 in
theorem lift_any {w0 : World} {S g m : Nat} {l : List Int} {t : Tk} {wi : World} (H : SS w0 S g m l t wi) (hok : t.ok = true) :
    Calls Try.prog 98 #[.pointer (some ⟨S, 0, none⟩)] wi fun e w' => e = .returned (.tuple #[]) ∧ SS w0 S g m (swapW l t.prev (2 * t.cur) (2 * t.next)).1 { t with done := true, ans := 1 } w' := by
  obtain ⟨_, _, _, _, _, hprev, hcur, hnext, _⟩ := Tk.ok_iff.1 hok
  have C1 : Hid (∀ w, Calls Try.prog 124 #[.int .i64 t.next] w fun e w' => e = .returned (.int .i64 (2 * t.next)) ∧ w' = w) := wordTo_any t.next hnext
  have c2 := swapNext_any (H.next (drewB _)) t.prev t.cur (2 * t.next) hprev hcur
  obtain ⟨M, b, hMb⟩ : ∃ M b, swapW l t.prev (2 * t.cur) (2 * t.next) = (M, b) := ⟨_, _, rfl⟩
  rw [hMb] at c2 ⊢
  dsimp only at c2 ⊢
  obtain ⟨_, _, _, _, _, b5, b6, b7, _⟩ := H.box.cells
  clear H hok hprev hcur hnext hMb
  cases b with
  | true =>
    go_enter Try.func98, Try.ntmps98
    go_wp2
    refine wp_region_still_tail 17 (by kernel_rfl) (by kernel_rfl) ?_
    simp only [List.take_succ_cons, List.take_zero, List.drop_succ_cons, List.drop_zero]
    repeat (first | still_step | still_call (C1.out _))
    try refine wpStill_nil ?_
    go_wp2_with fail
    refine c2.mono ?_
    rintro e w1 ⟨rfl, H1⟩
    obtain ⟨⟨f1, f2, f3, f4⟩, H3⟩ := H1.fin 1
    clear c2 b5 b6 b7 H1
    go_wp2
    refine bodyPost_end (results_none rfl _ _ _) rfl ?_
    dsimp only
    go_wp2
    go_end0
    exact ⟨rfl, H3.out⟩
  | false =>
    go_enter Try.func98, Try.ntmps98
    go_wp2
    refine wp_region_still_tail 17 (by kernel_rfl) (by kernel_rfl) ?_
    simp only [List.take_succ_cons, List.take_zero, List.drop_succ_cons, List.drop_zero]
    repeat (first | still_step | still_call (C1.out _))
    try refine wpStill_nil ?_
    go_wp2_with fail
    refine c2.mono ?_
    rintro e w1 ⟨rfl, H1⟩
    obtain ⟨⟨f1, f2, f3, f4⟩, H3⟩ := H1.fin 1
    clear c2 b5 b6 b7 H1
    go_wp2
    refine bodyPost_end (results_none rfl _ _ _) rfl ?_
    dsimp only
    go_wp2
    go_end0
    exact ⟨rfl, H3.out⟩

end Go.Proofs.Ytockgojdmaladab
