/- A step that reads: the program's. -/
import Derived.Test.YtockgojdmaladabStepNobody
import Derived.Test.YtockgojdmaladabStepSpec
namespace Go.Proofs.Ytockgojdmaladab
open Go.RowKit Go.Sort

set_option maxRecDepth 100000 in
set_option maxHeartbeats 2000000 in
theorem atHead_any {w0 : World} {S g m : Nat} {l : List Int} {t : Tk} {wi : World} (H : SS w0 S g m l t wi) (hl : okC l = true) :
    Calls Try.prog 92 #[.pointer (some ⟨S, 0, none⟩)] wi fun e w' => e = .returned (.tuple #[]) ∧ SS w0 S g m l { t with prev := 0, cur := nodeC (cellL6 l 0), pc := 1 } w' := by
  obtain ⟨_, _, _, _, _, b5, _⟩ := H.box.cells
  have y5 := H.box.thaw 7
  have H1 := H.setT 7 (.int .i64 0) { t with prev := 0 } (fun _ _ => rfl)
  obtain ⟨wA, hwA⟩ : ∃ wA, wi.setCell ⟨S, 7, none⟩ (.int .i64 0) = wA := ⟨_, rfl⟩
  rw [hwA] at H1
  have HWA : Hid (wi.setCell ⟨S, 7, none⟩ (.int .i64 0) = wA) := hwA
  have hxb := okC_cell hl (j := 0) (by rw [H.len]; omega)
  obtain ⟨x, hx⟩ : ∃ x, l.getD 0 0 = x := ⟨_, rfl⟩
  have hcx : cellL6 l 0 = x := hx
  have c1 : Calls Try.prog 101 #[.int .i64 0] wA fun e w' => e = .returned (.int .i64 0) ∧ w' = wA := wordCell_any 0 (by omega) wA
  have c2 : Calls Try.prog 121 #[.pointer (some ⟨S, 0, none⟩), .int .i64 0] wA fun e w' => e = .returned (.int .i64 x) ∧ Below wA.heap.size wA w' := by
    have := load_any H1 (p := 0) (by omega)
    rw [hx] at this
    exact this
  rw [hx] at hxb
  rw [hcx]
  have C3 : Hid (∀ w, Calls Try.prog 100 #[.int .i64 x] w fun e w' => e = .returned (.int .i64 (nodeC x)) ∧ w' = w) := nodeOf_any x (by omega)
  obtain ⟨nx, hnx⟩ : ∃ nx, nodeC x = nx := ⟨_, rfl⟩
  rw [hnx] at C3 ⊢
  clear H hwA hx hcx hnx hxb hl
  go_enter Try.func92, Try.ntmps92
  go_wp2_with fail
  rw [HWA.out]
  refine c1.mono ?_
  rintro e w1 ⟨rfl, rfl⟩
  go_wp2_with fail
  refine c2.mono ?_
  rintro e w2 ⟨rfl, hb2⟩
  go_wp2_with fail
  refine (C3.out _).mono ?_
  rintro e w3 ⟨rfl, rfl⟩
  obtain ⟨⟨f1, f2, f3, f4⟩, H3⟩ := (H1.next hb2).on nx
  clear c1 c2 C3 H1 hb2
  go_wp2
  refine bodyPost_end (results_none rfl _ _ _) rfl ?_
  dsimp only
  go_wp2
  go_end0
  exact ⟨rfl, H3.out⟩

set_option maxRecDepth 100000 in
set_option maxHeartbeats 2000000 in
theorem readWord_any {w0 : World} {S g m : Nat} {l : List Int} {t : Tk} {wi : World} (H : SS w0 S g m l t wi) (hok : t.ok = true) (hl : okC l = true) (hpc : t.pc = 1) :
    Calls Try.prog 93 #[.pointer (some ⟨S, 0, none⟩)] wi fun e w' => e = .returned (.tuple #[]) ∧ SS w0 S g m (goL l t).1 (goL l t).2 w' := by
  obtain ⟨_, _, _, _, _, _, hcur, _⟩ := Tk.ok_iff.1 hok
  by_cases hc : t.cur = 0
  · rw [goL1 hpc hc]
    have c1 := nobodyThere_any H hok
    obtain ⟨_, _, _, _, _, _, b6, _⟩ := H.box.cells
    rw [hc] at b6
    clear H hcur
    go_enter Try.func93, Try.ntmps93
    go_wp2_with fail
    refine c1.mono ?_
    rintro e w1 ⟨rfl, H1⟩
    have H4 : Hid (SS w0 S g m _ _ w1) := H1
    clear H1 c1
    go_wp2
    (try simp only [Exit.inBlock, Exit.then])
    refine bodyPost_ret (results_none rfl _ _ _) rfl ?_
    exact ⟨rfl, H4.out⟩
  · rw [goL1' hpc hc]
    obtain ⟨j, hj, hj63⟩ := word_nat6 hcur
    have hxb := okC_cell hl (j := j) (by rw [H.len]; omega)
    obtain ⟨x, hx⟩ : ∃ x, l.getD j 0 = x := ⟨_, rfl⟩
    have hcx : cellL6 l (wordC t.cur) = x := by rw [hj]; exact hx
    rw [hx] at hxb
    rw [hcx]
    have c1 := wordCell_any t.cur hcur wi
    rw [hj] at c1
    have c2 := load_any H hj63
    rw [hx] at c2
    have C3 : Hid (∀ w, Calls Try.prog 100 #[.int .i64 x] w fun e w' => e = .returned (.int .i64 (nodeC x)) ∧ w' = w) := nodeOf_any x (by omega)
    obtain ⟨nx, hnx⟩ : ∃ nx, nodeC x = nx := ⟨_, rfl⟩
    rw [hnx] at C3 ⊢
    have h1 := i64_and1 x
    obtain ⟨_, _, _, _, _, _, b6, _⟩ := H.box.cells
    clear hx hcx hnx hxb hl hcur hj
    go_enter Try.func93, Try.ntmps93
    go_wp2_with fail
    refine c1.mono ?_
    rintro e w1 ⟨rfl, rfl⟩
    go_wp2_with fail
    refine c2.mono ?_
    rintro e w2 ⟨rfl, hb2⟩
    have H2 := H.next hb2
    clear c1 c2 b6 H hb2
    go_wp2_with fail
    refine (C3.out _).mono ?_
    rintro e w3 ⟨rfl, rfl⟩
    obtain ⟨_, _, _, _, _, _, _, b7, _⟩ := H2.box.cells
    have y7 := H2.box.thaw 9
    have H3 := H2.setT 9 (.int .i64 nx) { t with next := nx } (fun _ _ => rfl)
    obtain ⟨_, _, _, _, _, _, _, _, f8, _⟩ := H3.box.cells
    have y8 := H3.box.thaw 10
    have H4 := H3.setT 10 (.int .i64 (x % 2)) { t with next := nx, mark := x % 2 } (fun _ _ => rfl)
    obtain ⟨⟨f4, y4⟩, H5⟩ := H4.pcTo 2
    clear H2 H3 H4 C3
    go_wp2
    go_end0
    exact ⟨rfl, H5.out⟩
end Go.Proofs.Ytockgojdmaladab
