/- A step that meets its key: the program's. -/
import Derived.Test.YtockgojdmaladabStepPass
namespace Go.Proofs.Ytockgojdmaladab
open Go.RowKit Go.Sort

theorem foundN {l : List Int} {t : Tk} (h : ¬ cellL6 l (3 * t.cur) = t.key) : foundL l t = nobodyL l t := by unfold foundL; rw [if_neg h]
theorem found1 {l : List Int} {t : Tk} (h : cellL6 l (3 * t.cur) = t.key) (hk : t.kind = 1) : foundL l t = (l, { t with done := true, ans := cellL6 l (3 * t.cur + 1) + 1 }) := by unfold foundL; rw [if_pos h, if_pos hk]
theorem found2 {l : List Int} {t : Tk} (h : cellL6 l (3 * t.cur) = t.key) (hk : t.kind = 2) : foundL l t = (l, { t with done := true, ans := 0 }) := by unfold foundL; rw [if_pos h, if_neg (by omega), if_pos hk]
theorem found3 {l : List Int} {t : Tk} (h : cellL6 l (3 * t.cur) = t.key) (hk : t.kind = 3) : foundL l t = (l, { t with pc := 5 }) := by unfold foundL; rw [if_pos h, if_neg (by omega), if_neg (by omega)]

set_option maxRecDepth 100000 in
set_option maxHeartbeats 4000000 in
theorem meet_any {w0 : World} {S g m : Nat} {l : List Int} {t : Tk} {wi : World} (H : SS w0 S g m l t wi) (hok : t.ok = true) (hl : okC l = true) :
    Calls Try.prog 95 #[.pointer (some ⟨S, 0, none⟩)] wi fun e w' => e = .returned (.tuple #[]) ∧ SS w0 S g m (foundL l t).1 (foundL l t).2 w' := by
  obtain ⟨hkind, _, _, _, _, _, hcur, _⟩ := Tk.ok_iff.1 hok
  obtain ⟨_, b1, _, _, _, _, b6, _⟩ := H.box.cells
  obtain ⟨K1, K2⟩ := key_calls H t.cur hcur
  have g1 := fun d os => cell_regrown b1 d os
  have g6 := fun d os => cell_regrown b6 d os
  obtain ⟨x, hx⟩ : ∃ x, cellL6 l (3 * t.cur) = x := ⟨_, rfl⟩
  rw [hx] at K2
  have HX : Hid (cellL6 l (3 * t.cur) = x) := hx
  have HH : Hid (SS w0 S g m l t wi ∧ (0 ≤ t.cur ∧ t.cur ≤ 20) ∧ t.ok = true ∧ okC l = true ∧ (1 ≤ t.kind ∧ t.kind ≤ 3)) := ⟨H, hcur, hok, hl, hkind⟩
  clear H hcur hok hl hx hkind
  by_cases hne : x = t.key
  case neg =>
    have HV := foundN (l := l) (t := t) (by rw [HX.out]; exact hne)
    rw [HV]
    have hd : (x != t.key) = true := by simpa using hne
    clear HV
    go_enter Try.func95, Try.ntmps95
    go_wp2
    refine wp_region_quiet_below (by kernel_rfl) (by kernel_rfl) ?_
    repeat (first | go_big_quiet_step (first | exact K1.out _ _ | exact K2.out _ _) | quiet_step (first | exact K1.out _ _ | exact K2.out _ _))
    refine wpQuiet_nil ?_
    intro _ hw'
    obtain ⟨⟨dq, osq⟩, hw''⟩ := hw'
    subst hw''
    have H1 := HH.out.1.next (below_regrown wi dq osq)
    obtain ⟨wq, hwq⟩ : ∃ wq, grow (redrawn wi dq) osq = wq := ⟨_, rfl⟩
    rw [hwq] at H1 ⊢
    have c1 := nobodyThere_any H1 HH.out.2.2.1
    clear b1 b6 K1 K2 hwq g1 g6 H1
    go_wp2_with fail
    refine c1.mono ?_
    rintro e w1 ⟨rfl, H2⟩
    have H4 : Hid (SS w0 S g m _ _ w1) := H2
    clear H2 c1
    go_wp2
    (try simp only [Exit.inBlock, Exit.then])
    refine bodyPost_ret (results_none rfl _ _ _) rfl ?_
    exact ⟨rfl, H4.out⟩
  case pos =>
    have HN : Hid (cellL6 l (3 * t.cur) = t.key) := HX.out.trans hne
    subst hne
    have hkc : t.kind = 1 ∨ t.kind = 2 ∨ t.kind = 3 := by have := HH.out.2.2.2.2; omega
    rcases hkc with hk | hk | hk
    · rw [found1 HN.out hk]
      have hp : ((3 * t.cur + 1).toNat : Int) = 3 * t.cur + 1 := by have := HH.out.2.1; omega
      have hyb := okC_cell HH.out.2.2.2.1 (j := (3 * t.cur + 1).toNat) (by rw [HH.out.1.len]; have := HH.out.2.1; omega)
      obtain ⟨y, hy⟩ : ∃ y, l.getD (3 * t.cur + 1).toNat 0 = y := ⟨_, rfl⟩
      have HY : Hid (cellL6 l (3 * t.cur + 1) = y) := hy
      rw [HY.out]
      have HYY : Hid (l.getD (3 * t.cur + 1).toNat 0 = y) := hy
      have HP : Hid (((3 * t.cur + 1).toNat : Int) = 3 * t.cur + 1) := hp
      rw [hy] at hyb
      have hy0 := hyb.1
      have hy1 := hyb.2
      have hc0 := HH.out.2.1.1
      have hc1 := HH.out.2.1.2
      have HK : Hid (t.kind = 1) := hk
      clear hk hp hyb hy HX HN
      dsimp only
      go_enter Try.func95, Try.ntmps95
      go_wp2
      refine wp_region_quiet_below (by kernel_rfl) (by kernel_rfl) ?_
      repeat (first | go_big_quiet_step (first | exact K1.out _ _ | exact K2.out _ _) | quiet_step (first | exact K1.out _ _ | exact K2.out _ _))
      refine wpQuiet_nil ?_
      intro _ hw'
      obtain ⟨⟨dq, osq⟩, hw''⟩ := hw'
      subst hw''
      have H1 := HH.out.1.next (below_regrown wi dq osq)
      obtain ⟨wq, hwq⟩ : ∃ wq, grow (redrawn wi dq) osq = wq := ⟨_, rfl⟩
      rw [hwq] at H1 ⊢
      clear b1 b6 K1 K2 hwq g1 g6
      obtain ⟨b0, _, _, _, _, _, b6, _⟩ := H1.box.cells
      rw [HK.out] at b0
      have c2 := load_any H1 (p := (3 * t.cur + 1).toNat) (by omega)
      rw [HP.out, HYY.out] at c2
      have c1 := valueCell_any t.cur ⟨hc0, hc1⟩ wq
      have HKK : Hid (SS w0 S g m l t wq) := H1
      clear H1
      go_wp2_with fail
      refine c1.mono ?_
      rintro e w1 ⟨rfl, rfl⟩
      clear c1
      go_wp2_with fail
      refine c2.mono ?_
      rintro e w2 ⟨rfl, hb2⟩
      obtain ⟨⟨f1, f2, f3, f4⟩, H3⟩ := (HKK.out.next hb2).fin (y + 1)
      clear c2 hb2 b0 b6
      go_wp2
      refine bodyPost_end (results_none rfl _ _ _) rfl ?_
      dsimp only
      go_wp2
      go_end0
      exact ⟨rfl, H3.out⟩
    · rw [found2 HN.out hk]
      have HK : Hid (t.kind = 2) := hk
      clear hk HX HN
      dsimp only
      go_enter Try.func95, Try.ntmps95
      go_wp2
      refine wp_region_quiet_below (by kernel_rfl) (by kernel_rfl) ?_
      repeat (first | go_big_quiet_step (first | exact K1.out _ _ | exact K2.out _ _) | quiet_step (first | exact K1.out _ _ | exact K2.out _ _))
      refine wpQuiet_nil ?_
      intro _ hw'
      obtain ⟨⟨dq, osq⟩, hw''⟩ := hw'
      subst hw''
      have H1 := HH.out.1.next (below_regrown wi dq osq)
      obtain ⟨wq, hwq⟩ : ∃ wq, grow (redrawn wi dq) osq = wq := ⟨_, rfl⟩
      rw [hwq] at H1 ⊢
      clear b1 b6 K1 K2 hwq g1 g6
      obtain ⟨b0, _, _, _, _, _, b6, _⟩ := H1.box.cells
      rw [HK.out] at b0
      obtain ⟨⟨f1, f2, f3, f4⟩, H3⟩ := H1.fin 0
      clear H1
      go_wp2
      refine bodyPost_end (results_none rfl _ _ _) rfl ?_
      dsimp only
      go_wp2
      go_end0
      exact ⟨rfl, H3.out⟩
    · rw [found3 HN.out hk]
      have HK : Hid (t.kind = 3) := hk
      clear hk HX HN
      dsimp only
      go_enter Try.func95, Try.ntmps95
      go_wp2
      refine wp_region_quiet_below (by kernel_rfl) (by kernel_rfl) ?_
      repeat (first | go_big_quiet_step (first | exact K1.out _ _ | exact K2.out _ _) | quiet_step (first | exact K1.out _ _ | exact K2.out _ _))
      refine wpQuiet_nil ?_
      intro _ hw'
      obtain ⟨⟨dq, osq⟩, hw''⟩ := hw'
      subst hw''
      have H1 := HH.out.1.next (below_regrown wi dq osq)
      obtain ⟨wq, hwq⟩ : ∃ wq, grow (redrawn wi dq) osq = wq := ⟨_, rfl⟩
      rw [hwq] at H1 ⊢
      clear b1 b6 K1 K2 hwq g1 g6
      obtain ⟨b0, _, _, _, _, _, b6, _⟩ := H1.box.cells
      rw [HK.out] at b0
      obtain ⟨⟨f1, f2⟩, H3⟩ := H1.pcTo 5
      clear H1
      go_wp2
      go_end0
      exact ⟨rfl, H3.out⟩
end Go.Proofs.Ytockgojdmaladab
