/- One step of a task: the other text. -/
import Derived.Test.YtockgojdmaladabListSpec
namespace Go.Proofs.Ytockgojdmaladab
open Go.RowKit Go.Sort

theorem goL0 {l : List Int} {t : Tk} (h : t.pc = 0) : goL l t = (l, { t with prev := 0, cur := nodeC (cellL6 l 0), pc := 1 }) := by unfold goL; rw [if_pos h]
theorem goL1 {l : List Int} {t : Tk} (h : t.pc = 1) (hc : t.cur = 0) : goL l t = nobodyL l t := by unfold goL; rw [if_neg (by omega), if_pos h, if_pos hc]
theorem goL1' {l : List Int} {t : Tk} (h : t.pc = 1) (hc : ¬ t.cur = 0) : goL l t = (l, { t with next := nodeC (cellL6 l (wordC t.cur)), mark := cellL6 l (wordC t.cur) % 2, pc := 2 }) := by unfold goL; rw [if_neg (by omega), if_pos h, if_neg hc]
theorem goL2 {l : List Int} {t : Tk} (h : t.pc = 2) : goL l t = lookL l t := by unfold goL; rw [if_neg (by omega), if_neg (by omega), if_pos h]
theorem goL3 {l : List Int} {t : Tk} (h : t.pc = 3) : goL l t = foundL l t := by unfold goL; rw [if_neg (by omega), if_neg (by omega), if_neg (by omega), if_pos h]
theorem goL4 {l M : List Int} {t : Tk} {b : Bool} (h : t.pc = 4) (hs : swapW l t.prev (2 * t.cur) (2 * t.node) = (M, b)) : goL l t = (M, if b then { t with done := true, ans := 1 } else { t with pc := 0 }) := by
  unfold goL; rw [if_neg (by omega), if_neg (by omega), if_neg (by omega), if_neg (by omega), if_pos h, hs]; cases b <;> rfl
theorem goL5 {l M : List Int} {t : Tk} {b : Bool} (h : t.pc = 5) (hs : swapW l t.cur (2 * t.next) (2 * t.next + 1) = (M, b)) : goL l t = (M, if b then { t with pc := 6 } else { t with pc := 0 }) := by
  unfold goL; rw [if_neg (by omega), if_neg (by omega), if_neg (by omega), if_neg (by omega), if_neg (by omega), if_pos h, hs]; cases b <;> rfl
theorem goL6 {l M : List Int} {t : Tk} {b : Bool} (h : t.pc = 6) (hs : swapW l t.prev (2 * t.cur) (2 * t.next) = (M, b)) : goL l t = (M, { t with done := true, ans := 1 }) := by
  unfold goL; rw [if_neg (by omega), if_neg (by omega), if_neg (by omega), if_neg (by omega), if_neg (by omega), if_neg (by omega), hs]

set_option maxRecDepth 100000 in
set_option maxHeartbeats 4000000 in
theorem l06Step_any {w0 ws : World} {g cp : Nat} {l : List Int} {T : Nat} {t : Tk} {wi : World} (H : LT w0 ws g cp l T t wi) (hok : t.ok = true) (hl : okC l = true) :
    Calls Try.prog 70 #[.slice (some ⟨g, 0, none⟩) 63 cp, .pointer (some ⟨T, 0, none⟩)] wi fun e w' => e = .returned (.tuple #[]) ∧ LT w0 ws g cp (goL l t).1 T (goL l t).2 w' := by
  have HOK : Hid (t.ok = true) := hok
  have HLL : Hid (okC l = true) := hl
  have hll := H.len
  obtain ⟨hkind, hkey, hval, hnode, hpc, hprev, hcur, hnext, hmark⟩ := Tk.ok_iff.1 hok
  have hdr : ∀ w : World, Below w.heap.size w w.drew := fun w => ⟨rfl, rfl, rfl, Nat.le_refl _, fun _ _ => rfl⟩
  clear hok hl
  have hcs : t.pc = 0 ∨ t.pc = 1 ∨ t.pc = 2 ∨ t.pc = 3 ∨ t.pc = 4 ∨ t.pc = 5 ∨ t.pc = 6 := by omega
  rcases hcs with h | h | h | h | h | h | h
  · rw [goL0 h]
    obtain ⟨kind, key, val, node, pc, prev, cur, next, mark, done, ans⟩ := t
    dsimp only at h ⊢
    subst h
    obtain ⟨_, _, _, _, b4, b5, _⟩ := H.box.cells
    dsimp only at b4 b5
    have y5 := H.box.thaw 5
    have H1 := H.setT 5 (.int .i64 0) ⟨kind, key, val, node, 0, 0, cur, next, mark, done, ans⟩ rfl
    obtain ⟨wA, hwA⟩ : ∃ wA, wi.setCell ⟨T, 5, none⟩ (.int .i64 0) = wA := ⟨_, rfl⟩
    rw [hwA] at H1
    have HWA : Hid (wi.setCell ⟨T, 5, none⟩ (.int .i64 0) = wA) := hwA
    obtain ⟨q0, _⟩ := H.cell (j := 0) (by omega)
    have hxb := okC_cell HLL.out (j := 0) (by omega)
    obtain ⟨x, hx⟩ : ∃ x, l.getD 0 0 = x := ⟨_, rfl⟩
    have hcx : cellL6 l 0 = x := hx
    rw [hx] at q0 hxb
    obtain ⟨q0', _⟩ := H1.cell (j := 0) (by omega)
    rw [hx] at q0'
    rw [hcx]
    have c1 := l06Node_any x (by omega) wA
    obtain ⟨nx, hnx⟩ : ∃ nx, nodeC x = nx := ⟨_, rfl⟩
    rw [hnx] at c1 ⊢
    obtain ⟨_, _, _, _, _, _, f6, _⟩ := H1.box.cells
    have y6 := H1.box.thaw 6
    have H2 := H1.setT 6 (.int .i64 nx) ⟨kind, key, val, node, 0, 0, nx, next, mark, done, ans⟩ rfl
    obtain ⟨_, _, _, _, f4, _⟩ := H2.box.cells
    have y4 := H2.box.thaw 4
    have H4 : Hid (LT w0 ws g cp l T ⟨kind, key, val, node, 1, 0, nx, next, mark, done, ans⟩ ((wA.setCell ⟨T, 6, none⟩ (.int .i64 nx)).setCell ⟨T, 4, none⟩ (.int .i64 1))) := H2.setT 4 (.int .i64 1) ⟨kind, key, val, node, 1, 0, nx, next, mark, done, ans⟩ rfl
    clear H H1 H2 hwA hx hcx hnx hxb hll hdr
    go_enter Try.func70, Try.ntmps70
    go_wp2_with fail
    rw [HWA.out]
    refine c1.mono ?_
    rintro e w1 ⟨rfl, rfl⟩
    clear c1
    go_wp2
    go_end0
    exact ⟨rfl, H4.out⟩
  · by_cases hc : t.cur = 0
    · rw [goL1 h hc]
      have c1 := l06Nobody_any H HOK.out
      obtain ⟨_, _, _, _, b4, _, b6, _⟩ := H.box.cells
      rw [h] at b4
      rw [hc] at b6
      clear H
      go_enter Try.func70, Try.ntmps70
      go_wp2_with fail
      refine c1.mono ?_
      rintro e w1 ⟨rfl, H1⟩
      have H4 : Hid (LT w0 ws g cp _ T _ w1) := H1
      clear H1 c1
      go_wp2
      (try simp only [Exit.inBlock, Exit.then])
      refine bodyPost_ret (results_none rfl _ _ _) rfl ?_
      exact ⟨rfl, H4.out⟩
    · rw [goL1' h hc]
      obtain ⟨kind, key, val, node, pc, prev, cur, next, mark, done, ans⟩ := t
      dsimp only at h hc hcur ⊢
      subst h
      obtain ⟨_, _, _, _, b4, _, b6, b7, _⟩ := H.box.cells
      dsimp only at b4 b6 b7
      have y7 := H.box.thaw 7
      obtain ⟨j, hj, hj63⟩ := word_nat hcur
      obtain ⟨q0, _⟩ := H.cell hj63
      have hxb := okC_cell HLL.out (j := j) (by omega)
      obtain ⟨x, hx⟩ : ∃ x, l.getD j 0 = x := ⟨_, rfl⟩
      have hcx : cellL6 l (wordC cur) = x := by rw [hj]; exact hx
      rw [hx] at q0 hxb
      rw [hcx]
      have c0 := l06Word_any cur hcur wi
      rw [hj] at c0
      have c1 := l06Node_any x (by omega) wi
      obtain ⟨nx, hnx⟩ : ∃ nx, nodeC x = nx := ⟨_, rfl⟩
      rw [hnx] at c1 ⊢
      have H1 := H.setT 7 (.int .i64 nx) ⟨kind, key, val, node, 1, prev, cur, nx, mark, done, ans⟩ rfl
      obtain ⟨_, _, _, _, _, _, _, _, f8, _⟩ := H1.box.cells
      have y8 := H1.box.thaw 8
      have H2 := H1.setT 8 (.int .i64 (x % 2)) ⟨kind, key, val, node, 1, prev, cur, nx, x % 2, done, ans⟩ rfl
      obtain ⟨_, _, _, _, f4, _⟩ := H2.box.cells
      have y4 := H2.box.thaw 4
      have H4 : Hid (LT w0 ws g cp l T ⟨kind, key, val, node, 2, prev, cur, nx, x % 2, done, ans⟩ (((wi.setCell ⟨T, 7, none⟩ (.int .i64 nx)).setCell ⟨T, 8, none⟩ (.int .i64 (x % 2))).setCell ⟨T, 4, none⟩ (.int .i64 2))) := H2.setT 4 (.int .i64 2) ⟨kind, key, val, node, 2, prev, cur, nx, x % 2, done, ans⟩ rfl
      have hx0 := hxb.1
      have hx1 := hxb.2
      have hi1 : (0 : Int) ≤ (j : Int) := by omega
      have hi2 : (j : Int) < 63 := by omega
      clear H H1 H2 hx hcx hnx hll hdr hj hcur
      go_enter Try.func70, Try.ntmps70
      go_wp2_with fail
      refine c0.mono ?_
      rintro e w1 ⟨rfl, rfl⟩
      go_wp2_with fail
      refine c1.mono ?_
      rintro e w1 ⟨rfl, rfl⟩
      clear c1 c0
      go_wp2
      go_end0
      exact ⟨rfl, H4.out⟩
  · rw [goL2 h]
    have c1 := l06Look_any H HOK.out
    obtain ⟨_, _, _, _, b4, _⟩ := H.box.cells
    rw [h] at b4
    clear H
    go_enter Try.func70, Try.ntmps70
    go_wp2_with fail
    refine c1.mono ?_
    rintro e w1 ⟨rfl, H1⟩
    have H4 : Hid (LT w0 ws g cp _ T _ w1) := H1
    clear H1 c1
    go_wp2
    go_end0
    exact ⟨rfl, H4.out⟩
  · rw [goL3 h]
    have c1 := l06Found_any H HOK.out HLL.out
    obtain ⟨_, _, _, _, b4, _⟩ := H.box.cells
    rw [h] at b4
    clear H
    go_enter Try.func70, Try.ntmps70
    go_wp2_with fail
    refine c1.mono ?_
    rintro e w1 ⟨rfl, H1⟩
    have H4 : Hid (LT w0 ws g cp _ T _ w1) := H1
    clear H1 c1
    go_wp2
    go_end0
    exact ⟨rfl, H4.out⟩
  · obtain ⟨M, b, hMb⟩ : ∃ M b, swapW l t.prev (2 * t.cur) (2 * t.node) = (M, b) := ⟨_, _, rfl⟩
    rw [goL4 h hMb]
    have c1 := l06Swap_any (H.drew (hdr _)) t.prev (2 * t.cur) (2 * t.node) hprev
    rw [hMb] at c1
    obtain ⟨kind, key, val, node, pc, prev, cur, next, mark, done, ans⟩ := t
    dsimp only at h hcur hnode c1 ⊢
    subst h
    obtain ⟨_, _, _, b3, b4, b5, b6, _⟩ := H.box.cells
    dsimp only at b3 b4 b5 b6
    have hc0 := hcur.1
    have hc1 := hcur.2
    have hc2 := hnode.1
    have hc3 := hnode.2
    clear H hMb hll hdr hcur hnode hkind hkey hval hprev hnext hmark
    cases b with
    | true =>
      go_enter Try.func70, Try.ntmps70
      go_wp2
      go_still_tail 15, (by kernel_rfl)
      go_wp2_with fail
      refine c1.mono ?_
      rintro e w2 ⟨rfl, H2⟩
      obtain ⟨_, _, _, _, _, _, _, _, _, f9, _⟩ := H2.box.cells
      have y9 := H2.box.thaw 9
      have H3 := H2.setT 9 (.bool true) ⟨kind, key, val, node, 4, prev, cur, next, mark, true, ans⟩ rfl
      obtain ⟨_, _, _, _, _, _, _, _, _, _, f10⟩ := H3.box.cells
      have y10 := H3.box.thaw 10
      have H4 : Hid (LT w0 ws g cp M T ⟨kind, key, val, node, 4, prev, cur, next, mark, true, 1⟩ ((w2.setCell ⟨T, 9, none⟩ (.bool true)).setCell ⟨T, 10, none⟩ (.int .i64 1))) := H3.setT 10 (.int .i64 1) ⟨kind, key, val, node, 4, prev, cur, next, mark, true, 1⟩ rfl
      clear H2 H3 c1
      go_wp2
      (try simp only [Exit.inBlock, Exit.then])
      refine bodyPost_ret (results_none rfl _ _ _) rfl ?_
      exact ⟨rfl, H4.out⟩
    | false =>
      go_enter Try.func70, Try.ntmps70
      go_wp2
      go_still_tail 15, (by kernel_rfl)
      go_wp2_with fail
      refine c1.mono ?_
      rintro e w2 ⟨rfl, H2⟩
      obtain ⟨_, _, _, _, f4, _⟩ := H2.box.cells
      have y4 := H2.box.thaw 4
      have H4 : Hid (LT w0 ws g cp M T ⟨kind, key, val, node, 0, prev, cur, next, mark, done, ans⟩ (w2.setCell ⟨T, 4, none⟩ (.int .i64 0))) := H2.setT 4 (.int .i64 0) ⟨kind, key, val, node, 0, prev, cur, next, mark, done, ans⟩ rfl
      clear H2 c1
      go_wp2
      go_end0
      exact ⟨rfl, H4.out⟩
  · obtain ⟨M, b, hMb⟩ : ∃ M b, swapW l t.cur (2 * t.next) (2 * t.next + 1) = (M, b) := ⟨_, _, rfl⟩
    rw [goL5 h hMb]
    obtain ⟨kind, key, val, node, pc, prev, cur, next, mark, done, ans⟩ := t
    dsimp only at h hcur hnext hMb ⊢
    subst h
    obtain ⟨_, _, _, _, b4, _⟩ := H.box.cells
    dsimp only at b4
    have y4 := H.box.thaw 4
    have H1 := H.setT 4 (.int .i64 0) ⟨kind, key, val, node, 0, prev, cur, next, mark, done, ans⟩ rfl
    obtain ⟨wA, hwA⟩ : ∃ wA, wi.setCell ⟨T, 4, none⟩ (.int .i64 0) = wA := ⟨_, rfl⟩
    rw [hwA] at H1
    have HWA : Hid (wi.setCell ⟨T, 4, none⟩ (.int .i64 0) = wA) := hwA
    have c1 := l06Swap_any (H1.drew (hdr _)) cur (2 * next) (2 * next + 1) hcur
    rw [hMb] at c1
    dsimp only at c1
    obtain ⟨_, _, _, _, _, _, f6, f7, _⟩ := H1.box.cells
    dsimp only at f6 f7
    have hc0 := hcur.1
    have hc1 := hcur.2
    have hc2 := hnext.1
    have hc3 := hnext.2
    clear H H1 hMb hll hdr hcur hnode hkind hkey hval hprev hnext hmark hwA
    cases b with
    | true =>
      go_enter Try.func70, Try.ntmps70
      go_wp2
      rw [HWA.out]
      go_still_tail 16, (by kernel_rfl)
      go_wp2_with fail
      refine c1.mono ?_
      rintro e w2 ⟨rfl, H2⟩
      obtain ⟨_, _, _, _, e4, _⟩ := H2.box.cells
      have y4' := H2.box.thaw 4
      have H4 : Hid (LT w0 ws g cp M T ⟨kind, key, val, node, 6, prev, cur, next, mark, done, ans⟩ (w2.setCell ⟨T, 4, none⟩ (.int .i64 6))) := H2.setT 4 (.int .i64 6) ⟨kind, key, val, node, 6, prev, cur, next, mark, done, ans⟩ rfl
      clear H2 c1
      go_wp2
      go_end0
      exact ⟨rfl, H4.out⟩
    | false =>
      go_enter Try.func70, Try.ntmps70
      go_wp2
      rw [HWA.out]
      go_still_tail 16, (by kernel_rfl)
      go_wp2_with fail
      refine c1.mono ?_
      rintro e w2 ⟨rfl, H2⟩
      have H4 : Hid (LT w0 ws g cp M T ⟨kind, key, val, node, 0, prev, cur, next, mark, done, ans⟩ w2) := H2
      clear H2 c1
      go_wp2
      go_end0
      exact ⟨rfl, H4.out⟩
  · obtain ⟨M, b, hMb⟩ : ∃ M b, swapW l t.prev (2 * t.cur) (2 * t.next) = (M, b) := ⟨_, _, rfl⟩
    rw [goL6 h hMb]
    have c1 := l06Swap_any (H.drew (hdr _)) t.prev (2 * t.cur) (2 * t.next) hprev
    rw [hMb] at c1
    obtain ⟨kind, key, val, node, pc, prev, cur, next, mark, done, ans⟩ := t
    dsimp only at h hcur hnext c1 ⊢
    subst h
    obtain ⟨_, _, _, _, b4, b5, b6, b7, _⟩ := H.box.cells
    dsimp only at b4 b5 b6 b7
    have hc0 := hcur.1
    have hc1 := hcur.2
    have hc2 := hnext.1
    have hc3 := hnext.2
    clear H hMb hll hdr hcur hnode hkind hkey hval hprev hnext hmark
    go_enter Try.func70, Try.ntmps70
    go_wp2
    go_still_tail 15, (by kernel_rfl)
    go_wp2_with fail
    refine c1.mono ?_
    rintro e w2 ⟨rfl, H2⟩
    obtain ⟨_, _, _, _, _, _, _, _, _, f9, _⟩ := H2.box.cells
    have y9 := H2.box.thaw 9
    have H3 := H2.setT 9 (.bool true) ⟨kind, key, val, node, 6, prev, cur, next, mark, true, ans⟩ rfl
    obtain ⟨_, _, _, _, _, _, _, _, _, _, f10⟩ := H3.box.cells
    have y10 := H3.box.thaw 10
    have H4 : Hid (LT w0 ws g cp M T ⟨kind, key, val, node, 6, prev, cur, next, mark, true, 1⟩ ((w2.setCell ⟨T, 9, none⟩ (.bool true)).setCell ⟨T, 10, none⟩ (.int .i64 1))) := H3.setT 10 (.int .i64 1) ⟨kind, key, val, node, 6, prev, cur, next, mark, true, 1⟩ rfl
    clear H2 H3 c1
    go_wp2
    go_end0
    exact ⟨rfl, H4.out⟩

theorem btw_in (x a b : Int) : inN x a b = btw x a b := rfl

set_option maxRecDepth 100000 in
set_option maxHeartbeats 2000000 in
theorem specTaskOk_any (t : Tk) (w : World) :
    Calls Try.prog 36 #[.agg (tcs t)] w fun e w' => e = .returned (.bool t.ok) ∧ Below w.heap.size w w' := by
  obtain ⟨w1, hw1⟩ : ∃ w1, w.alloc (.cells (tcs t) 43) = w1 := ⟨_, rfl⟩
  have hb : Below w.heap.size w w1 := by rw [← hw1]; exact (Below.refl _ _).alloc (Nat.le_refl _) _
  have hT : TBox w1 w.heap.size t := by rw [← hw1]; exact TBox.new _ _
  have HW : Hid (w.alloc (.cells (tcs t) 43) = w1) := hw1
  obtain ⟨b0, b1, b2, b3, b4, b5, b6, b7, b8, _⟩ := hT.cells
  have C : Hid (∀ x a b, Calls Try.prog 61 #[.int .i64 x, .int .i64 a, .int .i64 b] w1 fun e w' => e = .returned (.bool (btw x a b)) ∧ w' = w1) := fun x a b => in_any x a b w1
  have HOK : Hid (t.ok = (btw t.kind 1 3 && (btw t.key 1 99 && (btw t.val 0 99 && (btw t.node 1 20 && (btw t.pc 0 6 && (btw t.prev 0 20 && (btw t.cur 0 20 && (btw t.next 0 20 && (btw t.mark 0 1)))))))))) := rfl
  clear hw1 hT
  unfold tcs at *
  go_enter Try.func36, Try.ntmps36
  go_wp2_with fail
  rw [HW.out]
  refine (C.out t.kind 1 3).mono ?_
  rintro e w' ⟨rfl, rfl⟩
  cases h0 : btw t.kind 1 3
  case false =>
    go_wp2
    go_ret
    exact ⟨by rw [HOK.out, h0]; rfl, hb⟩
  go_wp2_with fail
  refine (C.out t.key 1 99).mono ?_
  rintro e w' ⟨rfl, rfl⟩
  cases h1 : btw t.key 1 99
  case false =>
    go_wp2
    go_ret
    exact ⟨by rw [HOK.out, h0, h1]; rfl, hb⟩
  go_wp2_with fail
  refine (C.out t.val 0 99).mono ?_
  rintro e w' ⟨rfl, rfl⟩
  cases h2 : btw t.val 0 99
  case false =>
    go_wp2
    go_ret
    exact ⟨by rw [HOK.out, h0, h1, h2]; rfl, hb⟩
  go_wp2_with fail
  refine (C.out t.node 1 20).mono ?_
  rintro e w' ⟨rfl, rfl⟩
  cases h3 : btw t.node 1 20
  case false =>
    go_wp2
    go_ret
    exact ⟨by rw [HOK.out, h0, h1, h2, h3]; rfl, hb⟩
  go_wp2_with fail
  refine (C.out t.pc 0 6).mono ?_
  rintro e w' ⟨rfl, rfl⟩
  cases h4 : btw t.pc 0 6
  case false =>
    go_wp2
    go_ret
    exact ⟨by rw [HOK.out, h0, h1, h2, h3, h4]; rfl, hb⟩
  go_wp2_with fail
  refine (C.out t.prev 0 20).mono ?_
  rintro e w' ⟨rfl, rfl⟩
  cases h5 : btw t.prev 0 20
  case false =>
    go_wp2
    go_ret
    exact ⟨by rw [HOK.out, h0, h1, h2, h3, h4, h5]; rfl, hb⟩
  go_wp2_with fail
  refine (C.out t.cur 0 20).mono ?_
  rintro e w' ⟨rfl, rfl⟩
  cases h6 : btw t.cur 0 20
  case false =>
    go_wp2
    go_ret
    exact ⟨by rw [HOK.out, h0, h1, h2, h3, h4, h5, h6]; rfl, hb⟩
  go_wp2_with fail
  refine (C.out t.next 0 20).mono ?_
  rintro e w' ⟨rfl, rfl⟩
  cases h7 : btw t.next 0 20
  case false =>
    go_wp2
    go_ret
    exact ⟨by rw [HOK.out, h0, h1, h2, h3, h4, h5, h6, h7]; rfl, hb⟩
  go_wp2_with fail
  refine (C.out t.mark 0 1).mono ?_
  rintro e w' ⟨rfl, rfl⟩
  go_wp2
  go_ret
  exact ⟨by rw [HOK.out, h0, h1, h2, h3, h4, h5, h6, h7]; rfl, hb⟩
end Go.Proofs.Ytockgojdmaladab
