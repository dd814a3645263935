/- The steps of a task: the other text. -/
import Derived.Test.YtockgojdmaladabTaskKit
import Derived.Test.YtockgojdmaladabNodeSpec
import Derived.Deep.RegionHeld3
import Derived.Deep.RegionLaw
namespace Go.Proofs.Ytockgojdmaladab
open Go.RowKit Go.Sort

set_option maxRecDepth 100000 in
set_option maxHeartbeats 1000000 in
theorem l06Swap_any {w0 ws : World} {g cp : Nat} {l : List Int} {T : Nat} {t : Tk} {wi : World} (H : LT w0 ws g cp l T t wi) (n o z : Int) (hn : 0 ≤ n ∧ n ≤ 20) :
    Calls Try.prog 109 #[.slice (some ⟨g, 0, none⟩) 63 cp, .int .i64 n, .int .i64 o, .int .i64 z] wi fun e w' => e = .returned (.bool (swapW l n o z).2) ∧ LT w0 ws g cp (swapW l n o z).1 T t w' := by
  obtain ⟨j, hj, hj63⟩ := word_nat hn
  have c1 := l06Word_any n hn wi
  rw [hj] at c1
  obtain ⟨q1, q2⟩ := H.cell hj63
  obtain ⟨x, hx, HX⟩ : ∃ x, l.getD j 0 = x ∧ Hid (cellL6 l (wordC n) = x) := ⟨_, rfl, by show _ = _; simp [cellL6, hj]⟩
  rw [hx] at q1
  have HP : Hid (LT w0 ws g cp (setL6 l (wordC n) z) T t (wi.setCell ⟨g, j, none⟩ (.int .i64 z))) := by
    have := H.put j z
    rw [show setL6 l (wordC n) z = l.set j z by simp [setL6, hj]]
    exact this
  have hi1 : (0 : Int) ≤ (j : Int) := by omega
  have hi2 : (j : Int) < 63 := by omega
  unfold swapW
  by_cases ho : x = o
  · subst ho
    rw [if_pos HX.out]
    have HH : Hid (LT w0 ws g cp l T t wi) := H
    clear H hx hj
    go_enter Try.func109, Try.ntmps109
    go_wp2_with fail
    refine c1.mono ?_
    rintro e w1 ⟨rfl, rfl⟩
    go_wp2_with fail
    refine c1.mono ?_
    rintro e w1 ⟨rfl, rfl⟩
    go_wp2
    go_ret
    exact ⟨rfl, HP.out⟩
  · rw [if_neg (by rw [HX.out]; exact ho)]
    have HH : Hid (LT w0 ws g cp l T t wi) := H
    clear H hx hj
    go_enter Try.func109, Try.ntmps109
    go_wp2_with fail
    refine c1.mono ?_
    rintro e w1 ⟨rfl, rfl⟩
    go_wp2
    go_ret
    exact ⟨rfl, HH.out⟩

set_option maxRecDepth 100000 in
set_option maxHeartbeats 2000000 in
theorem l06Nobody_any {w0 ws : World} {g cp : Nat} {l : List Int} {T : Nat} {t : Tk} {wi : World} (H : LT w0 ws g cp l T t wi) (hok : t.ok = true) :
    Calls Try.prog 105 #[.slice (some ⟨g, 0, none⟩) 63 cp, .pointer (some ⟨T, 0, none⟩)] wi fun e w' => e = .returned (.tuple #[]) ∧ LT w0 ws g cp (nobodyL l t).1 T (nobodyL l t).2 w' := by
  obtain ⟨hkind, hkey, hval, hnode, _, _, hcur, _⟩ := Tk.ok_iff.1 hok
  unfold nobodyL
  by_cases h2 : t.kind = 2
  · rw [if_pos h2]
    obtain ⟨nd, hnd⟩ : ∃ nd : Nat, t.node = (nd : Int) := ⟨t.node.toNat, by omega⟩
    have e1 : setL6 l (3 * t.node) t.key = l.set (3 * nd) t.key := by unfold setL6; rw [hnd, show (3 * (nd : Int)).toNat = 3 * nd by omega]
    have e2 : ∀ m, setL6 m (3 * t.node + 1) t.val = m.set (3 * nd + 1) t.val := fun m => by unfold setL6; rw [hnd, show (3 * (nd : Int) + 1).toNat = 3 * nd + 1 by omega]
    have e3 : ∀ m, setL6 m (3 * t.node + 2) (2 * t.cur) = m.set (3 * nd + 2) (2 * t.cur) := fun m => by unfold setL6; rw [hnd, show (3 * (nd : Int) + 2).toNat = 3 * nd + 2 by omega]
    rw [e1, e2, e3]
    have hi0 : (nd : Int) ≤ 20 := by omega
    have hi1 : (1 : Int) ≤ (nd : Int) := by omega
    have hc0 : 0 ≤ t.cur := hcur.1
    have hc1 : t.cur ≤ 20 := hcur.2
    have hdr : ∀ w : World, Below w.heap.size w w.drew := fun w => ⟨rfl, rfl, rfl, Nat.le_refl _, fun _ _ => rfl⟩
    obtain ⟨b0, b1, b2, b3, _, _, b6, _⟩ := H.box.cells
    obtain ⟨q1, z1⟩ := H.cell (j := 3 * nd) (by omega)
    have H1 := (H.put (3 * nd) t.key).drew (hdr _)
    obtain ⟨wA, hwA⟩ : ∃ wA, (wi.setCell ⟨g, 3 * nd, none⟩ (.int .i64 t.key)).drew = wA := ⟨_, rfl⟩
    have HWA : Hid ((wi.setCell ⟨g, 3 * nd, none⟩ (.int .i64 t.key)).drew = wA) := hwA
    rw [hwA] at H1
    clear hwA
    obtain ⟨_, _, d2, d3, _, _, d6, _⟩ := H1.box.cells
    obtain ⟨q2, z2⟩ := H1.cell (j := 3 * nd + 1) (by omega)
    have H2 := (H1.put (3 * nd + 1) t.val).drew (hdr _)
    obtain ⟨wB, hwB⟩ : ∃ wB, (wA.setCell ⟨g, 3 * nd + 1, none⟩ (.int .i64 t.val)).drew = wB := ⟨_, rfl⟩
    have HWB : Hid ((wA.setCell ⟨g, 3 * nd + 1, none⟩ (.int .i64 t.val)).drew = wB) := hwB
    rw [hwB] at H2
    clear hwB
    obtain ⟨_, _, _, f3, f4, _, f6, _⟩ := H2.box.cells
    obtain ⟨q3, z3⟩ := H2.cell (j := 3 * nd + 2) (by omega)
    have H3 := (H2.put (3 * nd + 2) (2 * t.cur)).drew (hdr _)
    obtain ⟨wC, hwC⟩ : ∃ wC, (wB.setCell ⟨g, 3 * nd + 2, none⟩ (.int .i64 (2 * t.cur))).drew = wC := ⟨_, rfl⟩
    have HWC : Hid ((wB.setCell ⟨g, 3 * nd + 2, none⟩ (.int .i64 (2 * t.cur))).drew = wC) := hwC
    rw [hwC] at H3
    clear hwC
    obtain ⟨_, _, _, _, h4, _⟩ := H3.box.cells
    have z4 := H2.box.thaw 4
    have H4 : Hid (LT w0 ws g cp _ T { t with pc := 4 } _) := H3.setT 4 (.int .i64 4) { t with pc := 4 } rfl
    rw [hnd] at b3 d3 f3
    clear H hok hkind hkey hval hnode hcur H1 H2 H3 e1 e2 e3
    go_enter Try.func105, Try.ntmps105
    go_wp2
    go_still_tail 10, (by kernel_rfl)
    go_wp2
    rw [HWA.out]
    go_still_tail 11, (by kernel_rfl)
    go_wp2
    rw [HWB.out]
    go_still_tail 12, (by kernel_rfl)
    go_wp2
    go_end0
    have h5 := H4.out
    rw [← HWC.out] at h5
    exact ⟨rfl, h5⟩
  · rw [if_neg h2]
    obtain ⟨b0, _⟩ := H.box.cells
    have z1 := H.box.thaw 9
    have H1 := H.setT 9 (.bool true) { t with done := true } rfl
    have z2 := H1.box.thaw 10
    obtain ⟨_, _, _, _, _, _, _, _, _, b9, _⟩ := H.box.cells
    obtain ⟨_, _, _, _, _, _, _, _, _, _, b10⟩ := H1.box.cells
    have H2 : Hid (LT w0 ws g cp l T { t with done := true, ans := 0 } ((wi.setCell ⟨T, 9, none⟩ (.bool true)).setCell ⟨T, 10, none⟩ (.int .i64 0))) := H1.setT 10 (.int .i64 0) { t with done := true, ans := 0 } rfl
    clear H H1 hok hkind hkey hval hnode hcur
    go_enter Try.func105, Try.ntmps105
    go_wp2
    (try simp only [Exit.inBlock, Exit.then])
    refine bodyPost_ret (results_none rfl _ _ _) rfl ?_
    exact ⟨rfl, H2.out⟩

/-- A cell of a right list. -/
theorem okC_cell {l : List Int} (h : okC l = true) {j : Nat} (hj : j < l.length) : 0 ≤ l.getD j 0 ∧ l.getD j 0 ≤ 1000000000 := by
  have h1 : l.all nOkC = true := by
    unfold okC at h
    exact (Bool.and_eq_true _ _ ▸ h).2
  have h2 := List.all_eq_true.1 h1 _ (List.getElem_mem hj)
  unfold nOkC at h2
  have := of_decide_eq_true h2
  simpa [List.getD, hj] using this

set_option maxRecDepth 100000 in
set_option maxHeartbeats 2000000 in
theorem l06Look_any {w0 ws : World} {g cp : Nat} {l : List Int} {T : Nat} {t : Tk} {wi : World} (H : LT w0 ws g cp l T t wi) (hok : t.ok = true) :
    Calls Try.prog 107 #[.slice (some ⟨g, 0, none⟩) 63 cp, .pointer (some ⟨T, 0, none⟩)] wi fun e w' => e = .returned (.tuple #[]) ∧ LT w0 ws g cp (lookL l t).1 T (lookL l t).2 w' := by
  obtain ⟨hkind, hkey, hval, hnode, _, hprev, hcur, hnext, hmark⟩ := Tk.ok_iff.1 hok
  have hdr : ∀ w : World, Below w.heap.size w w.drew := fun w => ⟨rfl, rfl, rfl, Nat.le_refl _, fun _ _ => rfl⟩
  unfold lookL
  by_cases h1 : t.mark = 1
  · rw [if_pos h1]
    dsimp only
    obtain ⟨_, _, _, _, b4, _, _, _, b8, _⟩ := H.box.cells
    rw [h1] at b8
    have z4 := H.box.thaw 4
    have H1 := H.setT 4 (.int .i64 0) { t with pc := 0 } rfl
    obtain ⟨_, _, _, _, d4, d5, d6, d7, _⟩ := H1.box.cells
    obtain ⟨wA, hwA⟩ : ∃ wA, wi.setCell ⟨T, 4, none⟩ (.int .i64 0) = wA := ⟨_, rfl⟩
    have HWA : Hid (wi.setCell ⟨T, 4, none⟩ (.int .i64 0) = wA) := hwA
    rw [hwA] at H1 d4 d5 d6 d7
    have c1 := l06Swap_any (H1.drew (hdr _)) t.prev (2 * t.cur) (2 * t.next) hprev
    have hc0 : 0 ≤ t.cur := hcur.1
    have hc1 : t.cur ≤ 20 := hcur.2
    have hc2 : 0 ≤ t.next := hnext.1
    have hc3 : t.next ≤ 20 := hnext.2
    obtain ⟨M, b, hMb⟩ : ∃ M b, swapW l t.prev (2 * t.cur) (2 * t.next) = (M, b) := ⟨_, _, rfl⟩
    rw [hMb] at c1 ⊢
    dsimp only at c1 ⊢
    clear H H1 hok hkind hkey hval hnode hcur hnext hprev hwA hMb
    cases b with
    | true =>
      rw [if_pos rfl]
      go_enter Try.func107, Try.ntmps107
      go_wp2
      rw [HWA.out]
      go_still_tail 15, (by kernel_rfl)
      go_wp2_with fail
      refine c1.mono ?_
      rintro e w2 ⟨rfl, H2⟩
      obtain ⟨_, _, _, _, f4, _, f6, f7, _⟩ := H2.box.cells
      have y6 := H2.box.thaw 6
      have H3 := H2.setT 6 (.int .i64 t.next) { t with pc := 0, cur := t.next } rfl
      obtain ⟨_, _, _, _, f4', _⟩ := H3.box.cells
      have y4 := H3.box.thaw 4
      have H4 : Hid (LT w0 ws g cp M T { t with cur := t.next, pc := 1 } ((w2.setCell ⟨T, 6, none⟩ (.int .i64 t.next)).setCell ⟨T, 4, none⟩ (.int .i64 1))) := H3.setT 4 (.int .i64 1) { t with cur := t.next, pc := 1 } rfl
      clear H2 H3
      go_wp2
      (try simp only [Exit.inBlock, Exit.then])
      refine bodyPost_ret (results_none rfl _ _ _) rfl ?_
      exact ⟨rfl, H4.out⟩
    | false =>
      rw [if_neg (by simp)]
      go_enter Try.func107, Try.ntmps107
      go_wp2
      rw [HWA.out]
      go_still_tail 15, (by kernel_rfl)
      go_wp2_with fail
      refine c1.mono ?_
      rintro e w2 ⟨rfl, H2⟩
      have H4 : Hid (LT w0 ws g cp M T { t with pc := 0 } w2) := H2
      clear H2
      go_wp2
      (try simp only [Exit.inBlock, Exit.then])
      refine bodyPost_ret (results_none rfl _ _ _) rfl ?_
      exact ⟨rfl, H4.out⟩
  · rw [if_neg h1]
    obtain ⟨kind, key, val, node, pc, prev, cur, next, mark, done, ans⟩ := t
    dsimp only at hkind hkey hval hnode hprev hcur hnext hmark h1 ⊢
    obtain ⟨nd, rfl⟩ : ∃ nd : Nat, cur = (nd : Int) := ⟨cur.toNat, by omega⟩
    obtain ⟨_, b1, _, _, b4, b5, b6, b7, b8, _⟩ := H.box.cells
    dsimp only at b1 b4 b5 b6 b7 b8
    obtain ⟨q1, _⟩ := H.cell (j := 3 * nd) (by omega)
    obtain ⟨x, hx⟩ : ∃ x, l.getD (3 * nd) 0 = x := ⟨_, rfl⟩
    rw [hx] at q1
    have hce : cellL6 l (3 * (nd : Int)) = x := by unfold cellL6; rw [show (3 * (nd : Int)).toNat = 3 * nd by omega]; exact hx
    rw [hce]
    have hi0 : (nd : Int) ≤ 20 := by omega
    have HH : Hid (LT w0 ws g cp l T ⟨kind, key, val, node, pc, prev, nd, next, mark, done, ans⟩ wi) := H
    by_cases hlt : x < key
    · rw [if_pos hlt]
      clear H hok hkind hkey hval hnode hcur hnext hprev hx hce
      go_enter Try.func107, Try.ntmps107
      go_wp2
      go_quiet (fail)
      have H1 := HH.out.drew (wj := wi.drewN nq) ⟨rfl, rfl, rfl, Nat.le_refl _, fun _ _ => rfl⟩
      generalize wi.drewN nq = wA at H1 ⊢
      clear b1 b4 b5 b6 b7 b8 q1
      obtain ⟨_, _, _, _, f4, f5, f6, f7, _⟩ := H1.box.cells
      have y5 := H1.box.thaw 5
      have H2 := H1.setT 5 (.int .i64 nd) ⟨kind, key, val, node, pc, nd, nd, next, mark, done, ans⟩ rfl
      obtain ⟨_, _, _, _, _, _, f6', f7', _⟩ := H2.box.cells
      have y6 := H2.box.thaw 6
      have H3 := H2.setT 6 (.int .i64 next) ⟨kind, key, val, node, pc, nd, next, next, mark, done, ans⟩ rfl
      obtain ⟨_, _, _, _, f4', _⟩ := H3.box.cells
      have y4 := H3.box.thaw 4
      have H4 : Hid (LT w0 ws g cp l T ⟨kind, key, val, node, 1, nd, next, next, mark, done, ans⟩ (((wA.setCell ⟨T, 5, none⟩ (.int .i64 nd)).setCell ⟨T, 6, none⟩ (.int .i64 next)).setCell ⟨T, 4, none⟩ (.int .i64 1))) := H3.setT 4 (.int .i64 1) ⟨kind, key, val, node, 1, nd, next, next, mark, done, ans⟩ rfl
      clear H1 H2 H3
      go_wp2
      (try simp only [Exit.inBlock, Exit.then])
      refine bodyPost_ret (results_none rfl _ _ _) rfl ?_
      exact ⟨rfl, H4.out⟩
    · rw [if_neg hlt]
      clear H hok hkind hkey hval hnode hcur hnext hprev hx hce
      go_enter Try.func107, Try.ntmps107
      go_wp2
      go_quiet (fail)
      have H1 := HH.out.drew (wj := wi.drewN nq) ⟨rfl, rfl, rfl, Nat.le_refl _, fun _ _ => rfl⟩
      generalize wi.drewN nq = wA at H1 ⊢
      clear b1 b4 b5 b6 b7 b8 q1
      obtain ⟨_, _, _, _, f4, _⟩ := H1.box.cells
      have y4 := H1.box.thaw 4
      have H4 : Hid (LT w0 ws g cp l T ⟨kind, key, val, node, 3, prev, nd, next, mark, done, ans⟩ (wA.setCell ⟨T, 4, none⟩ (.int .i64 3))) := H1.setT 4 (.int .i64 3) ⟨kind, key, val, node, 3, prev, nd, next, mark, done, ans⟩ rfl
      clear H1
      go_wp2
      go_end0
      exact ⟨rfl, H4.out⟩

set_option maxRecDepth 100000 in
set_option maxHeartbeats 2000000 in
theorem l06Found_any {w0 ws : World} {g cp : Nat} {l : List Int} {T : Nat} {t : Tk} {wi : World} (H : LT w0 ws g cp l T t wi) (hok : t.ok = true) (hl : okC l = true) :
    Calls Try.prog 108 #[.slice (some ⟨g, 0, none⟩) 63 cp, .pointer (some ⟨T, 0, none⟩)] wi fun e w' => e = .returned (.tuple #[]) ∧ LT w0 ws g cp (foundL l t).1 T (foundL l t).2 w' := by
  have hok2 := hok
  obtain ⟨kind, key, val, node, pc, prev, cur, next, mark, done, ans⟩ := t
  obtain ⟨hkind, hkey, hval, hnode, _, hprev, hcur, hnext, hmark⟩ := Tk.ok_iff.1 hok
  unfold foundL
  dsimp only at hkind hkey hval hnode hprev hcur hnext hmark ⊢
  obtain ⟨nd, rfl⟩ : ∃ nd : Nat, cur = (nd : Int) := ⟨cur.toNat, by omega⟩
  obtain ⟨b0, b1, _, _, _, _, b6, _⟩ := H.box.cells
  dsimp only at b0 b1 b6
  have hll := H.len
  obtain ⟨q1, _⟩ := H.cell (j := 3 * nd) (by omega)
  obtain ⟨q2, _⟩ := H.cell (j := 3 * nd + 1) (by omega)
  have hxb := okC_cell hl (j := 3 * nd + 1) (by omega)
  obtain ⟨x, hx⟩ : ∃ x, l.getD (3 * nd) 0 = x := ⟨_, rfl⟩
  obtain ⟨y, hy⟩ : ∃ y, l.getD (3 * nd + 1) 0 = y := ⟨_, rfl⟩
  rw [hx] at q1
  rw [hy] at q2 hxb
  have hce : cellL6 l (3 * (nd : Int)) = x := by unfold cellL6; rw [show (3 * (nd : Int)).toNat = 3 * nd by omega]; exact hx
  have hce2 : cellL6 l (3 * (nd : Int) + 1) = y := by unfold cellL6; rw [show (3 * (nd : Int) + 1).toNat = 3 * nd + 1 by omega]; exact hy
  rw [hce, hce2]
  have hi0 : (nd : Int) ≤ 20 := by omega
  have hy0 := hxb.1
  have hy1 := hxb.2
  have HH : Hid (LT w0 ws g cp l T ⟨kind, key, val, node, pc, prev, nd, next, mark, done, ans⟩ wi) := H
  have HOK : Hid ((⟨kind, key, val, node, pc, prev, nd, next, mark, done, ans⟩ : Tk).ok = true) := hok2
  have HY : Hid (l.getD (3 * nd + 1) 0 = y) := hy
  clear H hok hok2 hkey hval hnode hcur hnext hprev hx hy hce hce2 hxb hl hll hmark
  by_cases he : x = key
  · subst he
    rw [if_pos rfl]
    by_cases hk1 : kind = 1
    · subst hk1
      rw [if_pos rfl]
      go_enter Try.func108, Try.ntmps108
      go_wp2
      go_quiet (fail)
      have H1 := HH.out.drew (wj := wi.drewN nq) ⟨rfl, rfl, rfl, Nat.le_refl _, fun _ _ => rfl⟩
      generalize wi.drewN nq = wA at H1 ⊢
      clear b0 b1 b6 q1 q2
      obtain ⟨f0, _, _, _, _, _, _, _, _, f9, _⟩ := H1.box.cells
      dsimp only at f0
      have y9 := H1.box.thaw 9
      have H2 := H1.setT 9 (.bool true) ⟨1, x, val, node, pc, prev, nd, next, mark, true, ans⟩ rfl
      obtain ⟨_, _, _, _, _, _, e6, _, _, _, e10⟩ := H2.box.cells
      dsimp only at e6
      have y10 := H2.box.thaw 10
      obtain ⟨q3, _⟩ := H2.cell (j := 3 * nd + 1) (by omega)
      rw [HY.out] at q3
      have H4 : Hid (LT w0 ws g cp l T ⟨1, x, val, node, pc, prev, nd, next, mark, true, y + 1⟩ ((wA.setCell ⟨T, 9, none⟩ (.bool true)).setCell ⟨T, 10, none⟩ (.int .i64 (y + 1)))) := H2.setT 10 (.int .i64 (y + 1)) ⟨1, x, val, node, pc, prev, nd, next, mark, true, y + 1⟩ rfl
      clear H1 H2
      go_wp2
      go_end0
      exact ⟨rfl, H4.out⟩
    · rw [if_neg hk1]
      by_cases hk2 : kind = 2
      · subst hk2
        rw [if_pos rfl]
        go_enter Try.func108, Try.ntmps108
        go_wp2
        go_quiet (fail)
        have H1 := HH.out.drew (wj := wi.drewN nq) ⟨rfl, rfl, rfl, Nat.le_refl _, fun _ _ => rfl⟩
        generalize wi.drewN nq = wA at H1 ⊢
        clear b0 b1 b6 q1 q2
        obtain ⟨f0, _, _, _, _, _, _, _, _, f9, _⟩ := H1.box.cells
        dsimp only at f0
        have y9 := H1.box.thaw 9
        have H2 := H1.setT 9 (.bool true) ⟨2, x, val, node, pc, prev, nd, next, mark, true, ans⟩ rfl
        obtain ⟨_, _, _, _, _, _, _, _, _, _, e10⟩ := H2.box.cells
        have y10 := H2.box.thaw 10
        have H4 : Hid (LT w0 ws g cp l T ⟨2, x, val, node, pc, prev, nd, next, mark, true, 0⟩ ((wA.setCell ⟨T, 9, none⟩ (.bool true)).setCell ⟨T, 10, none⟩ (.int .i64 0))) := H2.setT 10 (.int .i64 0) ⟨2, x, val, node, pc, prev, nd, next, mark, true, 0⟩ rfl
        clear H1 H2
        go_wp2
        go_end0
        exact ⟨rfl, H4.out⟩
      · rw [if_neg hk2]
        have d1 : decide (kind = 1) = false := decide_eq_false hk1
        have d2 : decide (kind = 2) = false := decide_eq_false hk2
        go_enter Try.func108, Try.ntmps108
        go_wp2
        go_quiet (fail)
        have H1 := HH.out.drew (wj := wi.drewN nq) ⟨rfl, rfl, rfl, Nat.le_refl _, fun _ _ => rfl⟩
        generalize wi.drewN nq = wA at H1 ⊢
        clear b0 b1 b6 q1 q2
        obtain ⟨f0, _, _, _, f4, _⟩ := H1.box.cells
        dsimp only at f0
        have y4 := H1.box.thaw 4
        have H4 : Hid (LT w0 ws g cp l T ⟨kind, x, val, node, 5, prev, nd, next, mark, done, ans⟩ (wA.setCell ⟨T, 4, none⟩ (.int .i64 5))) := H1.setT 4 (.int .i64 5) ⟨kind, x, val, node, 5, prev, nd, next, mark, done, ans⟩ rfl
        clear H1
        go_wp2
        go_end0
        exact ⟨rfl, H4.out⟩
  · rw [if_neg he]
    go_enter Try.func108, Try.ntmps108
    go_wp2
    go_quiet (fail)
    have H1 := HH.out.drew (wj := wi.drewN nq) ⟨rfl, rfl, rfl, Nat.le_refl _, fun _ _ => rfl⟩
    generalize wi.drewN nq = wA at H1 ⊢
    clear b0 b1 b6 q1 q2
    have c1 := l06Nobody_any H1 HOK.out
    clear H1
    go_wp2_with fail
    refine c1.mono ?_
    rintro e w2 ⟨rfl, H2⟩
    have H4 : Hid (LT w0 ws g cp _ T _ w2) := H2
    clear H2
    go_wp2
    (try simp only [Exit.inBlock, Exit.then])
    refine bodyPost_ret (results_none rfl _ _ _) rfl ?_
    exact ⟨rfl, H4.out⟩
end Go.Proofs.Ytockgojdmaladab
