/- Nobody is there: the program's. -/
import Derived.Test.YtockgojdmaladabStepSwap
import Derived.StillTailTactics
namespace Go.Proofs.Ytockgojdmaladab
open Go.RowKit Go.Sort

theorem drewB (w : World) : Below w.heap.size w w.drew := ⟨rfl, rfl, rfl, Nat.le_refl _, fun _ _ => rfl⟩


theorem SS.fin {w0 : World} {S g m : Nat} {l : List Int} {t : Tk} {wi : World} (H : SS w0 S g m l t wi) (z : Int) :
    (wi.cell? ⟨S, 11, none⟩ = some (.bool t.done) ∧ wi.frozen? ⟨S, 11, none⟩ = false ∧ (wi.setCell ⟨S, 11, none⟩ (.bool true)).cell? ⟨S, 12, none⟩ = some (.int .i64 t.ans) ∧ (wi.setCell ⟨S, 11, none⟩ (.bool true)).frozen? ⟨S, 12, none⟩ = false) ∧ Hid (SS w0 S g m l { t with done := true, ans := z } ((wi.setCell ⟨S, 11, none⟩ (.bool true)).setCell ⟨S, 12, none⟩ (.int .i64 z))) := by
  have H1 := H.setT 11 (.bool true) { t with done := true } (fun _ _ => rfl)
  exact ⟨⟨H.box.cells.2.2.2.2.2.2.2.2.2.1, H.box.thaw 11, H1.box.cells.2.2.2.2.2.2.2.2.2.2, H1.box.thaw 12⟩, H1.setT 12 (.int .i64 z) { t with done := true, ans := z } (fun _ _ => rfl)⟩
theorem SS.on {w0 : World} {S g m : Nat} {l : List Int} {t : Tk} {wi : World} (H : SS w0 S g m l t wi) (z : Int) :
    (wi.cell? ⟨S, 8, none⟩ = some (.int .i64 t.cur) ∧ wi.frozen? ⟨S, 8, none⟩ = false ∧ (wi.setCell ⟨S, 8, none⟩ (.int .i64 z)).cell? ⟨S, 6, none⟩ = some (.int .i64 t.pc) ∧ (wi.setCell ⟨S, 8, none⟩ (.int .i64 z)).frozen? ⟨S, 6, none⟩ = false) ∧ Hid (SS w0 S g m l { t with cur := z, pc := 1 } ((wi.setCell ⟨S, 8, none⟩ (.int .i64 z)).setCell ⟨S, 6, none⟩ (.int .i64 1))) := by
  have H1 := H.setT 8 (.int .i64 z) { t with cur := z } (fun _ _ => rfl)
  exact ⟨⟨H.box.cells.2.2.2.2.2.2.1, H.box.thaw 8, H1.box.cells.2.2.2.2.1, H1.box.thaw 6⟩, H1.setT 6 (.int .i64 1) { t with cur := z, pc := 1 } (fun _ _ => rfl)⟩
theorem SS.pcTo {w0 : World} {S g m : Nat} {l : List Int} {t : Tk} {wi : World} (H : SS w0 S g m l t wi) (z : Int) :
    (wi.cell? ⟨S, 6, none⟩ = some (.int .i64 t.pc) ∧ wi.frozen? ⟨S, 6, none⟩ = false) ∧ Hid (SS w0 S g m l { t with pc := z } (wi.setCell ⟨S, 6, none⟩ (.int .i64 z))) :=
  ⟨⟨H.box.cells.2.2.2.2.1, H.box.thaw 6⟩, H.setT 6 (.int .i64 z) { t with pc := z } (fun _ _ => rfl)⟩

set_option maxRecDepth 100000 in
set_option maxHeartbeats 2000000 in
theorem nobodyThere_any {w0 : World} {S g m : Nat} {l : List Int} {t : Tk} {wi : World} (H : SS w0 S g m l t wi) (hok : t.ok = true) :
    Calls Try.prog 122 #[.pointer (some ⟨S, 0, none⟩)] wi fun e w' => e = .returned (.tuple #[]) ∧ SS w0 S g m (nobodyL l t).1 (nobodyL l t).2 w' := by
  obtain ⟨hkind, hkey, hval, hnode, _, _, hcur, _⟩ := Tk.ok_iff.1 hok
  unfold nobodyL
  by_cases h2 : t.kind = 2
  · rw [if_pos h2]
    obtain ⟨nd, hnd⟩ : ∃ nd : Nat, t.node = (nd : Int) := ⟨t.node.toNat, by omega⟩
    have e1 : setL6 l (3 * t.node) t.key = l.set (3 * nd) t.key := by unfold setL6; rw [hnd, show (3 * (nd : Int)).toNat = 3 * nd by omega]
    have e2 : ∀ m, setL6 m (3 * t.node + 1) t.val = m.set (3 * nd + 1) t.val := fun m => by unfold setL6; rw [hnd, show (3 * (nd : Int) + 1).toNat = 3 * nd + 1 by omega]
    have e3 : ∀ m, setL6 m (3 * t.node + 2) (2 * t.cur) = m.set (3 * nd + 2) (2 * t.cur) := fun m => by unfold setL6; rw [hnd, show (3 * (nd : Int) + 2).toNat = 3 * nd + 2 by omega]
    rw [e1, e2, e3]
    have hnb : 0 ≤ t.node ∧ t.node ≤ 20 := by omega
    have C1 : Hid (∀ w, Calls Try.prog 67 #[.int .i64 t.node] w fun e w' => e = .returned (.int .i64 ((3 * nd : Nat) : Int)) ∧ w' = w) := fun w => by
      have := keyCell_any t.node hnb w
      rw [show 3 * t.node = ((3 * nd : Nat) : Int) by omega] at this
      exact this
    have C2 : Hid (∀ w, Calls Try.prog 68 #[.int .i64 t.node] w fun e w' => e = .returned (.int .i64 ((3 * nd + 1 : Nat) : Int)) ∧ w' = w) := fun w => by
      have := valueCell_any t.node hnb w
      rw [show 3 * t.node + 1 = ((3 * nd + 1 : Nat) : Int) by omega] at this
      exact this
    have C3 : Hid (∀ w, Calls Try.prog 101 #[.int .i64 t.node] w fun e w' => e = .returned (.int .i64 ((3 * nd + 2 : Nat) : Int)) ∧ w' = w) := fun w => by
      have := wordCell_any t.node hnb w
      rw [show wordC t.node = ((3 * nd + 2 : Nat) : Int) by unfold wordC; rw [if_neg (by omega)]; omega] at this
      exact this
    have C4 : Hid (∀ w, Calls Try.prog 124 #[.int .i64 t.cur] w fun e w' => e = .returned (.int .i64 (2 * t.cur)) ∧ w' = w) := wordTo_any t.cur hcur
    have hn20 : nd ≤ 20 := by omega
    obtain ⟨b0, b1, b2, b3, _, _, b6, _⟩ := H.box.cells
    rw [h2] at b0
    have c5 := store_any (H.next (drewB _)) (p := 3 * nd) (by omega) t.key
    obtain ⟨k1, hk1⟩ : ∃ k, 3 * nd = k := ⟨_, rfl⟩
    obtain ⟨k2, hk2⟩ : ∃ k, 3 * nd + 1 = k := ⟨_, rfl⟩
    obtain ⟨k3, hk3⟩ : ∃ k, 3 * nd + 2 = k := ⟨_, rfl⟩
    have hl1 : k1 < 63 := by omega
    have hl2 : k2 < 63 := by omega
    have hl3 : k3 < 63 := by omega
    rw [hk1] at C1 c5
    rw [hk2] at C2
    rw [hk3] at C3
    rw [hk3, hk2, hk1]
    clear H hok hkind hkey hval hnode e1 e2 e3 hnd hk1 hk2 hk3 hn20 hnb
    go_enter Try.func122, Try.ntmps122
    go_wp2
    refine wp_region_still_tail 10 (by kernel_rfl) (by kernel_rfl) ?_
    simp only [List.take_succ_cons, List.take_zero, List.drop_succ_cons, List.drop_zero]
    repeat (first | still_step | still_call (C1.out _))
    try refine wpStill_nil ?_
    go_wp2_with fail
    refine c5.mono ?_
    rintro e w1 ⟨rfl, H1⟩
    clear b0 b1 b2 b3 b6 c5 C1
    obtain ⟨b0, b1, b2, b3, _, _, b6, _⟩ := H1.box.cells
    have c5 := store_any (H1.next (drewB _)) hl2 t.val
    clear H1
    go_wp2
    refine wp_region_still_tail 10 (by kernel_rfl) (by kernel_rfl) ?_
    simp only [List.take_succ_cons, List.take_zero, List.drop_succ_cons, List.drop_zero]
    repeat (first | still_step | still_call (C2.out _))
    try refine wpStill_nil ?_
    go_wp2_with fail
    refine c5.mono ?_
    rintro e w2 ⟨rfl, H2⟩
    clear b0 b1 b2 b3 b6 c5 C2
    obtain ⟨b0, b1, b2, b3, _, _, b6, _⟩ := H2.box.cells
    have c5 := store_any (H2.next (drewB _)) hl3 (2 * t.cur)
    clear H2
    go_wp2
    refine wp_region_still_tail 11 (by kernel_rfl) (by kernel_rfl) ?_
    simp only [List.take_succ_cons, List.take_zero, List.drop_succ_cons, List.drop_zero]
    repeat (first | still_step | still_call (by first | exact C3.out _ | exact C4.out _))
    try refine wpStill_nil ?_
    go_wp2_with fail
    refine c5.mono ?_
    rintro e w3 ⟨rfl, H3⟩
    clear b0 b1 b2 b3 b6 c5 C3 C4
    obtain ⟨_, _, _, _, f4, _⟩ := H3.box.cells
    have z4 := H3.box.thaw 6
    have H4 : Hid (SS w0 S g m (((l.set k1 t.key).set k2 t.val).set k3 (2 * t.cur)) { t with pc := 4 } (w3.setCell ⟨S, 6, none⟩ (.int .i64 4))) := H3.setT 6 (.int .i64 4) { t with pc := 4 } (fun _ _ => rfl)
    clear H3
    go_wp2
    go_end0
    exact ⟨rfl, H4.out⟩
  · rw [if_neg h2]
    obtain ⟨b0, _⟩ := H.box.cells
    obtain ⟨⟨f1, f2, f3, f4⟩, H2⟩ := H.fin 0
    clear H hok hkind hkey hval hnode hcur
    go_enter Try.func122, Try.ntmps122
    go_wp2
    refine bodyPost_end (results_none rfl _ _ _) rfl ?_
    dsimp only
    go_wp2
    (try simp only [Exit.inBlock, Exit.then])
    refine bodyPost_ret (results_none rfl _ _ _) rfl ?_
    exact ⟨rfl, H2.out⟩

end Go.Proofs.Ytockgojdmaladab
