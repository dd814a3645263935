/- A node's word is swapped: the program's. -/
import Derived.Test.YtockgojdmaladabStepCalls
namespace Go.Proofs.Ytockgojdmaladab
open Go.RowKit Go.Sort

theorem word_nat6 {n : Int} (h : 0 ≤ n ∧ n ≤ 20) : ∃ j : Nat, wordC n = (j : Int) ∧ j < 63 := ⟨(wordC n).toNat, by have := wordC_bd h; omega, by have := wordC_bd h; omega⟩

set_option maxRecDepth 100000 in
set_option maxHeartbeats 2000000 in
theorem swapNext_any {w0 : World} {S g m : Nat} {l : List Int} {t : Tk} {wi : World} (H : SS w0 S g m l t wi) (n o z : Int) (hn : 0 ≤ n ∧ n ≤ 20) (ho : 0 ≤ o ∧ o ≤ 20) :
    Calls Try.prog 123 #[.pointer (some ⟨S, 0, none⟩), .int .i64 n, .int .i64 o, .int .i64 z] wi fun e w' => e = .returned (.bool (swapW l n (2 * o) z).2) ∧ SS w0 S g m (swapW l n (2 * o) z).1 t w' := by
  obtain ⟨j, hj, hj63⟩ := word_nat6 hn
  have C1 : Hid (∀ w, Calls Try.prog 101 #[.int .i64 n] w fun e w' => e = .returned (.int .i64 (j : Int)) ∧ w' = w) := fun w => by
    have := wordCell_any n hn w
    rw [hj] at this
    exact this
  have C2 : Hid (∀ w, Calls Try.prog 124 #[.int .i64 o] w fun e w' => e = .returned (.int .i64 (2 * o)) ∧ w' = w) := wordTo_any o ho
  obtain ⟨b0, b1⟩ := H.box.pair
  have hdr : Below wi.heap.size wi wi.drew := ⟨rfl, rfl, rfl, Nat.le_refl _, fun _ _ => rfl⟩
  have Hd := H.next hdr
  have c3 := Hd.place hj63
  by_cases ho : l.getD j 0 = 2 * o
  · have HV : Hid (swapW l n (2 * o) z = (l.set j z, true)) := by
      show _ = _
      unfold swapW cellL6 setL6
      rw [hj, Int.toNat_natCast, if_pos ho]
    have C4 : Hid (∀ w1, Below wi.drew.heap.size wi.drew w1 → Calls Try.prog 55 #[.pointer (some ⟨g, j, none⟩), .int .i64 (2 * o), .int .i64 z] w1 fun e w' => e = .returned (.bool true) ∧ w' = w1.setCell ⟨g, j, none⟩ (.int .i64 z)) := fun w1 hb => by
      have h := (Hd.next hb).cell hj63
      rw [ho] at h
      exact cellSwap_hit w1 g j _ z h.1 h.2
    have HP : Hid (∀ w1, Below wi.drew.heap.size wi.drew w1 → SS w0 S g m (l.set j z) t (w1.setCell ⟨g, j, none⟩ (.int .i64 z))) := fun w1 hb => (Hd.next hb).put hj63 z
    rw [HV.out]
    dsimp only
    clear H Hd hdr hj ho HV
    go_enter Try.func123, Try.ntmps123
    go_wp2
    go_region_law (go_simp; first | (go_at_call 101; refine (C1.out _).mono ?_; rintro e w1 ⟨rfl, rfl⟩) | (go_at_call 124; refine (C2.out _).mono ?_; rintro e w1 ⟨rfl, rfl⟩) | (go_at_call 51; refine c3.mono ?_; rintro e w1 ⟨rfl, hb1⟩; have c4 := C4.out w1 hb1; have H4 : Hid (SS w0 S g m (l.set j z) t (w1.setCell ⟨g, j, none⟩ (.int .i64 z))) := HP.out w1 hb1) | (go_at_call 55; refine c4.mono ?_; rintro e w2 ⟨rfl, rfl⟩))
    all_goals go_wp2
    all_goals go_ret
    all_goals exact ⟨rfl, H4.out⟩
  · have HV : Hid (swapW l n (2 * o) z = (l, false)) := by
      show _ = _
      unfold swapW cellL6 setL6
      rw [hj, Int.toNat_natCast, if_neg ho]
    have C4 : Hid (∀ w1, Below wi.drew.heap.size wi.drew w1 → Calls Try.prog 55 #[.pointer (some ⟨g, j, none⟩), .int .i64 (2 * o), .int .i64 z] w1 fun e w' => e = .returned (.bool false) ∧ w' = w1) := fun w1 hb => by
      have h := (Hd.next hb).cell hj63
      exact cellSwap_miss w1 g j _ _ z h.1 h.2 ho
    have HP : Hid (∀ w1, Below wi.drew.heap.size wi.drew w1 → SS w0 S g m l t w1) := fun w1 hb => Hd.next hb
    rw [HV.out]
    dsimp only
    clear H Hd hdr hj ho HV
    go_enter Try.func123, Try.ntmps123
    go_wp2
    go_region_law (go_simp; first | (go_at_call 101; refine (C1.out _).mono ?_; rintro e w1 ⟨rfl, rfl⟩) | (go_at_call 124; refine (C2.out _).mono ?_; rintro e w1 ⟨rfl, rfl⟩) | (go_at_call 51; refine c3.mono ?_; rintro e w1 ⟨rfl, hb1⟩; have c4 := C4.out w1 hb1; have H4 : Hid (SS w0 S g m l t w1) := HP.out w1 hb1) | (go_at_call 55; refine c4.mono ?_; rintro e w2 ⟨rfl, rfl⟩))
    all_goals go_wp2
    all_goals go_ret
    all_goals exact ⟨rfl, H4.out⟩
end Go.Proofs.Ytockgojdmaladab
