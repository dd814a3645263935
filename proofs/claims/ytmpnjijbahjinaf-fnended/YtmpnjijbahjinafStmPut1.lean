/- The program's StreamPut, what is done to the held stream. -/
import Derived.Test.YtmpnjijbahjinafHeldRight
import Derived.Test.YtmpnjijbahjinafHoldImpl
import Derived.BigQuiet
namespace Go.Proofs.Ytmpnjijbahjinaf
open Go.RowKit Go.Sort

theorem bytes_no {z : ByteArray} (h : ¬ z = ⟨#[]⟩) : z.toList.isEmpty = false := by
  rw [ByteArray.toList_eq, List.isEmpty_eq_false_iff]
  intro e
  exact h (ByteArray.ext (Array.toList_inj.1 e))
theorem put1_eg : ∀ args w, (callFunc 43 args).run Try.prog w = .ok (.enter 43 args) w := enters_of Try.func43 (by kernel_rfl) rfl
set_option maxRecDepth 100000 in
set_option maxHeartbeats 4000000 in
theorem put1_no (w0 : World) (B T : Nat) (S : Stm) (v : Value) (part : ByteArray) (W : World) (H : Held w0 B 1 S v W) (hT : W.heap[T]? = some (.cells #[.string part] 9 (0, 0))) (hp : part.size ≤ 1048576) (ht : S.text.size ≤ 1048576) (G : Ending → World → Prop) (hG : ∀ W', Below W.heap.size W W' → G (.returned (.bool false)) W')
    (hno : ¬ S.st = 1 ∨ part = ⟨#[]⟩ ∨ 40 < part.size ∨ 400 < S.text.size + part.size) :
    Calls Try.prog 43 #[.pointer (some ⟨B, 2, none⟩), .pointer (some ⟨T, 0, none⟩)] W G := by
  obtain ⟨b2, b3, b4⟩ := H.box.cells
  have p0 : W.cell? ⟨T, 0, none⟩ = some (.string part) := by rw [cell_of_row W T 0 _ _ (0, 0) hT]; rfl
  obtain ⟨st, t, rd⟩ := S
  have HQ : Hid (∀ W', Below W.heap.size W W' → G (.returned (.bool false)) W') := hG
  dsimp only at b2 b3 ht hno
  clear hG H hT
  by_cases hs : st = 1
  · subst hs
    by_cases he : part = ⟨#[]⟩
    · subst he
      clear hno
      go_enter Try.func43, Try.ntmps43
      go_wp2_with fail
      go_quiet (fail)
      go_wp2_with fail
      exact HQ.out _ ⟨rfl, rfl, rfl, Nat.le_refl _, fun _ _ => rfl⟩
    · have hn := bytes_no he
      by_cases h4 : 40 < part.size
      · have h4' : decide ((40 : Int) < (part.size : Int)) = true := decide_eq_true (by omega)
        clear hno he
        go_enter Try.func43, Try.ntmps43
        go_wp2_with fail
        go_quiet (fail)
        go_wp2_with fail
        exact HQ.out _ ⟨rfl, rfl, rfl, Nat.le_refl _, fun _ _ => rfl⟩
      · have h4' : decide ((40 : Int) < (part.size : Int)) = false := decide_eq_false (by omega)
        have h5 : 400 < t.size + part.size := by
          rcases hno with h | h | h | h
          · exact absurd rfl h
          · exact absurd h he
          · omega
          · exact h
        have h6 : IntKind.i64.wrap ((t.size : Int) + (part.size : Int)) = (t.size : Int) + (part.size : Int) := by rw [IntKind.wrap_i64]; omega
        have h5' : decide ((400 : Int) < (t.size : Int) + (part.size : Int)) = true := decide_eq_true (by omega)
        clear hno he
        go_enter Try.func43, Try.ntmps43
        go_wp2_with fail
        go_quiet (fail)
        go_wp2_with fail
        exact HQ.out _ ⟨rfl, rfl, rfl, Nat.le_refl _, fun _ _ => rfl⟩
  · have hs' : (st != 1) = true := by simp [hs]
    clear hno
    go_enter Try.func43, Try.ntmps43
    go_wp2_with fail
    go_quiet (fail)
    go_wp2_with fail
    exact HQ.out _ ⟨rfl, rfl, rfl, Nat.le_refl _, fun _ _ => rfl⟩
set_option maxRecDepth 100000 in
set_option maxHeartbeats 4000000 in
theorem put1_yes (w0 : World) (B T : Nat) (S : Stm) (v : Value) (part : ByteArray) (W : World) (H : Held w0 B 1 S v W) (hT : W.heap[T]? = some (.cells #[.string part] 9 (0, 0))) (G : Ending → World → Prop) (hG : ∀ W', Below W.heap.size W W' → G (.returned (.bool true)) (W'.setCell ⟨B, 3, none⟩ (.string (S.text ++ part))))
    (hs : S.st = 1) (he : ¬ part = ⟨#[]⟩) (h4 : ¬ 40 < part.size) (h5 : ¬ 400 < S.text.size + part.size) :
    Calls Try.prog 43 #[.pointer (some ⟨B, 2, none⟩), .pointer (some ⟨T, 0, none⟩)] W G := by
  obtain ⟨st, t, rd⟩ := S
  dsimp only at hs h5 hG
  subst hs
  have hn := bytes_no he
  have h4' : decide ((40 : Int) < (part.size : Int)) = false := decide_eq_false (by omega)
  have h6 : IntKind.i64.wrap ((t.size : Int) + (part.size : Int)) = (t.size : Int) + (part.size : Int) := by rw [IntKind.wrap_i64]; omega
  have h5' : decide ((400 : Int) < (t.size : Int) + (part.size : Int)) = false := decide_eq_false (by omega)
  have h7 : ¬ 9223372036854775807 < t.size + part.size := by omega
  have HQ : Hid (∀ W', Below W.heap.size W W' → G (.returned (.bool true)) (W'.setCell ⟨B, 3, none⟩ (.string (t ++ part)))) := hG
  have HX : Hid (∀ W', Below W.heap.size W W' → HBox W' B 1 1 t v ∧ W'.heap[T]? = some (.cells #[.string part] 9 (0, 0))) := fun W' hb => ⟨H.box.on hb, (hb.block T (Array.getElem?_eq_some_iff.1 hT).1).trans hT⟩
  have HC : Hid (∀ W, Calls Try.prog 44 #[.string part] W fun e w' => e = .returned (.string part) ∧ Below W.heap.size W w') := fun W => cloneS_any part W (by omega)
  obtain ⟨b2, b3, b4⟩ := H.box.cells
  have p0 : W.cell? ⟨T, 0, none⟩ = some (.string part) := by rw [cell_of_row W T 0 _ _ (0, 0) hT]; rfl
  clear hG H hT he h4 h5
  go_enter Try.func43, Try.ntmps43
  go_wp2_with fail
  go_quiet (fail)
  have hb1 : Below W.heap.size W (W.drewN nq) := ⟨rfl, rfl, rfl, Nat.le_refl _, fun _ _ => rfl⟩
  generalize W.drewN nq = W1 at hb1 ⊢
  have hb2 : Below W.heap.size W W1.drew := hb1.trans ⟨rfl, rfl, rfl, Nat.le_refl _, fun _ _ => rfl⟩
  clear b2 b3 b4 p0
  obtain ⟨b2, b3, b4⟩ := (HX.out _ hb2).1.cells
  have z3 := (HX.out _ hb2).1.thaw 3
  have p0 : W1.drew.cell? ⟨T, 0, none⟩ = some (.string part) := by rw [cell_of_row W1.drew T 0 _ _ (0, 0) (HX.out _ hb2).2]; rfl
  go_wp2_with fail
  go_region_law (go_simp; go_at_call 44; refine (HC.out _).mono ?_; rintro e wC ⟨rfl, hC⟩; have fC : Below W.heap.size W wC := hb2.trans (hC.mono hb2.size); have x3 := (HX.out _ fC).1.cells.2.1; have y3 := (HX.out _ fC).1.thaw 3; have x0 : wC.cell? ⟨T, 0, none⟩ = some (.string part) := by rw [cell_of_row wC T 0 _ _ (0, 0) (HX.out _ fC).2]; rfl)
  all_goals go_wp2_with fail
  all_goals exact HQ.out _ fC
theorem put1_any (w0 : World) (B T : Nat) (S : Stm) (v : Value) (part : ByteArray) (W : World) (hp : part.size ≤ 1048576) (H : Held w0 B 1 S v W) (hT : W.heap[T]? = some (.cells #[.string part] 9 (0, 0))) (hok : okM S = true) (ht : S.text.size ≤ 1048576) (_ : S.rd.length ≤ 1048576) :
    Calls Try.prog 43 (#[.pointer (some ⟨B, 2, none⟩)] ++ #[.pointer (some ⟨T, 0, none⟩)]) W fun e w' => ∃ ok S' v', e = .returned (.bool ok) ∧ Held w0 B 1 S' v' w' ∧ Tch (fun k => k = B ∨ v.ownBlock = some k) W w' ∧ (S', ok) = putM S part := by
  by_cases hno : ¬ S.st = 1 ∨ part = ⟨#[]⟩ ∨ 40 < part.size ∨ 400 < S.text.size + part.size
  · refine put1_no w0 B T S v part W H hT hp ht _ (fun W' hb => ⟨false, S, v, rfl, H.on hb, Tch.of_below hb, ?_⟩) hno
    unfold putM
    rw [if_neg]
    intro h
    simp only [Bool.and_eq_true, decide_eq_true_eq] at h
    rcases hno with e | e | e | e
    · exact e h.1.1.2
    · rw [e] at h; exact absurd h.1.2.1 (by decide)
    · omega
    · omega
  · simp only [not_or, Classical.not_not] at hno
    obtain ⟨h1, h2, h3, h4⟩ := hno
    refine put1_yes w0 B T S v part W H hT _ (fun W' hb => ⟨true, _, v, rfl, (H.on hb).textTo _, (Tch.of_below hb).trans (tch_set _ _ _ _ (Or.inl rfl)), ?_⟩) h1 h2 h3 h4
    have h0 : 1 ≤ part.size := by
      rcases Nat.eq_zero_or_pos part.size with e | e
      · exact absurd (ByteArray.ext (Array.eq_empty_of_size_eq_zero e)) h2
      · exact e
    unfold putM
    rw [if_pos (by simp only [Bool.and_eq_true, decide_eq_true_eq]; exact ⟨⟨⟨hok, h1⟩, h0, by omega⟩, by omega⟩)]
end Go.Proofs.Ytmpnjijbahjinaf
