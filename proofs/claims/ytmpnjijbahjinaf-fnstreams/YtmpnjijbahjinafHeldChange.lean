/- The program's (*heldStream).change: the lock is taken, something is done, the stream is handed on, the deferred Unlock gives it back. -/
import Derived.Test.YtmpnjijbahjinafHeldKit
import Derived.Shelf.Abstract
import Derived.Deep.RegionLaw
namespace Go.Proofs.Ytmpnjijbahjinaf
open Go.RowKit Go.Sort Go.MuLone

set_option maxRecDepth 100000 in
set_option maxHeartbeats 4000000 in
theorem change_any (g : Nat) (lb : Array Value) (eg : ∀ args w, (callFunc g args).run Try.prog w = .ok (.enter g args) w) (w : World) (B : Nat) (st : Int) (t : ByteArray) (v : Value) (hB : HBox w B 0 st t v) (Q : Bool → Int → ByteArray → Value → World → Prop)
    (hf : ∀ W, HBox W B 1 st t v → MBox W w.heap.size (.int .i64 0) (.string ⟨#[]⟩) (.slice none 0 0) → Tch (fun k => k = B) w W → Calls Try.prog g (#[.pointer (some ⟨B, 2, none⟩)] ++ lb) W fun e w' => ∃ ok st' t' a' n' c', e = .returned (.bool ok) ∧ HBox w' B 1 st' t' (.slice a' n' c') ∧ MBox w' w.heap.size (.int .i64 0) (.string ⟨#[]⟩) (.slice none 0 0) ∧ Q ok st' t' (.slice a' n' c') w') :
    Calls Try.prog 39 #[.pointer (some ⟨B, 0, none⟩), .func (.func g) #[] lb] w fun e w' => ∃ ok st' t' v' w2, e = .returned (.tuple #[.agg #[.int .i64 st', .string t', v'], .bool ok]) ∧ Q ok st' t' v' w2 ∧ HBox w2 B 1 st' t' v' ∧ MBox w2 w.heap.size (.int .i64 0) (.string ⟨#[]⟩) (.slice none 0 0) ∧ Tch (fun k => k = B ∨ k = w.heap.size) w2 w' ∧ HBox w' B 0 st' t' v' := by
  have hBn : B < w.heap.size := hB.lt
  obtain ⟨w1, hw1⟩ : ∃ x, w.alloc (.cells #[.int .i64 0, .string ⟨#[]⟩, .slice none 0 0] 26) = x := ⟨_, rfl⟩
  have hb1 : Below w.heap.size w w1 := by rw [← hw1]; exact (Below.refl _ _).alloc (Nat.le_refl _) _
  have hR1 : MBox w1 w.heap.size (.int .i64 0) (.string ⟨#[]⟩) (.slice none 0 0) := by rw [← hw1]; exact MBox.new _ _ _ _
  have hB1 : HBox w1 B 0 st t v := hB.on hb1
  have HW : Hid (w.alloc (.cells #[.int .i64 0, .string ⟨#[]⟩, .slice none 0 0] 26) = w1) := hw1
  have c0 := hf (w1.setCell ⟨B, 0, none⟩ (.int .i32 1)) (hB1.setL 1) (hR1.kept (Below.heap_setCell _ _ _ _ (show w.heap.size ≠ B by omega))) ((Tch.of_below hb1).trans (tch_set _ _ _ _ rfl))
  have hl := hB1.lock
  have hz := hB1.thaw 0
  clear hw1 hb1 hR1 hB1 hf hB
  go_enter_defers Try.func39, Try.ntmps39
  go_wp2_with fail
  rw [HW.out]
  refine (lock_free Try.muLib ⟨B, 0, none⟩ _ hl hz).mono ?_
  rintro e wx ⟨rfl, rfl⟩
  go_wp2_with (go_at_fn g; refine c0.mono ?_; rintro e w2 ⟨ok, st', t', a', n', c', rfl, hB2, hR2, hQ⟩; obtain ⟨x2, x3, x4⟩ := hB2.cells; obtain ⟨r0, r1, r2⟩ := hR2.cells; obtain ⟨f0, f1, f2⟩ := (⟨hR2.thaw 0, hR2.thaw 1, hR2.thaw 2⟩ : _ ∧ _ ∧ _))
  have hk3 : ∀ k, k ≠ w.heap.size → (((w2.setCell ⟨w.heap.size, 0, none⟩ (.int .i64 st')).setCell ⟨w.heap.size, 1, none⟩ (.string t')).setCell ⟨w.heap.size, 2, none⟩ (.slice a' n' c')).heap[k]? = w2.heap[k]? := fun k hk => put3_otherM _ _ _ _ _ k hk
  have hB3 : HBox (((w2.setCell ⟨w.heap.size, 0, none⟩ (.int .i64 st')).setCell ⟨w.heap.size, 1, none⟩ (.string t')).setCell ⟨w.heap.size, 2, none⟩ (.slice a' n' c')) B 1 st' t' (.slice a' n' c') := hB2.kept (hk3 B (by omega))
  obtain ⟨q0, q1, q2⟩ := (hR2.put (.int .i64 st') (.string t') (.slice a' n' c')).cells
  refine leaves_cons (f := 68) (args := #[.pointer (some ⟨B, 0, none⟩)]) (by simp) (by simp [go_sem]) ?_
  refine (unlock_deferred Try.muLib ⟨B, 0, none⟩ .returning _ hB3.lock (hB3.thaw 0)).mono ?_
  rintro e u' w3 ⟨rfl, rfl, rfl⟩
  have k0 : ((((w2.setCell ⟨w.heap.size, 0, none⟩ (.int .i64 st')).setCell ⟨w.heap.size, 1, none⟩ (.string t')).setCell ⟨w.heap.size, 2, none⟩ (.slice a' n' c')).setCell ⟨B, 0, none⟩ (.int .i32 0)).heap[w.heap.size]? = (((w2.setCell ⟨w.heap.size, 0, none⟩ (.int .i64 st')).setCell ⟨w.heap.size, 1, none⟩ (.string t')).setCell ⟨w.heap.size, 2, none⟩ (.slice a' n' c')).heap[w.heap.size]? := Below.heap_setCell _ _ _ _ (show w.heap.size ≠ B by omega)
  obtain ⟨y0, y1, y2⟩ := ((hR2.put (.int .i64 st') (.string t') (.slice a' n' c')).kept k0).cells
  refine ⟨_, by simp [results, Try.results39, go_sem, y0, y1, y2], ok, st', t', _, w2, rfl, hQ, hB2, hR2, ?_, hB3.setL 0⟩
  exact (((tch_set _ _ _ _ (Or.inr rfl)).trans (tch_set _ _ _ _ (Or.inr rfl))).trans (tch_set _ _ _ _ (Or.inr rfl))).trans (tch_set _ _ _ _ (Or.inl rfl))
end Go.Proofs.Ytmpnjijbahjinaf
