/- The other text's StreamEnd. Written by mkstm.py. -/
import Derived.Test.YtmpnjijbahjinafStmCopy
import Derived.Test.YtmpnjijbahjinafStmOkSpec
namespace Go.Proofs.Ytmpnjijbahjinaf
open Go.RowKit Go.Sort

set_option maxRecDepth 100000 in
set_option maxHeartbeats 4000000 in
theorem specStreamEnd_any (w : World) (a : Option Addr) (c : Nat) (S : Stm) (br : Bool) (hE : PAt w a S.rd w.heap.size) (ht : S.text.size ≤ 1048576) (hm : S.rd.length ≤ 1048576) :
    Calls Try.prog 20 #[.agg #[.int .i64 S.st, .string S.text, .slice a S.rd.length c], .bool br] w fun e w' => ∃ v, e = .returned (.tuple #[v, .bool (endM S br).2]) ∧ MOwn w' w.heap.size v (endM S br).1 ∧ Below w.heap.size w w' := by
  obtain ⟨st, t, rd⟩ := S
  dsimp only at hE ht hm ⊢
  obtain ⟨w0, hw0⟩ : ∃ x, w.alloc (.cells #[.int .i64 st, .string t, .slice a rd.length c] 26) = x := ⟨_, rfl⟩
  obtain ⟨w1, hw1⟩ : ∃ x, w0.alloc (.cells #[.int .i64 0, .string ⟨#[]⟩, .slice none 0 0] 26) = x := ⟨_, rfl⟩
  have hb0 : Below w.heap.size w w0 := by rw [← hw0]; exact (Below.refl _ _).alloc (Nat.le_refl _) _
  have hb1 : Below w0.heap.size w0 w1 := by rw [← hw1]; exact (Below.refl _ _).alloc (Nat.le_refl _) _
  have s0 : w0.heap.size = w.heap.size + 1 := by rw [← hw0]; simp
  have s1 : w1.heap.size = w.heap.size + 2 := by rw [← hw1]; simp; omega
  have hB : MBox w1 w.heap.size (.int .i64 st) (.string t) (.slice a rd.length c) := by
    have h : MBox w0 w.heap.size (.int .i64 st) (.string t) (.slice a rd.length c) := by rw [← hw0]; exact MBox.new _ _ _ _
    exact h.on hb1
  have hR : MBox w1 (w.heap.size + 1) (.int .i64 0) (.string ⟨#[]⟩) (.slice none 0 0) := by rw [← hw1, ← s0]; exact MBox.new _ _ _ _
  have hBw : Below w.heap.size w w1 := hb0.trans (hb1.mono hb0.size)
  have HW : Hid ((w.alloc (.cells #[.int .i64 st, .string t, .slice a rd.length c] 26)).alloc (.cells #[.int .i64 0, .string ⟨#[]⟩, .slice none 0 0] 26) = w1) := by rw [hw0]; exact hw1
  have HX : Hid (∀ wi, Below w1.heap.size w1 wi → MBox wi w.heap.size (.int .i64 st) (.string t) (.slice a rd.length c) ∧ MBox wi (w.heap.size + 1) (.int .i64 0) (.string ⟨#[]⟩) (.slice none 0 0) ∧ PAt wi a rd wi.heap.size ∧ Below w.heap.size w wi) := fun wi hi => ⟨hB.on hi, hR.on hi, (hE.on hBw).on hi, hBw.trans (hi.mono hBw.size)⟩
  have HS1 : Hid (w1.heap.size = w.heap.size + 2) := s1
  have c0 := l14Copy_any w1 a c ⟨st, t, rd⟩ (hE.on hBw) hm
  obtain ⟨b0, b1, b2⟩ := hB.cells
  clear hw0 hw1 hb0 hb1 hB hR s0 s1 hE hBw
  go_enter Try.func20, Try.ntmps20
  go_wp2_with fail
  rw [HW.out]
  refine c0.mono ?_
  rintro e w2 ⟨v0, rfl, ho, hb2⟩
  obtain ⟨a2, c2, rfl, hA2⟩ := ho.at
  clear c0 b0 b1 b2
  dsimp only at hA2 ⊢
  obtain ⟨w3, hw3⟩ : ∃ x, w2.alloc (.cells #[.int .i64 st, .string t, .slice a2 rd.length c2] 26) = x := ⟨_, rfl⟩
  have hb3 : Below w2.heap.size w2 w3 := by rw [← hw3]; exact (Below.refl _ _).alloc (Nat.le_refl _) _
  have hb23 : Below w1.heap.size w1 w3 := hb2.trans (hb3.mono hb2.size)
  have hT : MBox w3 w2.heap.size (.int .i64 st) (.string t) (.slice a2 rd.length c2) := by rw [← hw3]; exact MBox.new _ _ _ _
  have ho3 := ho.below hb3 (Nat.le_refl _)
  have HW3 : Hid (w2.alloc (.cells #[.int .i64 st, .string t, .slice a2 rd.length c2] 26) = w3) := hw3
  obtain ⟨hB3, hR3, hE3, hw3b⟩ := HX.out w3 hb23
  obtain ⟨b0, b1, b2⟩ := hB3.cells
  have hsz : w.heap.size + 2 ≤ w2.heap.size := by rw [← HS1.out]; exact hb2.size
  clear hw3
  have cO := specStreamOk_any w3 a c ⟨st, t, rd⟩ hE3 ht (by dsimp only; omega)
  rw [← HW3.out] at b0 b1 b2
  go_wp2_with fail
  rw [HW3.out] at b0 b1 b2 ⊢
  refine cO.mono ?_
  rintro e w4 ⟨rfl, hb4⟩
  clear cO
  have hb14 : Below w1.heap.size w1 w4 := hb23.trans (hb4.mono hb23.size)
  obtain ⟨hB4, hR4, hE4, hw4b⟩ := HX.out w4 hb14
  have hT4 := hT.on hb4
  have ho4 := ho3.below hb4 (Nat.le_refl _)
  clear b0 b1 b2 hB3 hR3 hE3 hw3b hT ho3 ho hA2 hb3 hb23 hb4 HW3 HW
  obtain ⟨t0, t1, t2⟩ := hT4.cells
  obtain ⟨z0, z1, z2⟩ := (⟨hT4.thaw 0, hT4.thaw 1, hT4.thaw 2⟩ : _ ∧ _ ∧ _)
  obtain ⟨r0, r1, r2⟩ := hR4.cells
  obtain ⟨f0, f1, f2⟩ := (⟨hR4.thaw 0, hR4.thaw 1, hR4.thaw 2⟩ : _ ∧ _ ∧ _)
  obtain ⟨b0, b1, b2⟩ := hB4.cells
  cases hok : okM ⟨st, t, rd⟩ with
  | false =>
    have HP : Hid (endM ⟨st, t, rd⟩ br = (⟨st, t, rd⟩, false)) := by show _ = _; unfold endM; rw [hok]; rfl
    go_wp2_with fail
    obtain ⟨q0, q1, q2⟩ := (hR4.put (.int .i64 st) (.string t) (.slice a2 rd.length c2)).cells
    refine bodyPost_ret (v := .tuple #[.agg #[(.int .i64 st), (.string t), (.slice a2 rd.length c2)], .bool false]) (by simp [results, Try.results20, go_sem, q0, q1, q2]) rfl ⟨_, by rw [HP.out], ?_, Below.put3M hw4b (by have := HS1.out; omega) _ _ _⟩
    rw [HP.out]
    exact ((ho4).put3 hR4 _ _ _).mono (by have := HS1.out; omega)
  | true =>
    by_cases hs : st = 1
    · cases br with
      | false =>
        have HP : Hid (endM ⟨st, t, rd⟩ false = (⟨2, t, rd⟩, true)) := by show _ = _; unfold endM; rw [hok]; simp [hs]
        have hT5 := hT4.set0 (.int .i64 2)
        obtain ⟨y0, y1, y2⟩ := hT5.cells
        have hR5 : MBox (w4.setCell ⟨w2.heap.size, 0, none⟩ (.int .i64 2)) (w.heap.size + 1) (.int .i64 0) (.string ⟨#[]⟩) (.slice none 0 0) := hR4.kept (Below.heap_setCell _ _ _ _ (show w.heap.size + 1 ≠ w2.heap.size by omega))
        obtain ⟨s0, s1, s2⟩ := hR5.cells
        obtain ⟨g0, g1, g2⟩ := (⟨hR5.thaw 0, hR5.thaw 1, hR5.thaw 2⟩ : _ ∧ _ ∧ _)
        have HO5 : Hid (MOwn (w4.setCell ⟨w2.heap.size, 0, none⟩ (.int .i64 2)) w1.heap.size (.agg #[(.int .i64 2), (.string t), .slice a2 rd.length c2]) ⟨2, t, rd⟩) := by
          obtain ⟨v1, hv, h1⟩ := ho4.box hT4 (w' := w4.setCell ⟨w2.heap.size, 0, none⟩ (.int .i64 2)) fun k hk => Below.heap_setCell _ _ _ _ hk
          simp only [Value.agg.injEq, Array.mk.injEq, List.cons.injEq, and_true] at hv
          obtain ⟨_, _, rfl⟩ := hv
          exact ⟨_, rfl, h1⟩
        have hw5 : Below w.heap.size w (w4.setCell ⟨w2.heap.size, 0, none⟩ (.int .i64 2)) := hw4b.setCell (show w.heap.size ≤ w2.heap.size by omega) _
        clear ho4 r0 r1 r2 f0 f1 f2
        go_wp2_with fail
        obtain ⟨q0, q1, q2⟩ := (hR5.put (.int .i64 2) (.string t) (.slice a2 rd.length c2)).cells
        refine bodyPost_ret (v := .tuple #[.agg #[(.int .i64 2), (.string t), (.slice a2 rd.length c2)], .bool true]) (by simp [results, Try.results20, go_sem, q0, q1, q2]) rfl ⟨_, by rw [HP.out], ?_, Below.put3M hw5 (by have := HS1.out; omega) _ _ _⟩
        rw [HP.out]
        exact ((HO5.out).put3 hR5 _ _ _).mono (by have := HS1.out; omega)
      | true =>
        have HP : Hid (endM ⟨st, t, rd⟩ true = (⟨3, t, rd⟩, true)) := by show _ = _; unfold endM; rw [hok]; simp [hs]
        have hT5 := hT4.set0 (.int .i64 2)
        obtain ⟨y0, y1, y2⟩ := hT5.cells
        have y3 := hT5.thaw 0
        have hT6 := hT5.set0 (.int .i64 3)
        obtain ⟨u0, u1, u2⟩ := hT6.cells
        have hk6 : ∀ k, k ≠ w2.heap.size → ((w4.setCell ⟨w2.heap.size, 0, none⟩ (.int .i64 2)).setCell ⟨w2.heap.size, 0, none⟩ (.int .i64 3)).heap[k]? = w4.heap[k]? := fun k hk => (Below.heap_setCell _ _ _ _ hk).trans (Below.heap_setCell _ _ _ _ hk)
        have hR5 : MBox ((w4.setCell ⟨w2.heap.size, 0, none⟩ (.int .i64 2)).setCell ⟨w2.heap.size, 0, none⟩ (.int .i64 3)) (w.heap.size + 1) (.int .i64 0) (.string ⟨#[]⟩) (.slice none 0 0) := hR4.kept (hk6 _ (by omega))
        obtain ⟨s0, s1, s2⟩ := hR5.cells
        obtain ⟨g0, g1, g2⟩ := (⟨hR5.thaw 0, hR5.thaw 1, hR5.thaw 2⟩ : _ ∧ _ ∧ _)
        have HO5 : Hid (MOwn ((w4.setCell ⟨w2.heap.size, 0, none⟩ (.int .i64 2)).setCell ⟨w2.heap.size, 0, none⟩ (.int .i64 3)) w1.heap.size (.agg #[.int .i64 3, .string t, .slice a2 rd.length c2]) ⟨3, t, rd⟩) := by
          obtain ⟨v1, hv, h1⟩ := ho4.box hT4 hk6
          simp only [Value.agg.injEq, Array.mk.injEq, List.cons.injEq, and_true] at hv
          obtain ⟨_, _, rfl⟩ := hv
          exact ⟨_, rfl, h1⟩
        have hw5 : Below w.heap.size w ((w4.setCell ⟨w2.heap.size, 0, none⟩ (.int .i64 2)).setCell ⟨w2.heap.size, 0, none⟩ (.int .i64 3)) := (hw4b.setCell (show w.heap.size ≤ w2.heap.size by omega) _).setCell (show w.heap.size ≤ w2.heap.size by omega) _
        clear ho4 r0 r1 r2 f0 f1 f2 hk6
        go_wp2_with fail
        obtain ⟨q0, q1, q2⟩ := (hR5.put (.int .i64 3) (.string t) (.slice a2 rd.length c2)).cells
        refine bodyPost_ret (v := .tuple #[.agg #[(.int .i64 3), (.string t), (.slice a2 rd.length c2)], .bool true]) (by simp [results, Try.results20, go_sem, q0, q1, q2]) rfl ⟨_, by rw [HP.out], ?_, Below.put3M hw5 (by have := HS1.out; omega) _ _ _⟩
        rw [HP.out]
        exact ((HO5.out).put3 hR5 _ _ _).mono (by have := HS1.out; omega)
    · have hs' : (st != 1) = true := by simp [hs]
      have HP : Hid (endM ⟨st, t, rd⟩ br = (⟨st, t, rd⟩, false)) := by show _ = _; unfold endM; rw [hok]; simp [hs]
      go_wp2_with fail
      obtain ⟨q0, q1, q2⟩ := (hR4.put (.int .i64 st) (.string t) (.slice a2 rd.length c2)).cells
      refine bodyPost_ret (v := .tuple #[.agg #[(.int .i64 st), (.string t), (.slice a2 rd.length c2)], .bool false]) (by simp [results, Try.results20, go_sem, q0, q1, q2]) rfl ⟨_, by rw [HP.out], ?_, Below.put3M hw4b (by have := HS1.out; omega) _ _ _⟩
      rw [HP.out]
      exact ((ho4).put3 hR4 _ _ _).mono (by have := HS1.out; omega)
end Go.Proofs.Ytmpnjijbahjinaf
