/- Texts that stand in one: PolLaw2, PolMark. -/
import Derived.Test.YtpgcfgbhkodmeaaPolLaw
namespace Go.Proofs.Ytpgcfgbhkodmeaa
open Go.RowKit Go.Sort

set_option maxHeartbeats 4000000 in
theorem toPolicy_any (w : World) (aw am ak : Option Addr) (cw cm ck : Nat) (P : Pol) (hA : PolAt w aw am ak P w.heap.size) (hm : PolSz P) :
    Calls Try.prog 26 #[.agg #[.slice aw P.win.length cw, .slice am P.main.length cm, .slice ak P.sk.rows.length ck, .int .i64 P.sk.added]] w fun e w' => ∃ v, e = .returned v ∧ POwn w' w.heap.size w'.heap.size v P ∧ Below w.heap.size w w' := by
  obtain ⟨l1, l2, l3⟩ := hm.parts
  obtain ⟨w0, hw0⟩ : ∃ x, w.alloc (.cells #[.slice aw P.win.length cw, .slice am P.main.length cm, .slice ak P.sk.rows.length ck, .int .i64 P.sk.added] 28) = x := ⟨_, rfl⟩
  obtain ⟨w1, hw1⟩ : ∃ x, w0.alloc (.cells #[.slice none 0 0, .slice none 0 0, .slice none 0 0, .int .i64 0] 38) = x := ⟨_, rfl⟩
  obtain ⟨w2, hw2⟩ : ∃ x, w1.alloc (.cells #[.slice none 0 0, .slice none 0 0, .slice none 0 0, .int .i64 0] 38) = x := ⟨_, rfl⟩
  have hb0 : Below w.heap.size w w0 := by rw [← hw0]; exact (Below.refl _ _).alloc (Nat.le_refl _) _
  have hb1 : Below w0.heap.size w0 w1 := by rw [← hw1]; exact (Below.refl _ _).alloc (Nat.le_refl _) _
  have hb2 : Below w1.heap.size w1 w2 := by rw [← hw2]; exact (Below.refl _ _).alloc (Nat.le_refl _) _
  have s0 : w0.heap.size = w.heap.size + 1 := by rw [← hw0]; simp
  have s1 : w1.heap.size = w.heap.size + 2 := by rw [← hw1]; simp; omega
  have s2 : w2.heap.size = w.heap.size + 3 := by rw [← hw2]; simp; omega
  have hb12 : Below w0.heap.size w0 w2 := hb1.trans (hb2.mono hb1.size)
  have hbw : Below w.heap.size w w2 := hb0.trans (hb12.mono hb0.size)
  have hB : QBox w2 w.heap.size (.slice aw P.win.length cw) (.slice am P.main.length cm) (.slice ak P.sk.rows.length ck) (.int .i64 P.sk.added) := by
    have h : QBox w0 w.heap.size (.slice aw P.win.length cw) (.slice am P.main.length cm) (.slice ak P.sk.rows.length ck) (.int .i64 P.sk.added) := by rw [← hw0]; exact QBox.new _ _ _ _ _
    exact h.on hb12
  have hR : PBox w2 (w.heap.size + 1) (.slice none 0 0) (.slice none 0 0) (.slice none 0 0) (.int .i64 0) := by
    have h : PBox w1 (w.heap.size + 1) (.slice none 0 0) (.slice none 0 0) (.slice none 0 0) (.int .i64 0) := by rw [← hw1, ← s0]; exact PBox.new _ _ _ _ _
    exact h.on hb2
  have hT : PBox w2 (w.heap.size + 2) (.slice none 0 0) (.slice none 0 0) (.slice none 0 0) (.int .i64 0) := by rw [← hw2, ← s1]; exact PBox.new _ _ _ _ _
  have HW : Hid (((w.alloc (.cells #[.slice aw P.win.length cw, .slice am P.main.length cm, .slice ak P.sk.rows.length ck, .int .i64 P.sk.added] 28)).alloc (.cells #[.slice none 0 0, .slice none 0 0, .slice none 0 0, .int .i64 0] 38)).alloc (.cells #[.slice none 0 0, .slice none 0 0, .slice none 0 0, .int .i64 0] 38) = w2) := by rw [hw0, hw1]; exact hw2
  obtain ⟨b0, b1, b2, b3⟩ := hB.cells
  have hA2 := hA.on hbw
  have c1 := toStringS_any w2 aw cw P.win hA2.1 l1
  rw [← hw2, ← hw1, ← hw0] at b0 b1 b2 b3
  have HS2 : Hid (w2.heap.size = w.heap.size + 3) := s2
  clear hw0 hw1 hw2 s0 s1 s2 hb0 hb1 hb2 hb12
  go_enter Try.func26, Try.ntmps26
  go_wp2_with fail
  rw [HW.out] at b0 b1 b2 b3 ⊢
  refine c1.mono ?_
  rintro e w3 ⟨v3, rfl, ho3, hb3⟩
  clear b0 b1 b2 b3 c1
  obtain ⟨a3, k3, rfl, _⟩ := ho3.strsAt
  have hbw3 := hbw.trans (hb3.mono hbw.size)
  have hT3 := hT.on hb3
  obtain ⟨t0, t1, t2, t3⟩ := hT3.cells
  have f0 := hT3.thaw 0
  obtain ⟨w4, hw4⟩ : ∃ x, w3.setCell ⟨w.heap.size + 2, 0, none⟩ (.slice a3 P.win.length k3) = x := ⟨_, rfl⟩
  have k4 : ∀ k, k ≠ w.heap.size + 2 → w4.heap[k]? = w3.heap[k]? := fun k hk => by rw [← hw4]; exact Below.heap_setCell _ _ _ _ (by exact hk)
  have z4 : w4.heap.size = w3.heap.size := by rw [← hw4]; simp
  have hT4 : PBox w4 (w.heap.size + 2) (.slice a3 P.win.length k3) (.slice none 0 0) (.slice none 0 0) (.int .i64 0) := by rw [← hw4]; exact hT3.set0 _
  have hB4 := (hB.on hb3).kept (k4 w.heap.size (by omega))
  have hR4 := (hR.on hb3).kept (k4 (w.heap.size + 1) (by omega))
  have hbw4 : Below w.heap.size w w4 := by rw [← hw4]; exact hbw3.setCell (by show w.heap.size ≤ w.heap.size + 2; omega) _
  have ho4 : OwnV w4 w2.heap.size 9 (.slice a3 P.win.length k3) (strs P.win) := ho3.kept fun k hk => k4 k (by have := (ho3.lt k hk).1; have := HS2.out; omega)
  obtain ⟨b0, b1, b2, b3⟩ := hB4.cells
  have c2 := toStringS_any w4 am cm P.main (hA.on hbw4).2.1 l2
  have HW4 : Hid (w3.setCell ⟨w.heap.size + 2, 0, none⟩ (.slice a3 P.win.length k3) = w4) := hw4
  have HO4 : Hid (OwnV w4 w2.heap.size 9 (.slice a3 P.win.length k3) (strs P.win)) := ho4
  have HZ4 : Hid (w2.heap.size ≤ w3.heap.size ∧ w4.heap.size = w3.heap.size) := ⟨hb3.size, z4⟩
  rw [← hw4] at b0 b1 b2 b3
  clear hw4 k4 z4 ho3 ho4 hT hB hR hT3 hbw3 hb3 hA2
  go_wp2_with fail
  rw [HW4.out] at b0 b1 b2 b3 ⊢
  clear t0 t1 t2 t3 f0
  refine c2.mono ?_
  rintro e w5 ⟨v5, rfl, ho5, hb5⟩
  clear b0 b1 b2 b3 c2
  obtain ⟨a5, k5, rfl, _⟩ := ho5.strsAt
  have hbw5 := hbw4.trans (hb5.mono hbw4.size)
  have hT5 := hT4.on hb5
  obtain ⟨t0, t1, t2, t3⟩ := hT5.cells
  have f0 := hT5.thaw 1
  obtain ⟨w6, hw6⟩ : ∃ x, w5.setCell ⟨w.heap.size + 2, 1, none⟩ (.slice a5 P.main.length k5) = x := ⟨_, rfl⟩
  have k6 : ∀ k, k ≠ w.heap.size + 2 → w6.heap[k]? = w5.heap[k]? := fun k hk => by rw [← hw6]; exact Below.heap_setCell _ _ _ _ (by exact hk)
  have z6 : w6.heap.size = w5.heap.size := by rw [← hw6]; simp
  have hT6 : PBox w6 (w.heap.size + 2) (.slice a3 P.win.length k3) (.slice a5 P.main.length k5) (.slice none 0 0) (.int .i64 0) := by rw [← hw6]; exact hT5.set1 _
  have hB6 := (hB4.on hb5).kept (k6 w.heap.size (by omega))
  have hR6 := (hR4.on hb5).kept (k6 (w.heap.size + 1) (by omega))
  have hbw6 : Below w.heap.size w w6 := by rw [← hw6]; exact hbw5.setCell (by show w.heap.size ≤ w.heap.size + 2; omega) _
  have HO6 : Hid (OwnV w6 w2.heap.size 9 (.slice a3 P.win.length k3) (strs P.win)) := (HO4.out.below hb5 (Nat.le_refl _)).kept fun k hk => k6 k (by have := (HO4.out.lt k hk).1; have := HS2.out; omega)
  have HM6 : Hid (OwnV w6 w4.heap.size 9 (.slice a5 P.main.length k5) (strs P.main)) := ho5.kept fun k hk => k6 k (by have := (ho5.lt k hk).1; have := HS2.out; have := HZ4.out; omega)
  have HZ6 : Hid (w4.heap.size ≤ w6.heap.size) := by show _ ≤ _; rw [z6]; exact hb5.size
  have HN : Hid (∀ k, (Value.slice a3 P.win.length k3).ownBlock = some k → (Value.slice a5 P.main.length k5).ownBlock ≠ some k) := fun k hk he => by
    have := (HO4.out.lt k hk).2
    have := (ho5.lt k he).1
    omega
  obtain ⟨b0, b1, b2, b3⟩ := hB6.cells
  have c3 := toSketch_any w6 ak ck P.sk (hA.on hbw6).2.2 l3
  have HW6 : Hid (w5.setCell ⟨w.heap.size + 2, 1, none⟩ (.slice a5 P.main.length k5) = w6) := hw6
  rw [← hw6] at b0 b1 b2 b3
  clear hw6 k6 z6 ho5 hT4 hB4 hR4 hT5 hbw5 hb5 hbw4 HO4
  go_wp2_with fail
  rw [HW6.out] at b0 b1 b2 b3 ⊢
  clear t0 t1 t2 t3 f0
  refine c3.mono ?_
  rintro e w7 ⟨v7, rfl, ⟨u7, rfl, ho7⟩, hb7⟩
  clear b0 b1 b2 b3 c3
  obtain ⟨a7, k7, rfl, _⟩ := ho7.at
  have hbw7 := hbw6.trans (hb7.mono hbw6.size)
  have hT7 := hT6.on hb7
  have hR7 := hR6.on hb7
  have HO7 : Hid (OwnV w7 w2.heap.size 9 (.slice a3 P.win.length k3) (strs P.win)) := HO6.out.below hb7 (Nat.le_refl _)
  have HM7 : Hid (OwnV w7 w4.heap.size 9 (.slice a5 P.main.length k5) (strs P.main)) := HM6.out.below hb7 (Nat.le_refl _)
  have HP : Hid (POwn w7 w2.heap.size w7.heap.size (.agg #[.slice a3 P.win.length k3, .slice a5 P.main.length k5, (.slice a7 P.sk.rows.length k7), .int .i64 P.sk.added]) P) :=
    ⟨_, _, _, rfl, HO7.out, HM7.out.mono (by have := HZ4.out; omega), fun k hk => ⟨(HO7.out.lt k hk).2, HN.out k hk⟩, fun k hk => (HM7.out.lt k hk).2, ho7.mono (by have := HZ4.out; have := HZ6.out; omega) (Nat.le_refl _)⟩
  obtain ⟨t0, t1, t2, t3⟩ := hT7.cells
  have f2 := hT7.thaw 2
  have hT8 := hT7.set2 (.slice a7 P.sk.rows.length k7)
  have t3' := hT8.cells.2.2.2
  have f3 := hT8.thaw 3
  have hT9 := hT8.set3 (.int .i64 P.sk.added)
  obtain ⟨y0, y1, y2, y3⟩ := hT9.cells
  have hR9 := (hR7.far 2 (.slice a7 P.sk.rows.length k7) (show w.heap.size + 1 ≠ w.heap.size + 2 by omega)).far 3 (.int .i64 P.sk.added) (show w.heap.size + 1 ≠ w.heap.size + 2 by omega)
  obtain ⟨r0, r1, r2, r3⟩ := hR9.cells
  have g0 := hR9.thaw 0
  have g1 := hR9.thaw 1
  have g2 := hR9.thaw 2
  have g3 := hR9.thaw 3
  have HP9 : Hid (POwn ((w7.setCell ⟨w.heap.size + 2, 2, none⟩ (.slice a7 P.sk.rows.length k7)).setCell ⟨w.heap.size + 2, 3, none⟩ (.int .i64 P.sk.added)) w2.heap.size w7.heap.size (.agg #[.slice a3 P.win.length k3, .slice a5 P.main.length k5, (.slice a7 P.sk.rows.length k7), .int .i64 P.sk.added]) P) := HP.out.box hT7 fun k hk => (Below.heap_setCell _ _ _ _ (by exact hk)).trans (Below.heap_setCell _ _ _ _ (by exact hk))
  have hbw9 : Below w.heap.size w ((w7.setCell ⟨w.heap.size + 2, 2, none⟩ (.slice a7 P.sk.rows.length k7)).setCell ⟨w.heap.size + 2, 3, none⟩ (.int .i64 P.sk.added)) := (hbw7.setCell (by show w.heap.size ≤ w.heap.size + 2; omega) _).setCell (by show w.heap.size ≤ w.heap.size + 2; omega) _
  clear ho7 hT6 hB6 hR6 hT8 hT9 hR7 HO6 HM6 HO7 HM7 HN HP HZ6 HZ4 hA hb7
  go_wp2_with fail
  obtain ⟨q0, q1, q2, q3⟩ := (hR9.put (.slice a3 P.win.length k3) (.slice a5 P.main.length k5) (.slice a7 P.sk.rows.length k7) (.int .i64 P.sk.added)).cells
  refine bodyPost_ret (v := .agg #[.slice a3 P.win.length k3, .slice a5 P.main.length k5, (.slice a7 P.sk.rows.length k7), .int .i64 P.sk.added]) (by simp [results, Try.results26, go_sem, q0, q1, q2, q3]) rfl ⟨_, rfl, ?_, Below.put4 hbw9 (by omega) _ _ _ _⟩
  refine (HP9.out.put4 hR9 _ _ _ _).mono (by have := HS2.out; omega) ?_
  simp
end Go.Proofs.Ytpgcfgbhkodmeaa

namespace Go.Proofs.Ytpgcfgbhkodmeaa
open Go.RowKit Go.Sort

end Go.Proofs.Ytpgcfgbhkodmeaa
