/- The draws of the laws on steps. -/
import Derived.Test.YtockgojdmaladabAnyDraw
namespace Go.Proofs.Ytockgojdmaladab
open Go.RowKit Go.Sort

set_option maxRecDepth 100000 in
set_option maxHeartbeats 2000000 in
theorem drawStepTask_any (w : World) (ca : Option Addr) (n cap : Nat) (hcode : CodeAt w ca n w.heap.size) (hn : n ≤ 1048576) :
    Calls Try.prog 31 #[.slice ca n cap] w fun e w' => ∃ (a : Option Addr) (c : Nat) (l : List Int) (t : Tk), e = .returned (.tuple #[.slice a l.length c, .agg (tcs t)]) ∧ l.length ≤ 63 ∧ l.all nOkC = true ∧ IAt w' a l w'.heap.size ∧ Below w.heap.size w w' := by
  obtain ⟨w1, hw1⟩ : ∃ w1, w.alloc (.cells (tcs Tk.zero) 43) = w1 := ⟨_, rfl⟩
  have hb1 : Below w.heap.size w w1 := by rw [← hw1]; exact (Below.refl _ _).alloc (Nat.le_refl _) _
  have hR1 : TBox w1 w.heap.size Tk.zero := by rw [← hw1]; exact TBox.new _ _
  have HW : Hid (w.alloc (.cells #[.int .i64 0, .int .i64 0, .int .i64 0, .int .i64 0, .int .i64 0, .int .i64 0, .int .i64 0, .int .i64 0, .int .i64 0, .bool false, .int .i64 0] 43) = w1) := hw1
  have hcode1 : CodeAt w1 ca n w1.heap.size := by
    intro j hj
    obtain ⟨b, off, z, h1, h2, h3, h4⟩ := hcode j hj
    exact ⟨b, off, z, h1, Nat.lt_of_lt_of_le h2 hb1.size, (hb1.cell (p := ⟨b, off + j, none⟩) h2).trans h3, h4⟩
  have c1 := new_any w1 ca n cap hcode1 hn
  clear hcode hcode1 hw1
  go_enter Try.func31, Try.ntmps31
  go_wp2_with fail
  rw [HW.out]
  refine c1.mono ?_
  rintro e w2 ⟨p, rfl, hp1, hp2, hcur, hcd, hb2⟩
  have hR2 := hR1.on hb2
  have c2 := l06Any_any w2 p ca n cap hcur hcd hn
  have hB2 := hb1.trans (hb2.mono hb1.size)
  clear c1 hcur hcd
  go_wp2_with fail
  refine c2.mono ?_
  rintro e w3 ⟨a, c, l, t, rfl, hl63, hall, hI, hfar, hl3⟩
  have hwp : w.heap.size < p := Nat.lt_of_lt_of_le hR1.lt hp2
  have hR3 : TBox w3 w.heap.size Tk.zero := hR2.kept (hl3.2.2.block _ hR2.lt (by simp; omega))
  have hB3 : Below w.heap.size w w3 := below_of_left hB2 (by omega) hl3
  obtain ⟨r0, r1, r2, r3, r4, r5, r6, r7, r8, r9, r10⟩ := hR3.cells
  dsimp only [Tk.zero] at r0 r1 r2 r3 r4 r5 r6 r7 r8 r9 r10
  have z0 := hR3.thaw 0
  have z1 := hR3.thaw 1
  have z2 := hR3.thaw 2
  have z3 := hR3.thaw 3
  have z4 := hR3.thaw 4
  have z5 := hR3.thaw 5
  have z6 := hR3.thaw 6
  have z7 := hR3.thaw 7
  have z8 := hR3.thaw 8
  have z9 := hR3.thaw 9
  have z10 := hR3.thaw 10
  have HA : Hid (TBox w3 w.heap.size Tk.zero ∧ Below w.heap.size w w3 ∧ IAt w3 a l w3.heap.size ∧ (∀ g off, a = some ⟨g, off, none⟩ → w.heap.size < g) ∧ l.all nOkC = true) := ⟨hR3, hB3, hI, fun g off e => by have := hfar g off e; omega, hall⟩
  clear hR1 hR2 hR3 hB3 hI hfar hall c2 hb1 hb2 hB2 hl3
  unfold tcs
  go_wp2
  obtain ⟨hR3, hB3, hI, hfar, hall⟩ := HA.out
  clear r0 r1 r2 r3 r4 r5 r6 r7 r8 r9 r10 z0 z1 z2 z3 z4 z5 z6 z7 z8 z9 z10
  obtain ⟨s0, s1, s2, s3, s4, s5, s6, s7, s8, s9, s10⟩ := (put11_box hR3 t).cells
  unfold put11 at s0 s1 s2 s3 s4 s5 s6 s7 s8 s9 s10
  have HF : Hid (IAt (put11 w3 w.heap.size t) a l (put11 w3 w.heap.size t).heap.size ∧ Below w.heap.size w (put11 w3 w.heap.size t)) := by
    have hb := put11_below hB3 (Nat.le_refl _) t
    refine ⟨?_, hb⟩
    intro j hj
    obtain ⟨g, off, ha, hg, hc⟩ := hI j hj
    refine ⟨g, off, ha, Nat.lt_of_lt_of_le hg (put11_below (Below.refl w.heap.size w3) (Nat.le_refl _) t).size, ?_⟩
    rw [World.cell?_of_block (w := w3) (put11_other w3 w.heap.size t (show g ≠ w.heap.size from fun e => by have := hfar g off ha; omega))]
    exact hc
  unfold put11 at HF
  refine bodyPost_ret (v := .tuple #[.slice a l.length c, .agg #[.int .i64 t.kind, .int .i64 t.key, .int .i64 t.val, .int .i64 t.node, .int .i64 t.pc, .int .i64 t.prev, .int .i64 t.cur, .int .i64 t.next, .int .i64 t.mark, .bool t.done, .int .i64 t.ans]]) (by simp [results, Try.results31, go_sem, s0, s1, s2, s3, s4, s5, s6, s7, s8, s9, s10]) rfl ⟨a, c, l, t, rfl, hl63, hall, HF.out.1, HF.out.2⟩
set_option maxRecDepth 100000 in
set_option maxHeartbeats 2000000 in
theorem drawValueOf_any (w : World) (ca : Option Addr) (n cap : Nat) (hcode : CodeAt w ca n w.heap.size) (hn : n ≤ 1048576) :
    Calls Try.prog 33 #[.slice ca n cap] w fun e w' => ∃ (a : Option Addr) (c : Nat) (l : List Int) (key : Int), e = .returned (.tuple #[.slice a l.length c, .int .i64 key]) ∧ l.length ≤ 63 ∧ l.all nOkC = true ∧ IAt w' a l w'.heap.size ∧ Below w.heap.size w w' := by
  have c1 := new_any w ca n cap hcode hn
  clear hcode
  go_enter Try.func33, Try.ntmps33
  go_wp2_with fail
  refine c1.mono ?_
  rintro e w1 ⟨p, rfl, hp1, hp2, hcur, hcd, hb1⟩
  have c2 := below_any w1 p ca n cap 6 hcur hcd hn (by omega) (by omega)
  clear c1 hcur hcd
  go_wp2_with fail
  refine c2.mono ?_
  rintro e w2 ⟨x, hx, _, rfl, hl2⟩
  have hx2 := hx (by omega)
  have hb2 := below_of_left hb1 hp2 hl2
  have c3 := l06Any_any w2 p ca n cap hl2.1 hl2.2.1 hn
  clear c2 hl2 hb1 hx
  go_wp2_with fail
  refine c3.mono ?_
  rintro e w3 ⟨a, c, l, t, rfl, hl63, hall, hI, hfar, hl3⟩
  have hb3 := below_of_left hb2 hp2 hl3
  have HA : Hid (l.all nOkC = true) := hall
  have hI4 := hI.on ((Below.refl _ _).alloc (Nat.le_refl _) (.cells (tcs t) 43))
  have hb4 : Below w.heap.size w (w3.alloc (.cells (tcs t) 43)) := hb3.alloc hb3.size _
  have HF : Hid (IAt (w3.alloc (.cells (tcs t) 43)) a l (w3.alloc (.cells (tcs t) 43)).heap.size ∧ Below w.heap.size w (w3.alloc (.cells (tcs t) 43))) := ⟨hI4, hb4⟩
  unfold tcs at HF
  clear hall hI hfar hl3 hb3 hI4 hb4 c3
  unfold tcs
  go_wp2
  go_ret2
  exact ⟨a, c, l, _, rfl, hl63, HA.out, HF.out.1, HF.out.2⟩
set_option maxRecDepth 100000 in
set_option maxHeartbeats 2000000 in
theorem drawTaskOk_any (w : World) (ca : Option Addr) (n cap : Nat) (hcode : CodeAt w ca n w.heap.size) (hn : n ≤ 1048576) :
    Calls Try.prog 34 #[.slice ca n cap] w fun e w' => ∃ (t : Tk), e = .returned (.agg (tcs t)) ∧ Below w.heap.size w w' := by
  obtain ⟨w1, hw1⟩ : ∃ w1, w.alloc (.cells (tcs Tk.zero) 43) = w1 := ⟨_, rfl⟩
  have hb1 : Below w.heap.size w w1 := by rw [← hw1]; exact (Below.refl _ _).alloc (Nat.le_refl _) _
  have hR1 : TBox w1 w.heap.size Tk.zero := by rw [← hw1]; exact TBox.new _ _
  have HW : Hid (w.alloc (.cells #[.int .i64 0, .int .i64 0, .int .i64 0, .int .i64 0, .int .i64 0, .int .i64 0, .int .i64 0, .int .i64 0, .int .i64 0, .bool false, .int .i64 0] 43) = w1) := hw1
  have hcode1 : CodeAt w1 ca n w1.heap.size := by
    intro j hj
    obtain ⟨b, off, z, h1, h2, h3, h4⟩ := hcode j hj
    exact ⟨b, off, z, h1, Nat.lt_of_lt_of_le h2 hb1.size, (hb1.cell (p := ⟨b, off + j, none⟩) h2).trans h3, h4⟩
  have c1 := new_any w1 ca n cap hcode1 hn
  clear hcode hcode1 hw1
  go_enter Try.func34, Try.ntmps34
  go_wp2_with fail
  rw [HW.out]
  refine c1.mono ?_
  rintro e w2 ⟨p, rfl, hp1, hp2, hcur, hcd, hb2⟩
  have hR2 := hR1.on hb2
  have c2 := l06Any_any w2 p ca n cap hcur hcd hn
  have hB2 := hb1.trans (hb2.mono hb1.size)
  clear c1 hcur hcd
  go_wp2_with fail
  refine c2.mono ?_
  rintro e w3 ⟨a, c, l, t, rfl, hl63, hall, hI, hfar, hl3⟩
  have hwp : w.heap.size < p := Nat.lt_of_lt_of_le hR1.lt hp2
  have hR3' : TBox w3 w.heap.size Tk.zero := hR2.kept (hl3.2.2.block _ hR2.lt (by simp; omega))
  have hB3' : Below w.heap.size w w3 := below_of_left hB2 (by omega) hl3
  obtain ⟨w4, hw4⟩ : ∃ w4, w3.alloc (.cells (tcs t) 43) = w4 := ⟨_, rfl⟩
  have hb4 : Below w3.heap.size w3 w4 := by rw [← hw4]; exact (Below.refl _ _).alloc (Nat.le_refl _) _
  have hR3 := hR3'.on hb4
  have hB3 := hB3'.trans (hb4.mono hB3'.size)
  have hV : TBox w4 w3.heap.size t := by rw [← hw4]; exact TBox.new _ _
  obtain ⟨b0, b1, b2, b3, b4, b5, b6, b7, b8, b9, b10⟩ := hV.cells
  have HW4 : Hid (w3.alloc (.cells #[.int .i64 t.kind, .int .i64 t.key, .int .i64 t.val, .int .i64 t.node, .int .i64 t.pc, .int .i64 t.prev, .int .i64 t.cur, .int .i64 t.next, .int .i64 t.mark, .bool t.done, .int .i64 t.ans] 43) = w4) := hw4
  obtain ⟨r0, r1, r2, r3, r4, r5, r6, r7, r8, r9, r10⟩ := hR3.cells
  dsimp only [Tk.zero] at r0 r1 r2 r3 r4 r5 r6 r7 r8 r9 r10
  have z0 := hR3.thaw 0
  have z1 := hR3.thaw 1
  have z2 := hR3.thaw 2
  have z3 := hR3.thaw 3
  have z4 := hR3.thaw 4
  have z5 := hR3.thaw 5
  have z6 := hR3.thaw 6
  have z7 := hR3.thaw 7
  have z8 := hR3.thaw 8
  have z9 := hR3.thaw 9
  have z10 := hR3.thaw 10
  have HA : Hid (TBox w4 w.heap.size Tk.zero ∧ Below w.heap.size w w4) := ⟨hR3, hB3⟩
  clear hR1 hR2 hR3 hR3' hB3 hB3' hI hfar hall c2 hb1 hb2 hB2 hl3 hV hw4 hb4
  unfold tcs
  go_upto_region 2 with fail
  rw [HW4.out]
  go_wp2
  obtain ⟨hR3, hB3⟩ := HA.out
  clear r0 r1 r2 r3 r4 r5 r6 r7 r8 r9 r10 z0 z1 z2 z3 z4 z5 z6 z7 z8 z9 z10
  obtain ⟨s0, s1, s2, s3, s4, s5, s6, s7, s8, s9, s10⟩ := (put11_box hR3 t).cells
  unfold put11 at s0 s1 s2 s3 s4 s5 s6 s7 s8 s9 s10
  have HF : Hid (Below w.heap.size w (put11 w4 w.heap.size t)) := put11_below hB3 (Nat.le_refl _) t
  unfold put11 at HF
  refine bodyPost_ret (v := .agg #[.int .i64 t.kind, .int .i64 t.key, .int .i64 t.val, .int .i64 t.node, .int .i64 t.pc, .int .i64 t.prev, .int .i64 t.cur, .int .i64 t.next, .int .i64 t.mark, .bool t.done, .int .i64 t.ans]) (by simp [results, Try.results34, go_sem, s0, s1, s2, s3, s4, s5, s6, s7, s8, s9, s10]) rfl ⟨t, rfl, HF.out⟩
end Go.Proofs.Ytockgojdmaladab
