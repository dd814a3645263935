/- The law on FreeNodes, walked. Written by mkelaw.py. -/
import Derived.Test.YtockgojdmaladapEpochLaw
import Derived.Test.YtockgojdmaladapEpochLens
import Derived.Test.YtockgojdmaladapEpochFreeS
import Derived.Test.YtockgojdmaladapEpochFreeI
import Derived.Deep.RegionHeld3
namespace Go.Proofs.Ytockgojdmaladap
open Go.RowKit Go.Sort
theorem freeE_len2 (E : Ep) : (freeE E).2.length ≤ E.gone.length := by
  unfold freeE
  split
  · simp; exact List.length_filter_le _ _
  · simp
/-- Other rows than a variable's are others. -/
theorem EV.tch2 {S : Nat → Prop} {w w' : World} {lo T : Nat} {a1 a2 : Option Addr} {c1 c2 : Nat} {E : Ep} (h : EV w lo T a1 c1 a2 c2 E) (ht : Tch S w w') (hn : ∀ k, S k → ¬ eblk (.slice a1 E.pins.length c1) (.slice a2 E.gone.length c2) k ∧ k ≠ T) : EV w' lo T a1 c1 a2 c2 E := by
  obtain ⟨h1, h2⟩ := h.own.parts'
  exact ⟨h.le, h.box.kept (ht.2 T h.box.lt (fun e => (hn T e).2 rfl)), EOwn.mk' (h1.tch ht fun k hk e => (hn k e).1 (.inl hk)) (h2.tch ht fun k hk e => (hn k e).1 (.inr hk)), h.lt⟩
set_option maxRecDepth 100000 in
set_option maxHeartbeats 8000000 in
theorem freeNodes_walk (pa ga : Option Addr) (pc gc : Nat) (E : Ep) (w : World) (hE : EAt w pa ga E w.heap.size) (hm : E.pins.length ≤ maxLen) (hm' : E.gone.length ≤ maxLen) :
    Calls Try.prog 6 #[.agg #[.int .i64 E.now, .slice pa E.pins.length pc, .slice ga E.gone.length gc]] w fun e w' => e = .returned (.bool true) ∧ Below w.heap.size w w' := by
  obtain ⟨wb, hwb⟩ : ∃ wb, w.alloc (.cells #[.int .i64 E.now, .slice pa E.pins.length pc, .slice ga E.gone.length gc] 25) = wb := ⟨_, rfl⟩
  have hb : Below w.heap.size w wb := by rw [← hwb]; exact (Below.refl _ _).alloc (Nat.le_refl _) _
  have hbs : w.heap.size < wb.heap.size := by rw [← hwb]; simp
  have hK_wb : WBox wb w.heap.size (.int .i64 E.now) (.slice pa E.pins.length pc) (.slice ga E.gone.length gc) := by rw [← hwb]; exact WBox.new _ _ _ _
  have hE_wb : EAt wb pa ga E wb.heap.size := hE.on hb
  have hw_wb : Below w.heap.size w wb := hb
  have hB_wb : Below wb.heap.size wb wb := Below.refl _ _
  have HB : Hid (∀ wi, Below wb.heap.size wb wi → WBox wi w.heap.size (.int .i64 E.now) (.slice pa E.pins.length pc) (.slice ga E.gone.length gc) ∧ EAt wi pa ga E wi.heap.size ∧ Below w.heap.size w wi) := fun wi hi => ⟨hK_wb.on hi, hE_wb.on hi, hb.trans (hi.mono hb.size)⟩
  have c0 := szEpochs_any wb pa ga pc gc E.pins.length E.gone.length E.now hm hm'
  have HW : Hid (w.alloc (.cells #[.int .i64 E.now, .slice pa E.pins.length pc, .slice ga E.gone.length gc] 25) = wb) := hwb
  obtain ⟨b0, b1, b2⟩ := hK_wb.cells
  rw [← hwb] at b0 b1 b2
  clear hwb hE hb
  go_enter Try.func6, Try.ntmps6
  go_wp2_with fail
  rw [HW.out] at b0 b1 b2 ⊢
  refine c0.mono ?_
  rintro e w1 ⟨r, rfl, hr, hb1⟩
  clear c0 b0 b1 b2
  have hB_w1 : Below wb.heap.size wb w1 := hB_wb.trans (hb1.mono hB_wb.size)
  obtain ⟨hK_w1, hE_w1, hw_w1⟩ := HB.out w1 hB_w1
  clear hK_wb hE_wb hw_wb hB_wb 
  rcases hr with rfl | ⟨hr0, hr1⟩
  · go_wp2_with fail
    go_ret
    exact ⟨rfl, hw_w1⟩
  have hl : E.pins.length ≤ 1048576 := by omega
  have hl' : E.gone.length ≤ 1048576 := by omega
  have hr2 : ¬ r < 0 := by omega
  clear hr1 hr0 hm hm'
  obtain ⟨RES, hRES⟩ : ∃ R, freeE E = R := ⟨_, rfl⟩
  have hRl : RES.1.pins.length ≤ 1048576 ∧ RES.1.gone.length ≤ 1048577 := by rw [← hRES]; exact freeE_len E hl hl'
  have hRf : RES.2.length ≤ 1048576 := by rw [← hRES]; exact Nat.le_trans (freeE_len2 E) hl'
  have CS : Hid (∀ (wi : World) (a1 a2 : Option Addr) (k1 k2 : Nat), EAt wi a1 a2 E wi.heap.size → Calls Try.prog 18 #[.agg #[.int .i64 E.now, .slice a1 E.pins.length k1, .slice a2 E.gone.length k2]] wi fun e w' => ∃ v vf, e = .returned (.tuple #[v, vf]) ∧ EOwn w' wi.heap.size v RES.1 ∧ OwnV w' wi.heap.size 3 vf (ints RES.2) ∧ (∀ k, vf.ownBlock = some k → ∀ a v1 v2, v = .agg #[a, v1, v2] → v1.ownBlock ≠ some k) ∧ Below wi.heap.size wi w') := by
    intro wi a1 a2 k1 k2 h
    rw [← hRES]
    exact specFreeNodes_any wi a1 a2 k1 k2 E h hl hl'
  have CI : Hid (∀ (wi : World) (a1 a2 : Option Addr) (k1 k2 : Nat), EAt wi a1 a2 E wi.heap.size → Calls Try.prog 19 #[.agg #[.int .i64 E.now, .slice a1 E.pins.length k1, .slice a2 E.gone.length k2]] wi fun e w' => ∃ v vf, e = .returned (.tuple #[v, vf]) ∧ EOwn w' wi.heap.size v RES.1 ∧ OwnV w' wi.heap.size 3 vf (ints RES.2) ∧ (∀ k, vf.ownBlock = some k → ∀ a v1 v2, v = .agg #[a, v1, v2] → v1.ownBlock ≠ some k) ∧ Below wi.heap.size wi w') := by
    intro wi a1 a2 k1 k2 h
    rw [← hRES]
    exact implFreeNodes_any wi a1 a2 k1 k2 E h hl hl'
  clear hRES
  obtain ⟨b0, b1, b2⟩ := hK_w1.cells
  go_wp2_with fail
  refine (toEpochs_any w1 pa ga pc gc E hE_w1 hl hl').mono ?_
  rintro e w2 ⟨vw2, rfl, how2, hbw2⟩
  obtain ⟨aw2, kw2, dw2, lw2, rfl, hAw2⟩ := how2.at
  clear b0 b1 b2 
  have hB_w2 : Below wb.heap.size wb w2 := hB_w1.trans (hbw2.mono hB_w1.size)
  obtain ⟨hK_w2, hE_w2, hw_w2⟩ := HB.out w2 hB_w2
  clear hK_w1 hE_w1 hw_w1 hB_w1 
  have cS := CS.out w2 aw2 dw2 kw2 lw2 hAw2
  go_wp2_with fail
  refine cS.mono ?_
  rintro e w3 ⟨vw3, vfw3, rfl, how3, hofw3, hodw3, hbw3⟩
  obtain ⟨aw3, kw3, dw3, lw3, rfl, _⟩ := how3.at
  obtain ⟨faw3, fcw3, rfl, _⟩ := hofw3.ints
  have HDA : Hid (∀ k, (Value.slice faw3 RES.2.length fcw3).ownBlock = some k → ¬ eblk (.slice aw3 RES.1.pins.length kw3) (.slice dw3 RES.1.gone.length lw3) k) := fun k hk e => by
    rcases e with e | e
    · exact hodw3 k hk _ _ _ rfl e
    · exact ownVP_ne hofw3 (how3.parts').2 k hk e
  have HLA : Hid (∀ k, (Value.slice faw3 RES.2.length fcw3).ownBlock = some k → w2.heap.size ≤ k ∧ k < w3.heap.size) := fun k hk => hofw3.lt k hk
  clear hodw3
  have hB_w3 : Below wb.heap.size wb w3 := hB_w2.trans (hbw3.mono hB_w2.size)
  obtain ⟨hK_w3, hE_w3, hw_w3⟩ := HB.out w3 hB_w3
  clear hK_w2 hE_w2 hw_w2 hB_w2 
  have ofA_w3 := hofw3
  clear hofw3
  clear cS how2 hAw2
  obtain ⟨w4, hw4⟩ : ∃ x, w3.alloc (.cells #[.int .i64 RES.1.now, .slice aw3 RES.1.pins.length kw3, .slice dw3 RES.1.gone.length lw3] 29) = x := ⟨_, rfl⟩
  have hbw4 : Below w3.heap.size w3 w4 := by rw [← hw4]; exact (Below.refl _ _).alloc (Nat.le_refl _) _
  have evP_w4 : EV w4 w2.heap.size w3.heap.size aw3 kw3 dw3 lw3 RES.1 := by rw [← hw4]; exact EV.new how3 (hbw3.size)
  have sw4 : w4.heap.size = w3.heap.size + 1 := by rw [← hw4]; simp
  have HWw4 : Hid (w3.alloc (.cells #[.int .i64 RES.1.now, .slice aw3 RES.1.pins.length kw3, .slice dw3 RES.1.gone.length lw3] 29) = w4) := hw4
  have ofA_w4 := ofA_w3.below hbw4 (Nat.le_refl _)
  clear ofA_w3
  have hB_w4 : Below wb.heap.size wb w4 := hB_w3.trans (hbw4.mono hB_w3.size)
  obtain ⟨hK_w4, hE_w4, hw_w4⟩ := HB.out w4 hB_w4
  clear hK_w3 hE_w3 hw_w3 hB_w3 
  obtain ⟨b0, b1, b2⟩ := hK_w4.cells
  obtain ⟨p0, p1, p2⟩ := evP_w4.box.cells
  rw [← hw4] at b0 b1 b2 p0 p1 p2
  clear hw4
  go_wp2_with fail
  rw [HWw4.out] at b0 b1 b2 p0 p1 p2 ⊢
  refine (toEpochs_any w4 pa ga pc gc E hE_w4 hl hl').mono ?_
  rintro e w5 ⟨vw5, rfl, how5, hbw5⟩
  obtain ⟨aw5, kw5, dw5, lw5, rfl, hAw5⟩ := how5.at
  clear b0 b1 b2 p0 p1 p2
  have ofA_w5 := ofA_w4.below hbw5 (Nat.le_refl _)
  clear ofA_w4
  have hB_w5 : Below wb.heap.size wb w5 := hB_w4.trans (hbw5.mono hB_w4.size)
  obtain ⟨hK_w5, hE_w5, hw_w5⟩ := HB.out w5 hB_w5
  have evP_w5 := evP_w4.on hbw5
  clear hK_w4 hE_w4 hw_w4 hB_w4 evP_w4
  obtain ⟨w6, hw6⟩ : ∃ x, w5.alloc (.cells #[.int .i64 E.now, .slice aw5 E.pins.length kw5, .slice dw5 E.gone.length lw5] 29) = x := ⟨_, rfl⟩
  have hbw6 : Below w5.heap.size w5 w6 := by rw [← hw6]; exact (Below.refl _ _).alloc (Nat.le_refl _) _
  have evX_w6 : EV w6 w4.heap.size w5.heap.size aw5 kw5 dw5 lw5 E := by rw [← hw6]; exact EV.new how5 (hbw5.size)
  have sw6 : w6.heap.size = w5.heap.size + 1 := by rw [← hw6]; simp
  have HWw6 : Hid (w5.alloc (.cells #[.int .i64 E.now, .slice aw5 E.pins.length kw5, .slice dw5 E.gone.length lw5] 29) = w6) := hw6
  have ofA_w6 := ofA_w5.below hbw6 (Nat.le_refl _)
  clear ofA_w5
  have hB_w6 : Below wb.heap.size wb w6 := hB_w5.trans (hbw6.mono hB_w5.size)
  obtain ⟨hK_w6, hE_w6, hw_w6⟩ := HB.out w6 hB_w6
  have evP_w6 := evP_w5.on hbw6
  clear hK_w5 hE_w5 hw_w5 hB_w5 evP_w5
  obtain ⟨b0, b1, b2⟩ := hK_w6.cells
  obtain ⟨p0, p1, p2⟩ := evP_w6.box.cells
  obtain ⟨x0, x1, x2⟩ := evX_w6.box.cells
  rw [← hw6] at b0 b1 b2 p0 p1 p2 x0 x1 x2
  clear hw6
  have cI := CI.out w6 aw5 dw5 kw5 lw5 evX_w6.at
  go_wp2_with fail
  rw [HWw6.out] at b0 b1 b2 p0 p1 p2 x0 x1 x2 ⊢
  refine cI.mono ?_
  clear b0 b1 b2 p0 p1 p2 x0 x1 x2
  rintro e w7 ⟨vw7, vfw7, rfl, how7, hofw7, hodw7, hbw7⟩
  obtain ⟨aw7, kw7, dw7, lw7, rfl, _⟩ := how7.at
  obtain ⟨faw7, fcw7, rfl, _⟩ := hofw7.ints
  have HDC : Hid (∀ k, (Value.slice faw7 RES.2.length fcw7).ownBlock = some k → ¬ eblk (.slice aw7 RES.1.pins.length kw7) (.slice dw7 RES.1.gone.length lw7) k) := fun k hk e => by
    rcases e with e | e
    · exact hodw7 k hk _ _ _ rfl e
    · exact ownVP_ne hofw7 (how7.parts').2 k hk e
  have HLC : Hid (∀ k, (Value.slice faw7 RES.2.length fcw7).ownBlock = some k → w6.heap.size ≤ k ∧ k < w7.heap.size) := fun k hk => hofw7.lt k hk
  clear hodw7
  have ofA_w7 := ofA_w6.below hbw7 (Nat.le_refl _)
  clear ofA_w6
  have hB_w7 : Below wb.heap.size wb w7 := hB_w6.trans (hbw7.mono hB_w6.size)
  obtain ⟨hK_w7, hE_w7, hw_w7⟩ := HB.out w7 hB_w7
  have evP_w7 := evP_w6.on hbw7
  have evX_w7 := evX_w6.on hbw7
  clear hK_w6 hE_w6 hw_w6 hB_w6 evP_w6 evX_w6
  have ofC_w7 := hofw7
  clear hofw7
  clear cI
  obtain ⟨w8, hw8⟩ : ∃ x, w7.alloc (.cells #[.int .i64 RES.1.now, .slice aw7 RES.1.pins.length kw7, .slice dw7 RES.1.gone.length lw7] 29) = x := ⟨_, rfl⟩
  have hbw8 : Below w7.heap.size w7 w8 := by rw [← hw8]; exact (Below.refl _ _).alloc (Nat.le_refl _) _
  have evQ_w8 : EV w8 w6.heap.size w7.heap.size aw7 kw7 dw7 lw7 RES.1 := by rw [← hw8]; exact EV.new how7 (hbw7.size)
  have sw8 : w8.heap.size = w7.heap.size + 1 := by rw [← hw8]; simp
  have HWw8 : Hid (w7.alloc (.cells #[.int .i64 RES.1.now, .slice aw7 RES.1.pins.length kw7, .slice dw7 RES.1.gone.length lw7] 29) = w8) := hw8
  have ofA_w8 := ofA_w7.below hbw8 (Nat.le_refl _)
  have ofC_w8 := ofC_w7.below hbw8 (Nat.le_refl _)
  clear ofA_w7 ofC_w7
  have hB_w8 : Below wb.heap.size wb w8 := hB_w7.trans (hbw8.mono hB_w7.size)
  obtain ⟨hK_w8, hE_w8, hw_w8⟩ := HB.out w8 hB_w8
  have evP_w8 := evP_w7.on hbw8
  have evX_w8 := evX_w7.on hbw8
  clear hK_w7 hE_w7 hw_w7 hB_w7 evP_w7 evX_w7
  obtain ⟨b0, b1, b2⟩ := hK_w8.cells
  obtain ⟨p0, p1, p2⟩ := evP_w8.box.cells
  obtain ⟨x0, x1, x2⟩ := evX_w8.box.cells
  obtain ⟨q0, q1, q2⟩ := evQ_w8.box.cells
  rw [← hw8] at b0 b1 b2 p0 p1 p2 x0 x1 x2 q0 q1 q2
  clear hw8
  have ES : Hid (wb.heap.size ≤ w1.heap.size ∧ w1.heap.size ≤ w2.heap.size ∧ w2.heap.size ≤ w3.heap.size ∧ w4.heap.size = w3.heap.size + 1 ∧ w4.heap.size ≤ w5.heap.size ∧ w6.heap.size = w5.heap.size + 1 ∧ w6.heap.size ≤ w7.heap.size ∧ w8.heap.size = w7.heap.size + 1) := ⟨hb1.size, hbw2.size, hbw3.size, sw4, hbw5.size, sw6, hbw7.size, sw8⟩
  clear sw4 sw6 sw8 hb1 hbw2 hbw3 hbw4 hbw5 hbw6 hbw7 hbw8 how3 how5 how7 hAw5
  go_wp2_with fail
  rw [HWw8.out] at b0 b1 b2 p0 p1 p2 x0 x1 x2 q0 q1 q2 ⊢
  refine (eqEpochs_same w8 aw7 dw7 aw3 dw3 kw7 lw7 kw3 lw3 RES.1 evQ_w8.at evP_w8.at hRl.1 hRl.2).mono ?_
  rintro e w8b ⟨rfl, hbw8b⟩
  clear b0 b1 b2 p0 p1 p2 x0 x1 x2 q0 q1 q2
  have ofA_w8b := ofA_w8.below hbw8b (Nat.le_refl _)
  have ofC_w8b := ofC_w8.below hbw8b (Nat.le_refl _)
  clear ofA_w8 ofC_w8
  have hB_w8b : Below wb.heap.size wb w8b := hB_w8.trans (hbw8b.mono hB_w8.size)
  obtain ⟨hK_w8b, hE_w8b, hw_w8b⟩ := HB.out w8b hB_w8b
  have evP_w8b := evP_w8.on hbw8b
  have evX_w8b := evX_w8.on hbw8b
  have evQ_w8b := evQ_w8.on hbw8b
  clear hK_w8 hE_w8 hw_w8 hB_w8 evP_w8 evX_w8 evQ_w8
  have IA : IAt w8b faw7 RES.2 w8b.heap.size := (show _ from by obtain ⟨u, c, hv, h⟩ := ofC_w8b.ints; simp only [Value.slice.injEq] at hv; obtain ⟨rfl, _, rfl⟩ := hv; exact h)
  have IB : IAt w8b faw3 RES.2 w8b.heap.size := (show _ from by obtain ⟨u, c, hv, h⟩ := ofA_w8b.ints; simp only [Value.slice.injEq] at hv; obtain ⟨rfl, _, rfl⟩ := hv; exact h)
  go_wp2_with fail
  refine (eqIntS_same w8b faw7 faw3 fcw7 fcw3 RES.2 IA IB hRf).mono ?_
  rintro e w9 ⟨rfl, hbw9⟩
  clear IA IB
  have ofA_w9 := ofA_w8b.below hbw9 (Nat.le_refl _)
  have ofC_w9 := ofC_w8b.below hbw9 (Nat.le_refl _)
  clear ofA_w8b ofC_w8b
  have hB_w9 : Below wb.heap.size wb w9 := hB_w8b.trans (hbw9.mono hB_w8b.size)
  obtain ⟨hK_w9, hE_w9, hw_w9⟩ := HB.out w9 hB_w9
  have evP_w9 := evP_w8b.on hbw9
  have evX_w9 := evX_w8b.on hbw9
  have evQ_w9 := evQ_w8b.on hbw9
  clear hK_w8b hE_w8b hw_w8b hB_w8b evP_w8b evX_w8b evQ_w8b
  obtain ⟨b0, b1, b2⟩ := hK_w9.cells
  obtain ⟨p0, p1, p2⟩ := evP_w9.box.cells
  obtain ⟨x0, x1, x2⟩ := evX_w9.box.cells
  obtain ⟨q0, q1, q2⟩ := evQ_w9.box.cells
  have KS : ∀ W, Below w9.heap.size w9 W → Below w9.heap.size w9 W ∧ W.cell? ⟨w5.heap.size, 0, none⟩ = some (.int .i64 E.now) ∧ W.cell? ⟨w5.heap.size, 1, none⟩ = some (.slice aw5 E.pins.length kw5) ∧ W.cell? ⟨w5.heap.size, 2, none⟩ = some (.slice dw5 E.gone.length lw5) ∧ W.cell? ⟨w.heap.size, 0, none⟩ = some (.int .i64 E.now) ∧ W.cell? ⟨w.heap.size, 1, none⟩ = some (.slice pa E.pins.length pc) ∧ W.cell? ⟨w.heap.size, 2, none⟩ = some (.slice ga E.gone.length gc) := fun W h => ⟨h, (h.cell (World.block_lt_of_cell? w9 _ x0)).trans x0, (h.cell (World.block_lt_of_cell? w9 _ x1)).trans x1, (h.cell (World.block_lt_of_cell? w9 _ x2)).trans x2, (h.cell (World.block_lt_of_cell? w9 _ b0)).trans b0, (h.cell (World.block_lt_of_cell? w9 _ b1)).trans b1, (h.cell (World.block_lt_of_cell? w9 _ b2)).trans b2⟩
  have hdr : Below w9.heap.size w9 w9.drew := ⟨rfl, rfl, rfl, Nat.le_refl _, fun _ _ => rfl⟩
  have HT : Hid (∀ W, Below w9.heap.size w9 W → EAt W pa ga E W.heap.size ∧ EAt W aw5 dw5 E W.heap.size) := fun W h => ⟨hE_w9.on h, evX_w9.at.on h⟩
  go_wp2_with fail
  go_region_held3 (fun W => Below w9.heap.size w9 W ∧ W.cell? ⟨w5.heap.size, 0, none⟩ = some (.int .i64 E.now) ∧ W.cell? ⟨w5.heap.size, 1, none⟩ = some (.slice aw5 E.pins.length kw5) ∧ W.cell? ⟨w5.heap.size, 2, none⟩ = some (.slice dw5 E.gone.length lw5) ∧ W.cell? ⟨w.heap.size, 0, none⟩ = some (.int .i64 E.now) ∧ W.cell? ⟨w.heap.size, 1, none⟩ = some (.slice pa E.pins.length pc) ∧ W.cell? ⟨w.heap.size, 2, none⟩ = some (.slice ga E.gone.length gc)) (first | with_reducible exact KS _ hdr | with_reducible exact KS _ hC | with_reducible exact KS _ hD)
    (first
      | (go_at_call 9; refine (toEpochs_any _ pa ga pc gc E (HT.out _ hdr).1 hl hl').mono ?_; rintro e w10 ⟨v10, rfl, ho10, hb10⟩; obtain ⟨a10, k10, d10, l10, rfl, hA10⟩ := ho10.at; have hC : Below w9.heap.size w9 w10 := hdr.trans (hb10.mono hdr.size))
      | (go_at_call 11; refine (eqEpochs_same _ aw5 dw5 a10 d10 kw5 lw5 k10 l10 E (HT.out _ hC).2 hA10 hl (by omega)).mono ?_; rintro e w11 ⟨rfl, hb11⟩; have hD : Below w9.heap.size w9 w11 := hC.trans (hb11.mono hC.size)))
  clear KS HT hdr ho10 hA10 hb10 hb11 hC
  clear b0 b1 b2 p0 p1 p2 x0 x1 x2 q0 q1 q2
  have ofA_w11 := ofA_w9.below hD (Nat.le_refl _)
  have ofC_w11 := ofC_w9.below hD (Nat.le_refl _)
  clear ofA_w9 ofC_w9
  have hB_w11 : Below wb.heap.size wb w11 := hB_w9.trans (hD.mono hB_w9.size)
  obtain ⟨hK_w11, hE_w11, hw_w11⟩ := HB.out w11 hB_w11
  have evP_w11 := evP_w9.on hD
  have evX_w11 := evX_w9.on hD
  have evQ_w11 := evQ_w9.on hD
  clear hK_w9 hE_w9 hw_w9 hB_w9 evP_w9 evX_w9 evQ_w9
  try (rename_i hHeld; clear hHeld)
  obtain ⟨b0, b1, b2⟩ := hK_w11.cells
  obtain ⟨p0, p1, p2⟩ := evP_w11.box.cells
  obtain ⟨x0, x1, x2⟩ := evX_w11.box.cells
  obtain ⟨q0, q1, q2⟩ := evQ_w11.box.cells
  go_wp2_with fail
  refine (markEpochs_any w11 w4.heap.size aw5 dw5 kw5 lw5 E 1 evX_w11.own hl (by omega) (by omega)).mono ?_
  rintro e w12 ⟨he12, ⟨EX, hx1, hx2, hx3, _, hoX⟩, ht12⟩
  obtain ⟨K12, hK12⟩ : ∃ K : Nat, 1 + E.pins.length + 2 * E.gone.length = K := ⟨_, rfl⟩
  rw [hK12] at he12
  subst he12
  clear hK12
  have hn12 : ¬ ((K12 : Int) < 0) := by omega
  clear b0 b1 b2 p0 p1 p2 x0 x1 x2 q0 q1 q2
  have hB_w12 : Below wb.heap.size wb w12 := Tch.below hB_w11 ht12 hB_w11.size (fun k hk => by have h := evX_w11.lt k hk; have := ES.out; omega)
  obtain ⟨hK_w12, hE_w12, hw_w12⟩ := HB.out w12 hB_w12
  have evP_w12 := evP_w11.tch ht12 (fun k hk => by have h := evX_w11.lt k hk; have := ES.out; omega)
  have evQ_w12 := evQ_w11.tch ht12 (fun k hk => by have h := evX_w11.lt k hk; have := ES.out; omega)
  have ofA_w12 := ofA_w11.tch ht12 (fun k hk e => by have hk := HLA.out k hk; have h := (fun (hk : _) => evX_w11.lt k hk) e; have := ES.out; omega)
  have ofC_w12 := ofC_w11.tch ht12 (fun k hk e => by have hk := HLC.out k hk; have h := (fun (hk : _) => evX_w11.lt k hk) e; have := ES.out; omega)
  have evX_w12 := (show EV w12 w4.heap.size w5.heap.size aw5 kw5 dw5 lw5 EX from ⟨evX_w11.le, by rw [hx1, hx2, hx3]; exact evX_w11.box.kept (ht12.2 _ evX_w11.box.lt (fun e => by have := evX_w11.lt _ e; omega)), by rw [hx1, hx2, hx3]; exact hoX, by rw [hx2, hx3]; exact evX_w11.lt⟩)
  clear hK_w11 hE_w11 hw_w11 hB_w11 evP_w11 evX_w11 evQ_w11 ofA_w11 ofC_w11
  clear hoX ht12 hx1 hx2 hx3
  obtain ⟨b0, b1, b2⟩ := hK_w12.cells
  obtain ⟨p0, p1, p2⟩ := evP_w12.box.cells
  obtain ⟨x0, x1, x2⟩ := evX_w12.box.cells
  obtain ⟨q0, q1, q2⟩ := evQ_w12.box.cells
  go_wp2_with fail
  refine (eqEpochs_same w12 aw7 dw7 aw3 dw3 kw7 lw7 kw3 lw3 RES.1 evQ_w12.at evP_w12.at hRl.1 hRl.2).mono ?_
  rintro e w12b ⟨rfl, hbw12b⟩
  clear b0 b1 b2 p0 p1 p2 x0 x1 x2 q0 q1 q2
  have ofA_w12b := ofA_w12.below hbw12b (Nat.le_refl _)
  have ofC_w12b := ofC_w12.below hbw12b (Nat.le_refl _)
  clear ofA_w12 ofC_w12
  have hB_w12b : Below wb.heap.size wb w12b := hB_w12.trans (hbw12b.mono hB_w12.size)
  obtain ⟨hK_w12b, hE_w12b, hw_w12b⟩ := HB.out w12b hB_w12b
  have evP_w12b := evP_w12.on hbw12b
  have evX_w12b := evX_w12.on hbw12b
  have evQ_w12b := evQ_w12.on hbw12b
  clear hK_w12 hE_w12 hw_w12 hB_w12 evP_w12 evX_w12 evQ_w12
  have IA : IAt w12b faw7 RES.2 w12b.heap.size := (show _ from by obtain ⟨u, c, hv, h⟩ := ofC_w12b.ints; simp only [Value.slice.injEq] at hv; obtain ⟨rfl, _, rfl⟩ := hv; exact h)
  have IB : IAt w12b faw3 RES.2 w12b.heap.size := (show _ from by obtain ⟨u, c, hv, h⟩ := ofA_w12b.ints; simp only [Value.slice.injEq] at hv; obtain ⟨rfl, _, rfl⟩ := hv; exact h)
  go_wp2_with fail
  refine (eqIntS_same w12b faw7 faw3 fcw7 fcw3 RES.2 IA IB hRf).mono ?_
  rintro e w13 ⟨rfl, hbw13⟩
  clear IA IB
  have ofA_w13 := ofA_w12b.below hbw13 (Nat.le_refl _)
  have ofC_w13 := ofC_w12b.below hbw13 (Nat.le_refl _)
  clear ofA_w12b ofC_w12b
  have hB_w13 : Below wb.heap.size wb w13 := hB_w12b.trans (hbw13.mono hB_w12b.size)
  obtain ⟨hK_w13, hE_w13, hw_w13⟩ := HB.out w13 hB_w13
  have evP_w13 := evP_w12b.on hbw13
  have evX_w13 := evX_w12b.on hbw13
  have evQ_w13 := evQ_w12b.on hbw13
  clear hK_w12b hE_w12b hw_w12b hB_w12b evP_w12b evX_w12b evQ_w12b
  clear evX_w13
  obtain ⟨b0, b1, b2⟩ := hK_w13.cells
  obtain ⟨p0, p1, p2⟩ := evP_w13.box.cells
  obtain ⟨q0, q1, q2⟩ := evQ_w13.box.cells
  go_wp2_with fail
  refine (markEpochs_any w13 w6.heap.size aw7 dw7 kw7 lw7 RES.1 1 evQ_w13.own hRl.1 hRl.2 (by omega)).mono ?_
  rintro e w14 ⟨he14, ⟨EG, hg1, hg2, hg3, hMG, hoG⟩, ht14⟩
  obtain ⟨K14, hK14⟩ : ∃ K : Nat, 1 + RES.1.pins.length + 2 * RES.1.gone.length = K := ⟨_, rfl⟩
  rw [hK14] at he14
  subst he14
  have hn14 : ¬ ((K14 : Int) < 0) := by omega
  have hk14 : K14 ≤ 100000000 := by omega
  clear b0 b1 b2 p0 p1 p2 q0 q1 q2
  have hB_w14 : Below wb.heap.size wb w14 := Tch.below hB_w13 ht14 hB_w13.size (fun k hk => by have h := evQ_w13.lt k hk; have := ES.out; omega)
  obtain ⟨hK_w14, hE_w14, hw_w14⟩ := HB.out w14 hB_w14
  have evP_w14 := evP_w13.tch ht14 (fun k hk => by have h := evQ_w13.lt k hk; have := ES.out; omega)
  have ofA_w14 := ofA_w13.tch ht14 (fun k hk e => by have hk := HLA.out k hk; have h := (fun (hk : _) => evQ_w13.lt k hk) e; have := ES.out; omega)
  have ofC_w14 := ofC_w13.tch ht14 (fun k hk e => HDC.out k hk e)
  have evQ_w14 := (show EV w14 w6.heap.size w7.heap.size aw7 kw7 dw7 lw7 EG from ⟨evQ_w13.le, by rw [hg1, hg2, hg3]; exact evQ_w13.box.kept (ht14.2 _ evQ_w13.box.lt (fun e => by have := evQ_w13.lt _ e; omega)), by rw [hg1, hg2, hg3]; exact hoG, by rw [hg2, hg3]; exact evQ_w13.lt⟩)
  clear hK_w13 hE_w13 hw_w13 hB_w13 evP_w13 evQ_w13 ofA_w13 ofC_w13
  have hGl : EG.pins.length ≤ 1048576 ∧ EG.gone.length ≤ 1048577 := by rw [hg2, hg3]; exact hRl
  have hK14' : 1 + EG.pins.length + 2 * EG.gone.length = K14 := by rw [hg2, hg3]; exact hK14
  have HCH : Hid (∀ wi, EV wi w6.heap.size w7.heap.size aw7 kw7 dw7 lw7 EG → Calls Try.prog 13 #[.agg #[.int .i64 EG.now, .slice aw7 EG.pins.length kw7, .slice dw7 EG.gone.length lw7], .int .i64 1] wi fun e w' => e = .returned (.int .i64 (K14 : Int)) ∧ Below wi.heap.size wi w') := by
    intro wi h
    rw [← hK14']
    exact heldEpochs_any wi w6.heap.size aw7 dw7 kw7 lw7 EG 1 h.own hMG hGl.1 hGl.2 (by omega)
  have HDG : Hid (∀ k, (Value.slice faw7 RES.2.length fcw7).ownBlock = some k → ¬ eblk (.slice aw7 EG.pins.length kw7) (.slice dw7 EG.gone.length lw7) k) := by show ∀ k, _; rw [hg2, hg3]; exact HDC.out
  clear hoG ht14 hK14 hK14' hMG hGl hg1 hg2 hg3 HDC
  obtain ⟨b0, b1, b2⟩ := hK_w14.cells
  obtain ⟨p0, p1, p2⟩ := evP_w14.box.cells
  obtain ⟨q0, q1, q2⟩ := evQ_w14.box.cells
  go_wp2_with fail
  refine (markI_any w14 w6.heap.size _ RES.2 K14 ofC_w14 hRf hk14).mono ?_
  rintro e w14b ⟨he14b, ⟨M, hMl, hMk, hoM⟩, hgr14⟩
  obtain ⟨K15, hK15⟩ : ∃ K : Nat, K14 + RES.2.length = K := ⟨_, rfl⟩
  rw [hK15] at he14b
  subst he14b
  have hn15 : ¬ ((K15 : Int) < 0) := by omega
  have ht14b : Tch (fun k => (Value.slice faw7 RES.2.length fcw7).ownBlock = some k) w14 w14b := Tch.of_grown hgr14 (fun k hk => hk)
  clear b0 b1 b2 p0 p1 p2 q0 q1 q2
  have hB_w14b : Below wb.heap.size wb w14b := Tch.below hB_w14 ht14b hB_w14.size (fun k hk => by have h := HLC.out k hk; have := ES.out; omega)
  obtain ⟨hK_w14b, hE_w14b, hw_w14b⟩ := HB.out w14b hB_w14b
  have evP_w14b := evP_w14.tch ht14b (fun k hk => by have h := HLC.out k hk; have := ES.out; omega)
  have evQ_w14b := evQ_w14.tch2 ht14b (fun k hk => ⟨HDG.out k hk, fun e => by have := HLC.out k hk; omega⟩)
  have ofA_w14b := ofA_w14.tch ht14b (fun k hk e => by have hk := HLA.out k hk; have h := (fun (hk : _) => HLC.out k hk) e; have := ES.out; omega)
  have ofC_w14b := hoM
  clear hK_w14 hE_w14 hw_w14 hB_w14 evP_w14 evQ_w14 ofA_w14 ofC_w14
  have HCI : Hid (∀ wi, OwnV wi w6.heap.size 3 (.slice faw7 RES.2.length fcw7) (ints M) → Calls Try.prog 22 #[.slice faw7 RES.2.length fcw7, .int .i64 (K14 : Int)] wi fun e w' => e = .returned (.int .i64 (K15 : Int)) ∧ w' = wi) := by
    intro wi h
    rw [← hK15]
    exact heldI_any wi w6.heap.size _ M RES.2.length K14 hMl h hMk hRf hk14
  clear hgr14 ht14b hoM hMk hK15
  obtain ⟨b0, b1, b2⟩ := hK_w14b.cells
  obtain ⟨p0, p1, p2⟩ := evP_w14b.box.cells
  obtain ⟨q0, q1, q2⟩ := evQ_w14b.box.cells
  have hkk : ((K15 : Int) != (K15 : Int)) = false := by simp
  go_wp2_with fail
  refine (HCH.out w14b evQ_w14b).mono ?_
  rintro e w15 ⟨rfl, hbw15⟩
  clear b0 b1 b2 p0 p1 p2 q0 q1 q2
  have ofA_w15 := ofA_w14b.below hbw15 (Nat.le_refl _)
  have ofC_w15 := ofC_w14b.below hbw15 (Nat.le_refl _)
  clear ofA_w14b ofC_w14b
  have hB_w15 : Below wb.heap.size wb w15 := hB_w14b.trans (hbw15.mono hB_w14b.size)
  obtain ⟨hK_w15, hE_w15, hw_w15⟩ := HB.out w15 hB_w15
  have evP_w15 := evP_w14b.on hbw15
  have evQ_w15 := evQ_w14b.on hbw15
  clear hK_w14b hE_w14b hw_w14b hB_w14b evP_w14b evQ_w14b
  have cH := HCI.out w15 ofC_w15
  go_wp2_with fail
  refine cH.mono ?_
  rintro e wz ⟨rfl, hwz⟩
  rw [hwz]
  clear cH hwz
  obtain ⟨b0, b1, b2⟩ := hK_w15.cells
  obtain ⟨p0, p1, p2⟩ := evP_w15.box.cells
  obtain ⟨q0, q1, q2⟩ := evQ_w15.box.cells
  go_wp2_with fail
  refine (toEpochs_any w15 pa ga pc gc E hE_w15 hl hl').mono ?_
  rintro e w16 ⟨vw16, rfl, how16, hbw16⟩
  obtain ⟨aw16, kw16, dw16, lw16, rfl, hAw16⟩ := how16.at
  clear b0 b1 b2 p0 p1 p2 q0 q1 q2
  have ofA_w16 := ofA_w15.below hbw16 (Nat.le_refl _)
  have ofC_w16 := ofC_w15.below hbw16 (Nat.le_refl _)
  clear ofA_w15 ofC_w15
  have hB_w16 : Below wb.heap.size wb w16 := hB_w15.trans (hbw16.mono hB_w15.size)
  obtain ⟨hK_w16, hE_w16, hw_w16⟩ := HB.out w16 hB_w16
  have evP_w16 := evP_w15.on hbw16
  have evQ_w16 := evQ_w15.on hbw16
  clear hK_w15 hE_w15 hw_w15 hB_w15 evP_w15 evQ_w15
  have cI := CI.out w16 aw16 dw16 kw16 lw16 hAw16
  go_wp2_with fail
  refine cI.mono ?_
  rintro e w17 ⟨vw17, vfw17, rfl, how17, hofw17, hodw17, hbw17⟩
  obtain ⟨aw17, kw17, dw17, lw17, rfl, _⟩ := how17.at
  obtain ⟨faw17, fcw17, rfl, _⟩ := hofw17.ints
  have HDD : Hid (∀ k, (Value.slice faw17 RES.2.length fcw17).ownBlock = some k → ¬ eblk (.slice aw17 RES.1.pins.length kw17) (.slice dw17 RES.1.gone.length lw17) k) := fun k hk e => by
    rcases e with e | e
    · exact hodw17 k hk _ _ _ rfl e
    · exact ownVP_ne hofw17 (how17.parts').2 k hk e
  have HLD : Hid (∀ k, (Value.slice faw17 RES.2.length fcw17).ownBlock = some k → w16.heap.size ≤ k ∧ k < w17.heap.size) := fun k hk => hofw17.lt k hk
  clear hodw17
  have ofA_w17 := ofA_w16.below hbw17 (Nat.le_refl _)
  have ofC_w17 := ofC_w16.below hbw17 (Nat.le_refl _)
  clear ofA_w16 ofC_w16
  have hB_w17 : Below wb.heap.size wb w17 := hB_w16.trans (hbw17.mono hB_w16.size)
  obtain ⟨hK_w17, hE_w17, hw_w17⟩ := HB.out w17 hB_w17
  have evP_w17 := evP_w16.on hbw17
  have evQ_w17 := evQ_w16.on hbw17
  clear hK_w16 hE_w16 hw_w16 hB_w16 evP_w16 evQ_w16
  have ofD_w17 := hofw17
  clear hofw17
  clear cI how16 hAw16
  obtain ⟨w18, hw18⟩ : ∃ x, w17.alloc (.cells #[.int .i64 RES.1.now, .slice aw17 RES.1.pins.length kw17, .slice dw17 RES.1.gone.length lw17] 29) = x := ⟨_, rfl⟩
  have hbw18 : Below w17.heap.size w17 w18 := by rw [← hw18]; exact (Below.refl _ _).alloc (Nat.le_refl _) _
  have evH_w18 : EV w18 w16.heap.size w17.heap.size aw17 kw17 dw17 lw17 RES.1 := by rw [← hw18]; exact EV.new how17 (hbw17.size)
  have sw18 : w18.heap.size = w17.heap.size + 1 := by rw [← hw18]; simp
  have HWw18 : Hid (w17.alloc (.cells #[.int .i64 RES.1.now, .slice aw17 RES.1.pins.length kw17, .slice dw17 RES.1.gone.length lw17] 29) = w18) := hw18
  have ofA_w18 := ofA_w17.below hbw18 (Nat.le_refl _)
  have ofC_w18 := ofC_w17.below hbw18 (Nat.le_refl _)
  have ofD_w18 := ofD_w17.below hbw18 (Nat.le_refl _)
  clear ofA_w17 ofC_w17 ofD_w17
  have hB_w18 : Below wb.heap.size wb w18 := hB_w17.trans (hbw18.mono hB_w17.size)
  obtain ⟨hK_w18, hE_w18, hw_w18⟩ := HB.out w18 hB_w18
  have evP_w18 := evP_w17.on hbw18
  have evQ_w18 := evQ_w17.on hbw18
  clear hK_w17 hE_w17 hw_w17 hB_w17 evP_w17 evQ_w17
  obtain ⟨b0, b1, b2⟩ := hK_w18.cells
  obtain ⟨p0, p1, p2⟩ := evP_w18.box.cells
  obtain ⟨q0, q1, q2⟩ := evQ_w18.box.cells
  obtain ⟨h0, h1, h2⟩ := evH_w18.box.cells
  rw [← hw18] at b0 b1 b2 p0 p1 p2 q0 q1 q2 h0 h1 h2
  clear hw18
  go_wp2_with fail
  rw [HWw18.out] at b0 b1 b2 p0 p1 p2 q0 q1 q2 h0 h1 h2 ⊢
  refine (eqEpochs_same w18 aw17 dw17 aw3 dw3 kw17 lw17 kw3 lw3 RES.1 evH_w18.at evP_w18.at hRl.1 hRl.2).mono ?_
  rintro e w18b ⟨rfl, hbw18b⟩
  clear b0 b1 b2 p0 p1 p2 q0 q1 q2 h0 h1 h2
  have ofA_w18b := ofA_w18.below hbw18b (Nat.le_refl _)
  have ofC_w18b := ofC_w18.below hbw18b (Nat.le_refl _)
  have ofD_w18b := ofD_w18.below hbw18b (Nat.le_refl _)
  clear ofA_w18 ofC_w18 ofD_w18
  have hB_w18b : Below wb.heap.size wb w18b := hB_w18.trans (hbw18b.mono hB_w18.size)
  obtain ⟨hK_w18b, hE_w18b, hw_w18b⟩ := HB.out w18b hB_w18b
  have evP_w18b := evP_w18.on hbw18b
  have evQ_w18b := evQ_w18.on hbw18b
  have evH_w18b := evH_w18.on hbw18b
  clear hK_w18 hE_w18 hw_w18 hB_w18 evP_w18 evQ_w18 evH_w18
  have IA : IAt w18b faw17 RES.2 w18b.heap.size := (show _ from by obtain ⟨u, c, hv, h⟩ := ofD_w18b.ints; simp only [Value.slice.injEq] at hv; obtain ⟨rfl, _, rfl⟩ := hv; exact h)
  have IB : IAt w18b faw3 RES.2 w18b.heap.size := (show _ from by obtain ⟨u, c, hv, h⟩ := ofA_w18b.ints; simp only [Value.slice.injEq] at hv; obtain ⟨rfl, _, rfl⟩ := hv; exact h)
  go_wp2_with fail
  refine (eqIntS_same w18b faw17 faw3 fcw17 fcw3 RES.2 IA IB hRf).mono ?_
  rintro e w19 ⟨rfl, hbw19⟩
  clear IA IB
  have ofA_w19 := ofA_w18b.below hbw19 (Nat.le_refl _)
  have ofC_w19 := ofC_w18b.below hbw19 (Nat.le_refl _)
  have ofD_w19 := ofD_w18b.below hbw19 (Nat.le_refl _)
  clear ofA_w18b ofC_w18b ofD_w18b
  have hB_w19 : Below wb.heap.size wb w19 := hB_w18b.trans (hbw19.mono hB_w18b.size)
  obtain ⟨hK_w19, hE_w19, hw_w19⟩ := HB.out w19 hB_w19
  have evP_w19 := evP_w18b.on hbw19
  have evQ_w19 := evQ_w18b.on hbw19
  have evH_w19 := evH_w18b.on hbw19
  clear hK_w18b hE_w18b hw_w18b hB_w18b evP_w18b evQ_w18b evH_w18b
  obtain ⟨b0, b1, b2⟩ := hK_w19.cells
  obtain ⟨p0, p1, p2⟩ := evP_w19.box.cells
  obtain ⟨q0, q1, q2⟩ := evQ_w19.box.cells
  obtain ⟨h0, h1, h2⟩ := evH_w19.box.cells
  go_wp2_with fail
  refine (HCH.out w19 evQ_w19).mono ?_
  rintro e w20 ⟨rfl, hbw20⟩
  clear b0 b1 b2 p0 p1 p2 q0 q1 q2 h0 h1 h2
  have ofA_w20 := ofA_w19.below hbw20 (Nat.le_refl _)
  have ofC_w20 := ofC_w19.below hbw20 (Nat.le_refl _)
  have ofD_w20 := ofD_w19.below hbw20 (Nat.le_refl _)
  clear ofA_w19 ofC_w19 ofD_w19
  have hB_w20 : Below wb.heap.size wb w20 := hB_w19.trans (hbw20.mono hB_w19.size)
  obtain ⟨hK_w20, hE_w20, hw_w20⟩ := HB.out w20 hB_w20
  have evP_w20 := evP_w19.on hbw20
  have evQ_w20 := evQ_w19.on hbw20
  have evH_w20 := evH_w19.on hbw20
  clear hK_w19 hE_w19 hw_w19 hB_w19 evP_w19 evQ_w19 evH_w19
  have cH := HCI.out w20 ofC_w20
  go_wp2_with fail
  refine cH.mono ?_
  rintro e wz ⟨rfl, hwz⟩
  rw [hwz]
  clear cH hwz
  go_wp2_with fail
  go_ret
  exact ⟨rfl, hw_w20⟩
end Go.Proofs.Ytockgojdmaladap
