/- The law on StreamLeave, walked. Written by mkmlaw.py. -/
import Derived.Test.YtmpnjijbahjinauStmLaw
import Derived.Test.YtmpnjijbahjinauStmLens
import Derived.Test.YtmpnjijbahjinauStmLeave
import Derived.Test.YtmpnjijbahjinauStmLeaveImpl
import Derived.Deep.RegionHeld3
namespace Go.Proofs.Ytmpnjijbahjinau
open Go.RowKit Go.Sort
set_option maxRecDepth 100000 in
set_option maxHeartbeats 8000000 in
theorem streamLeave_walk (a : Option Addr) (c : Nat) (S : Stm) (id : Int) (w : World) (hE : PAt w a S.rd w.heap.size) (hmt : S.text.size ≤ maxLen) (hm : S.rd.length ≤ maxLen) (_ : (Lit.int .i64 id).wf = true) :
    Calls Try.prog 8 #[.agg #[.int .i64 S.st, .string S.text, .slice a S.rd.length c], .int .i64 id] w fun e w' => e = .returned (.bool true) ∧ Below w.heap.size w w' := by
  obtain ⟨wb, hwb⟩ : ∃ wb, w.alloc (.cells #[.int .i64 S.st, .string S.text, .slice a S.rd.length c] 24) = wb := ⟨_, rfl⟩
  have hb : Below w.heap.size w wb := by rw [← hwb]; exact (Below.refl _ _).alloc (Nat.le_refl _) _
  have hbs : w.heap.size < wb.heap.size := by rw [← hwb]; simp
  have hK_wb : LMBox wb w.heap.size (.int .i64 S.st) (.string S.text) (.slice a S.rd.length c) := by rw [← hwb]; exact LMBox.new _ _ _ _
  have hE_wb : PAt wb a S.rd wb.heap.size := hE.on hb
  have hw_wb : Below w.heap.size w wb := hb
  have hB_wb : Below wb.heap.size wb wb := Below.refl _ _
  have HB : Hid (∀ wi, Below wb.heap.size wb wi → LMBox wi w.heap.size (.int .i64 S.st) (.string S.text) (.slice a S.rd.length c) ∧ PAt wi a S.rd wi.heap.size ∧ Below w.heap.size w wi) := fun wi hi => ⟨hK_wb.on hi, hE_wb.on hi, hb.trans (hi.mono hb.size)⟩
  have c0 := szStream_any wb a c S.rd.length S.st S.text hmt hm
  have HW : Hid (w.alloc (.cells #[.int .i64 S.st, .string S.text, .slice a S.rd.length c] 24) = wb) := hwb
  obtain ⟨b0, b1, b2⟩ := hK_wb.cells
  rw [← hwb] at b0 b1 b2
  clear hwb hE hb
  go_enter Try.func8, Try.ntmps8
  go_wp2_with fail
  rw [HW.out] at b0 b1 b2 ⊢
  refine c0.mono ?_
  rintro e w1 ⟨r, rfl, hr, hb1⟩
  clear c0 b0 b1 b2
  have hB_w1 : Below wb.heap.size wb w1 := hB_wb.trans (hb1.mono hB_wb.size)
  obtain ⟨hK_w1, hE_w1, hw_w1⟩ := HB.out w1 hB_w1
  clear hK_wb hE_wb hw_wb hB_wb 
  rcases hr with rfl | ⟨hr0, hr1⟩
  · go_wp2_with fail
    go_ret
    exact ⟨rfl, hw_w1⟩
  have hlt : S.text.size ≤ 1048576 := by omega
  have hl : S.rd.length ≤ 1048576 := by omega
  have hr2 : ¬ r < 0 := by omega
  clear hr1 hr0 hm hmt
  obtain ⟨RS, hRES⟩ : ∃ R, leaveM S id = R := ⟨_, rfl⟩
  have hRl : RS.rd.length ≤ 1048577 := by have h0 := leaveM_len S id hl; rw [hRES] at h0; exact h0
  have CS : Hid (∀ (wi : World) (a1 : Option Addr) (k1 : Nat), PAt wi a1 S.rd wi.heap.size → Calls Try.prog 24 #[.agg #[.int .i64 S.st, .string S.text, .slice a1 S.rd.length k1], .int .i64 id] wi fun e w' => ∃ v, e = .returned v ∧ MOwn w' wi.heap.size v RS ∧ Below wi.heap.size wi w') := by
    intro wi a1 k1 h
    have h0 := specStreamLeave_any wi a1 k1 S id h hl
    rw [hRES] at h0
    exact h0
  have CI : Hid (∀ (wi : World) (a1 : Option Addr) (k1 : Nat), PAt wi a1 S.rd wi.heap.size → Calls Try.prog 25 #[.agg #[.int .i64 S.st, .string S.text, .slice a1 S.rd.length k1], .int .i64 id] wi fun e w' => ∃ v, e = .returned v ∧ MOwn w' wi.heap.size v RS ∧ Below wi.heap.size wi w') := by
    intro wi a1 k1 h
    have h0 := implStreamLeave_any wi a1 k1 S id h hlt hl
    rw [hRES] at h0
    exact h0
  clear hRES
  obtain ⟨b0, b1, b2⟩ := hK_w1.cells
  go_wp2_with fail
  refine (toStream_any w1 a c S hE_w1 hl).mono ?_
  rintro e w2 ⟨vw2, rfl, how2, hbw2⟩
  obtain ⟨aw2, kw2, rfl, hAw2⟩ := how2.at
  clear b0 b1 b2 
  have hB_w2 : Below wb.heap.size wb w2 := hB_w1.trans (hbw2.mono hB_w1.size)
  obtain ⟨hK_w2, hE_w2, hw_w2⟩ := HB.out w2 hB_w2
  clear hK_w1 hE_w1 hw_w1 hB_w1 
  have cS := CS.out w2 aw2 kw2 hAw2
  go_wp2_with fail
  refine cS.mono ?_
  rintro e w3 ⟨vw3, rfl, how3, hbw3⟩
  obtain ⟨aw3, kw3, rfl, _⟩ := how3.at
  clear cS how2 hAw2
  have hB_w3 : Below wb.heap.size wb w3 := hB_w2.trans (hbw3.mono hB_w2.size)
  obtain ⟨hK_w3, hE_w3, hw_w3⟩ := HB.out w3 hB_w3
  clear hK_w2 hE_w2 hw_w2 hB_w2 
  obtain ⟨w4, hw4⟩ : ∃ x, w3.alloc (.cells #[.int .i64 RS.st, .string RS.text, .slice aw3 RS.rd.length kw3] 29) = x := ⟨_, rfl⟩
  have hbw4 : Below w3.heap.size w3 w4 := by rw [← hw4]; exact (Below.refl _ _).alloc (Nat.le_refl _) _
  have evP_w4 : MV w4 w2.heap.size w3.heap.size aw3 kw3 RS := by rw [← hw4]; exact MV.new how3 hbw3.size
  have sw4 : w4.heap.size = w3.heap.size + 1 := by rw [← hw4]; simp
  have HWw4 : Hid (w3.alloc (.cells #[.int .i64 RS.st, .string RS.text, .slice aw3 RS.rd.length kw3] 29) = w4) := hw4
  have hB_w4 : Below wb.heap.size wb w4 := hB_w3.trans (hbw4.mono hB_w3.size)
  obtain ⟨hK_w4, hE_w4, hw_w4⟩ := HB.out w4 hB_w4
  clear hK_w3 hE_w3 hw_w3 hB_w3 
  obtain ⟨b0, b1, b2⟩ := hK_w4.cells
  obtain ⟨p0, p1, p2⟩ := evP_w4.box.cells
  rw [← hw4] at b0 b1 b2 p0 p1 p2
  clear hw4
  go_wp2_with fail
  rw [HWw4.out] at b0 b1 b2 p0 p1 p2 ⊢
  refine (toStream_any w4 a c S hE_w4 hl).mono ?_
  rintro e w5 ⟨vw5, rfl, how5, hbw5⟩
  obtain ⟨aw5, kw5, rfl, hAw5⟩ := how5.at
  clear b0 b1 b2 p0 p1 p2
  have hB_w5 : Below wb.heap.size wb w5 := hB_w4.trans (hbw5.mono hB_w4.size)
  obtain ⟨hK_w5, hE_w5, hw_w5⟩ := HB.out w5 hB_w5
  have evP_w5 := evP_w4.on hbw5
  clear hK_w4 hE_w4 hw_w4 hB_w4 evP_w4
  obtain ⟨w6, hw6⟩ : ∃ x, w5.alloc (.cells #[.int .i64 S.st, .string S.text, .slice aw5 S.rd.length kw5] 29) = x := ⟨_, rfl⟩
  have hbw6 : Below w5.heap.size w5 w6 := by rw [← hw6]; exact (Below.refl _ _).alloc (Nat.le_refl _) _
  have evX_w6 : MV w6 w4.heap.size w5.heap.size aw5 kw5 S := by rw [← hw6]; exact MV.new how5 hbw5.size
  have sw6 : w6.heap.size = w5.heap.size + 1 := by rw [← hw6]; simp
  have HWw6 : Hid (w5.alloc (.cells #[.int .i64 S.st, .string S.text, .slice aw5 S.rd.length kw5] 29) = w6) := hw6
  have hB_w6 : Below wb.heap.size wb w6 := hB_w5.trans (hbw6.mono hB_w5.size)
  obtain ⟨hK_w6, hE_w6, hw_w6⟩ := HB.out w6 hB_w6
  have evP_w6 := evP_w5.on hbw6
  clear hK_w5 hE_w5 hw_w5 hB_w5 evP_w5
  obtain ⟨b0, b1, b2⟩ := hK_w6.cells
  obtain ⟨p0, p1, p2⟩ := evP_w6.box.cells
  obtain ⟨x0, x1, x2⟩ := evX_w6.box.cells
  rw [← hw6] at b0 b1 b2 p0 p1 p2 x0 x1 x2
  clear hw6
  have cI := CI.out w6 aw5 kw5 evX_w6.at
  go_wp2_with fail
  rw [HWw6.out] at b0 b1 b2 p0 p1 p2 x0 x1 x2 ⊢
  refine cI.mono ?_
  rintro e w7 ⟨vw7, rfl, how7, hbw7⟩
  obtain ⟨aw7, kw7, rfl, _⟩ := how7.at
  clear cI
  clear b0 b1 b2 p0 p1 p2 x0 x1 x2
  have hB_w7 : Below wb.heap.size wb w7 := hB_w6.trans (hbw7.mono hB_w6.size)
  obtain ⟨hK_w7, hE_w7, hw_w7⟩ := HB.out w7 hB_w7
  have evP_w7 := evP_w6.on hbw7
  have evX_w7 := evX_w6.on hbw7
  clear hK_w6 hE_w6 hw_w6 hB_w6 evP_w6 evX_w6
  obtain ⟨w8, hw8⟩ : ∃ x, w7.alloc (.cells #[.int .i64 RS.st, .string RS.text, .slice aw7 RS.rd.length kw7] 29) = x := ⟨_, rfl⟩
  have hbw8 : Below w7.heap.size w7 w8 := by rw [← hw8]; exact (Below.refl _ _).alloc (Nat.le_refl _) _
  have evQ_w8 : MV w8 w6.heap.size w7.heap.size aw7 kw7 RS := by rw [← hw8]; exact MV.new how7 hbw7.size
  have sw8 : w8.heap.size = w7.heap.size + 1 := by rw [← hw8]; simp
  have HWw8 : Hid (w7.alloc (.cells #[.int .i64 RS.st, .string RS.text, .slice aw7 RS.rd.length kw7] 29) = w8) := hw8
  have hB_w8 : Below wb.heap.size wb w8 := hB_w7.trans (hbw8.mono hB_w7.size)
  obtain ⟨hK_w8, hE_w8, hw_w8⟩ := HB.out w8 hB_w8
  have evP_w8 := evP_w7.on hbw8
  have evX_w8 := evX_w7.on hbw8
  clear hK_w7 hE_w7 hw_w7 hB_w7 evP_w7 evX_w7
  obtain ⟨b0, b1, b2⟩ := hK_w8.cells
  obtain ⟨p0, p1, p2⟩ := evP_w8.box.cells
  obtain ⟨x0, x1, x2⟩ := evX_w8.box.cells
  obtain ⟨q0, q1, q2⟩ := evQ_w8.box.cells
  rw [← hw8] at b0 b1 b2 p0 p1 p2 x0 x1 x2 q0 q1 q2
  clear hw8
  have ES : Hid (wb.heap.size ≤ w1.heap.size ∧ w1.heap.size ≤ w2.heap.size ∧ w2.heap.size ≤ w3.heap.size ∧ w4.heap.size = w3.heap.size + 1 ∧ w4.heap.size ≤ w5.heap.size ∧ w6.heap.size = w5.heap.size + 1 ∧ w6.heap.size ≤ w7.heap.size ∧ w8.heap.size = w7.heap.size + 1) := ⟨hb1.size, hbw2.size, hbw3.size, sw4, hbw5.size, sw6, hbw7.size, sw8⟩
  clear sw4 sw6 sw8 hb1 hbw2 hbw3 hbw4 hbw5 hbw6 hbw7 hbw8 how3 how5 how7 hAw5
  go_wp2_with fail
  rw [HWw8.out] at b0 b1 b2 p0 p1 p2 x0 x1 x2 q0 q1 q2 ⊢
  refine (eqStream_same w8 aw7 aw3 kw7 kw3 RS evQ_w8.at evP_w8.at hRl).mono ?_
  rintro e w9 ⟨rfl, hbw9⟩
  clear b0 b1 b2 p0 p1 p2 x0 x1 x2 q0 q1 q2
  have hB_w9 : Below wb.heap.size wb w9 := hB_w8.trans (hbw9.mono hB_w8.size)
  obtain ⟨hK_w9, hE_w9, hw_w9⟩ := HB.out w9 hB_w9
  have evP_w9 := evP_w8.on hbw9
  have evX_w9 := evX_w8.on hbw9
  have evQ_w9 := evQ_w8.on hbw9
  clear hK_w8 hE_w8 hw_w8 hB_w8 evP_w8 evX_w8 evQ_w8
  obtain ⟨b0, b1, b2⟩ := hK_w9.cells
  obtain ⟨p0, p1, p2⟩ := evP_w9.box.cells
  obtain ⟨x0, x1, x2⟩ := evX_w9.box.cells
  obtain ⟨q0, q1, q2⟩ := evQ_w9.box.cells
  have KS : ∀ W, Below w9.heap.size w9 W → Below w9.heap.size w9 W ∧ W.cell? ⟨w5.heap.size, 0, none⟩ = some (.int .i64 S.st) ∧ W.cell? ⟨w5.heap.size, 1, none⟩ = some (.string S.text) ∧ W.cell? ⟨w5.heap.size, 2, none⟩ = some (.slice aw5 S.rd.length kw5) ∧ W.cell? ⟨w.heap.size, 0, none⟩ = some (.int .i64 S.st) ∧ W.cell? ⟨w.heap.size, 1, none⟩ = some (.string S.text) ∧ W.cell? ⟨w.heap.size, 2, none⟩ = some (.slice a S.rd.length c) := fun W h => ⟨h, (h.cell (World.block_lt_of_cell? w9 _ x0)).trans x0, (h.cell (World.block_lt_of_cell? w9 _ x1)).trans x1, (h.cell (World.block_lt_of_cell? w9 _ x2)).trans x2, (h.cell (World.block_lt_of_cell? w9 _ b0)).trans b0, (h.cell (World.block_lt_of_cell? w9 _ b1)).trans b1, (h.cell (World.block_lt_of_cell? w9 _ b2)).trans b2⟩
  have hdr : Below w9.heap.size w9 w9.drew := ⟨rfl, rfl, rfl, Nat.le_refl _, fun _ _ => rfl⟩
  have HT : Hid (∀ W, Below w9.heap.size w9 W → PAt W a S.rd W.heap.size ∧ PAt W aw5 S.rd W.heap.size) := fun W h => ⟨hE_w9.on h, evX_w9.at.on h⟩
  go_wp2_with fail
  go_region_held3 (fun W => Below w9.heap.size w9 W ∧ W.cell? ⟨w5.heap.size, 0, none⟩ = some (.int .i64 S.st) ∧ W.cell? ⟨w5.heap.size, 1, none⟩ = some (.string S.text) ∧ W.cell? ⟨w5.heap.size, 2, none⟩ = some (.slice aw5 S.rd.length kw5) ∧ W.cell? ⟨w.heap.size, 0, none⟩ = some (.int .i64 S.st) ∧ W.cell? ⟨w.heap.size, 1, none⟩ = some (.string S.text) ∧ W.cell? ⟨w.heap.size, 2, none⟩ = some (.slice a S.rd.length c)) (first | with_reducible exact KS _ hdr | with_reducible exact KS _ hC | with_reducible exact KS _ hD)
    (first
      | (go_at_call 11; refine (toStream_any _ a c S (HT.out _ hdr).1 hl).mono ?_; rintro e w10 ⟨v10, rfl, ho10, hb10⟩; obtain ⟨a10, k10, rfl, hA10⟩ := ho10.at; have hC : Below w9.heap.size w9 w10 := hdr.trans (hb10.mono hdr.size))
      | (go_at_call 13; refine (eqStream_same _ aw5 a10 kw5 k10 S (HT.out _ hC).2 hA10 (by omega)).mono ?_; rintro e w11 ⟨rfl, hb11⟩; have hD : Below w9.heap.size w9 w11 := hC.trans (hb11.mono hC.size)))
  clear KS HT hdr ho10 hA10 hb10 hb11 hC
  clear b0 b1 b2 p0 p1 p2 x0 x1 x2 q0 q1 q2
  have hB_w11 : Below wb.heap.size wb w11 := hB_w9.trans (hD.mono hB_w9.size)
  obtain ⟨hK_w11, hE_w11, hw_w11⟩ := HB.out w11 hB_w11
  have evP_w11 := evP_w9.on hD
  have evX_w11 := evX_w9.on hD
  have evQ_w11 := evQ_w9.on hD
  clear hK_w9 hE_w9 hw_w9 hB_w9 evP_w9 evX_w9 evQ_w9
  try (rename_i hHeld; clear hHeld)
  obtain ⟨b0, b1, b2⟩ := hK_w11.cells
  obtain ⟨p0, p1, p2⟩ := evP_w11.box.cells
  obtain ⟨x0, x1, x2⟩ := evX_w11.box.cells
  obtain ⟨q0, q1, q2⟩ := evQ_w11.box.cells
  go_wp2_with fail
  refine (markStream_any w11 w4.heap.size aw5 kw5 S 1 evX_w11.own (by omega) (by omega)).mono ?_
  rintro e w12 ⟨he12, _, ht12⟩
  obtain ⟨K12, hK12⟩ : ∃ K : Nat, 1 + 2 * S.rd.length = K := ⟨_, rfl⟩
  rw [hK12] at he12
  subst he12
  clear hK12
  have hn12 : ¬ ((K12 : Int) < 0) := by omega
  clear b0 b1 b2 p0 p1 p2 x0 x1 x2 q0 q1 q2
  have hB_w12 : Below wb.heap.size wb w12 := Tch.below hB_w11 ht12 hB_w11.size (fun k hk => by have h := evX_w11.lt k hk; have := ES.out; omega)
  obtain ⟨hK_w12, hE_w12, hw_w12⟩ := HB.out w12 hB_w12
  have evP_w12 := evP_w11.tch ht12 (fun k hk => by have h := evX_w11.lt k hk; have := ES.out; omega)
  have evQ_w12 := evQ_w11.tch ht12 (fun k hk => by have h := evX_w11.lt k hk; have := ES.out; omega)
  clear hK_w11 hE_w11 hw_w11 hB_w11 evP_w11 evX_w11 evQ_w11
  clear ht12
  obtain ⟨b0, b1, b2⟩ := hK_w12.cells
  obtain ⟨p0, p1, p2⟩ := evP_w12.box.cells
  obtain ⟨q0, q1, q2⟩ := evQ_w12.box.cells
  go_wp2_with fail
  refine (eqStream_same w12 aw7 aw3 kw7 kw3 RS evQ_w12.at evP_w12.at hRl).mono ?_
  rintro e w13 ⟨rfl, hbw13⟩
  clear b0 b1 b2 p0 p1 p2 q0 q1 q2
  have hB_w13 : Below wb.heap.size wb w13 := hB_w12.trans (hbw13.mono hB_w12.size)
  obtain ⟨hK_w13, hE_w13, hw_w13⟩ := HB.out w13 hB_w13
  have evP_w13 := evP_w12.on hbw13
  have evQ_w13 := evQ_w12.on hbw13
  clear hK_w12 hE_w12 hw_w12 hB_w12 evP_w12 evQ_w12
  obtain ⟨b0, b1, b2⟩ := hK_w13.cells
  obtain ⟨p0, p1, p2⟩ := evP_w13.box.cells
  obtain ⟨q0, q1, q2⟩ := evQ_w13.box.cells
  go_wp2_with fail
  refine (markStream_any w13 w6.heap.size aw7 kw7 RS 1 evQ_w13.own hRl (by omega)).mono ?_
  rintro e w14 ⟨he14, ⟨EG, hg1, hg2, hg3, hMG, hoG⟩, ht14⟩
  obtain ⟨K14, hK14⟩ : ∃ K : Nat, 1 + 2 * RS.rd.length = K := ⟨_, rfl⟩
  rw [hK14] at he14
  subst he14
  have hn14 : ¬ ((K14 : Int) < 0) := by omega
  clear b0 b1 b2 p0 p1 p2 q0 q1 q2
  have hB_w14 : Below wb.heap.size wb w14 := Tch.below hB_w13 ht14 hB_w13.size (fun k hk => by have h := evQ_w13.lt k hk; have := ES.out; omega)
  obtain ⟨hK_w14, hE_w14, hw_w14⟩ := HB.out w14 hB_w14
  have evP_w14 := evP_w13.tch ht14 (fun k hk => by have h := evQ_w13.lt k hk; have := ES.out; omega)
  have evQ_w14 := (show MV w14 w6.heap.size w7.heap.size aw7 kw7 EG from ⟨evQ_w13.le, by rw [hg1, hg2, hg3]; exact evQ_w13.box.kept (ht14.2 _ evQ_w13.box.lt (fun e => by have := evQ_w13.lt _ e; omega)), by rw [hg1, hg2, hg3]; exact hoG, by rw [hg3]; exact evQ_w13.lt⟩)
  clear hK_w13 hE_w13 hw_w13 hB_w13 evP_w13 evQ_w13
  have hGl : EG.rd.length ≤ 1048577 := by rw [hg3]; exact hRl
  have hK14' : 1 + 2 * EG.rd.length = K14 := by rw [hg3]; exact hK14
  have HCH : Hid (∀ wi, MV wi w6.heap.size w7.heap.size aw7 kw7 EG → Calls Try.prog 17 #[.agg #[.int .i64 EG.st, .string EG.text, .slice aw7 EG.rd.length kw7], .int .i64 1] wi fun e w' => e = .returned (.int .i64 (K14 : Int)) ∧ Below wi.heap.size wi w') := by
    intro wi h
    rw [← hK14']
    exact heldStream_any wi w6.heap.size aw7 kw7 EG 1 h.own hMG hGl (by omega)
  clear hoG ht14 hK14 hK14' hMG hGl hg1 hg2 hg3
  obtain ⟨b0, b1, b2⟩ := hK_w14.cells
  obtain ⟨p0, p1, p2⟩ := evP_w14.box.cells
  obtain ⟨q0, q1, q2⟩ := evQ_w14.box.cells
  have hkk : ((K14 : Int) != (K14 : Int)) = false := by simp
  go_wp2_with fail
  refine (HCH.out w14 evQ_w14).mono ?_
  rintro e w15 ⟨rfl, hbw15⟩
  clear b0 b1 b2 p0 p1 p2 q0 q1 q2
  have hB_w15 : Below wb.heap.size wb w15 := hB_w14.trans (hbw15.mono hB_w14.size)
  obtain ⟨hK_w15, hE_w15, hw_w15⟩ := HB.out w15 hB_w15
  have evP_w15 := evP_w14.on hbw15
  have evQ_w15 := evQ_w14.on hbw15
  clear hK_w14 hE_w14 hw_w14 hB_w14 evP_w14 evQ_w14
  obtain ⟨b0, b1, b2⟩ := hK_w15.cells
  obtain ⟨p0, p1, p2⟩ := evP_w15.box.cells
  obtain ⟨q0, q1, q2⟩ := evQ_w15.box.cells
  go_wp2_with fail
  refine (toStream_any w15 a c S hE_w15 hl).mono ?_
  rintro e w16 ⟨vw16, rfl, how16, hbw16⟩
  obtain ⟨aw16, kw16, rfl, hAw16⟩ := how16.at
  clear b0 b1 b2 p0 p1 p2 q0 q1 q2
  have hB_w16 : Below wb.heap.size wb w16 := hB_w15.trans (hbw16.mono hB_w15.size)
  obtain ⟨hK_w16, hE_w16, hw_w16⟩ := HB.out w16 hB_w16
  have evP_w16 := evP_w15.on hbw16
  have evQ_w16 := evQ_w15.on hbw16
  clear hK_w15 hE_w15 hw_w15 hB_w15 evP_w15 evQ_w15
  have cI := CI.out w16 aw16 kw16 hAw16
  go_wp2_with fail
  refine cI.mono ?_
  rintro e w17 ⟨vw17, rfl, how17, hbw17⟩
  obtain ⟨aw17, kw17, rfl, _⟩ := how17.at
  clear cI how16 hAw16
  have hB_w17 : Below wb.heap.size wb w17 := hB_w16.trans (hbw17.mono hB_w16.size)
  obtain ⟨hK_w17, hE_w17, hw_w17⟩ := HB.out w17 hB_w17
  have evP_w17 := evP_w16.on hbw17
  have evQ_w17 := evQ_w16.on hbw17
  clear hK_w16 hE_w16 hw_w16 hB_w16 evP_w16 evQ_w16
  obtain ⟨w18, hw18⟩ : ∃ x, w17.alloc (.cells #[.int .i64 RS.st, .string RS.text, .slice aw17 RS.rd.length kw17] 29) = x := ⟨_, rfl⟩
  have hbw18 : Below w17.heap.size w17 w18 := by rw [← hw18]; exact (Below.refl _ _).alloc (Nat.le_refl _) _
  have evH_w18 : MV w18 w16.heap.size w17.heap.size aw17 kw17 RS := by rw [← hw18]; exact MV.new how17 hbw17.size
  have sw18 : w18.heap.size = w17.heap.size + 1 := by rw [← hw18]; simp
  have HWw18 : Hid (w17.alloc (.cells #[.int .i64 RS.st, .string RS.text, .slice aw17 RS.rd.length kw17] 29) = w18) := hw18
  have hB_w18 : Below wb.heap.size wb w18 := hB_w17.trans (hbw18.mono hB_w17.size)
  obtain ⟨hK_w18, hE_w18, hw_w18⟩ := HB.out w18 hB_w18
  have evP_w18 := evP_w17.on hbw18
  have evQ_w18 := evQ_w17.on hbw18
  clear hK_w17 hE_w17 hw_w17 hB_w17 evP_w17 evQ_w17
  obtain ⟨b0, b1, b2⟩ := hK_w18.cells
  obtain ⟨p0, p1, p2⟩ := evP_w18.box.cells
  obtain ⟨q0, q1, q2⟩ := evQ_w18.box.cells
  obtain ⟨h0, h1, h2⟩ := evH_w18.box.cells
  rw [← hw18] at b0 b1 b2 p0 p1 p2 q0 q1 q2 h0 h1 h2
  clear hw18
  go_wp2_with fail
  rw [HWw18.out] at b0 b1 b2 p0 p1 p2 q0 q1 q2 h0 h1 h2 ⊢
  refine (eqStream_same w18 aw17 aw3 kw17 kw3 RS evH_w18.at evP_w18.at hRl).mono ?_
  rintro e w19 ⟨rfl, hbw19⟩
  clear b0 b1 b2 p0 p1 p2 q0 q1 q2 h0 h1 h2
  have hB_w19 : Below wb.heap.size wb w19 := hB_w18.trans (hbw19.mono hB_w18.size)
  obtain ⟨hK_w19, hE_w19, hw_w19⟩ := HB.out w19 hB_w19
  have evP_w19 := evP_w18.on hbw19
  have evQ_w19 := evQ_w18.on hbw19
  have evH_w19 := evH_w18.on hbw19
  clear hK_w18 hE_w18 hw_w18 hB_w18 evP_w18 evQ_w18 evH_w18
  obtain ⟨b0, b1, b2⟩ := hK_w19.cells
  obtain ⟨p0, p1, p2⟩ := evP_w19.box.cells
  obtain ⟨q0, q1, q2⟩ := evQ_w19.box.cells
  obtain ⟨h0, h1, h2⟩ := evH_w19.box.cells
  go_wp2_with fail
  refine (HCH.out w19 evQ_w19).mono ?_
  rintro e w20 ⟨rfl, hbw20⟩
  clear b0 b1 b2 p0 p1 p2 q0 q1 q2 h0 h1 h2
  go_wp2_with fail
  go_ret
  exact ⟨rfl, hw_w19.trans (hbw20.mono hw_w19.size)⟩
end Go.Proofs.Ytmpnjijbahjinau
