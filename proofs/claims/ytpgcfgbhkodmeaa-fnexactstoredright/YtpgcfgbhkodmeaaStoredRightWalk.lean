/- The law on FnExactStoredRight, walked. Written by mkwlaw.py. -/
import Derived.Test.YtpgcfgbhkodmeaaWldTo
import Derived.Test.YtpgcfgbhkodmeaaPxOneImplJ
import Derived.Test.YtpgcfgbhkodmeaaStoredImpl
import Derived.Deep.RegionHeld3
namespace Go.Proofs.Ytpgcfgbhkodmeaa
open Go.RowKit Go.Sort
set_option maxRecDepth 100000 in
set_option maxHeartbeats 8000000 in
theorem storedRight_walk (a : Wc) (P : Wld) (w : World) (hE : WAt w a P w.heap.size) (hm : WM P) :
    Calls Try.prog 4 #[.agg #[.int .i64 P.px.now, a.x.e, a.x.w, a.x.m, a.x.k, .int .i64 P.px.pol.sk.added, a.x.f, a.x.c, .int .i64 P.px.hits, a.d, a.n, a.b]] w fun e w' => e = .returned (.bool true) ∧ Below w.heap.size w w' := by
  obtain ⟨wb, hwb⟩ : ∃ wb, w.alloc (.cells #[.int .i64 P.px.now, a.x.e, a.x.w, a.x.m, a.x.k, .int .i64 P.px.pol.sk.added, a.x.f, a.x.c, .int .i64 P.px.hits, a.d, a.n, a.b] 51) = wb := ⟨_, rfl⟩
  have hb : Below w.heap.size w wb := by rw [← hwb]; exact (Below.refl _ _).alloc (Nat.le_refl _) _
  have hK_wb : TB wb w.heap.size 51 (.int .i64 P.px.now) a.x.e a.x.w a.x.m a.x.k (.int .i64 P.px.pol.sk.added) a.x.f a.x.c (.int .i64 P.px.hits) a.d a.n a.b := by rw [← hwb]; exact TB.new _ _ _ _ _ _ _ _ _ _ _ _ _ _
  have hE_wb : WAt wb a P wb.heap.size := hE.on hb
  have hw_wb : Below w.heap.size w wb := hb
  have hB_wb : Below wb.heap.size wb wb := Below.refl _ _
  have HB : Hid (∀ wi, Below wb.heap.size wb wi → TB wi w.heap.size 51 (.int .i64 P.px.now) a.x.e a.x.w a.x.m a.x.k (.int .i64 P.px.pol.sk.added) a.x.f a.x.c (.int .i64 P.px.hits) a.d a.n a.b ∧ WAt wi a P wi.heap.size ∧ Below w.heap.size w wi) := fun wi hi => ⟨hK_wb.on hi, hE_wb.on hi, hb.trans (hi.mono hb.size)⟩
  have c0 := szWorld_any wb a P hE_wb hm
  have HW : Hid (w.alloc (.cells #[.int .i64 P.px.now, a.x.e, a.x.w, a.x.m, a.x.k, .int .i64 P.px.pol.sk.added, a.x.f, a.x.c, .int .i64 P.px.hits, a.d, a.n, a.b] 51) = wb) := hwb
  obtain ⟨b0, b1, b2, b3, b4, b5, b6, b7, b8, b9, b10, b11⟩ := hK_wb.cells
  rw [← hwb] at b0 b1 b2 b3 b4 b5 b6 b7 b8 b9 b10 b11
  clear hwb hE hb
  go_enter Try.func4, Try.ntmps4
  go_wp2_with fail
  rw [HW.out] at b0 b1 b2 b3 b4 b5 b6 b7 b8 b9 b10 b11 ⊢
  refine c0.mono ?_
  rintro e w1 ⟨r, rfl, hr, hb1⟩
  clear c0 b0 b1 b2 b3 b4 b5 b6 b7 b8 b9 b10 b11
  have hB_w1 : Below wb.heap.size wb w1 := hB_wb.trans (hb1.mono hB_wb.size)
  obtain ⟨hK_w1, hE_w1, hw_w1⟩ := HB.out w1 hB_w1
  clear hK_wb hE_wb hw_wb hB_wb
  rcases hr with rfl | ⟨hr0, hsz⟩
  · go_wp2_with fail
    go_ret
    exact ⟨rfl, hw_w1⟩
  have hr2 : ¬ r < 0 := by omega
  clear hr0 hm
  obtain ⟨R, hR⟩ : ∃ R, storedX P.px.ents P.bd = R := ⟨_, rfl⟩
  have hbb : (R != R) = false := by simp
  have CS : Hid (∀ (wi : World) (a1 : Wc), WAt wi a1 P wi.heap.size → Calls Try.prog 13 #[.agg #[.int .i64 P.px.now, a1.x.e, a1.x.w, a1.x.m, a1.x.k, .int .i64 P.px.pol.sk.added, a1.x.f, a1.x.c, .int .i64 P.px.hits, a1.d, a1.n, a1.b]] wi fun e w' => e = .returned (.bool R) ∧ Below wi.heap.size wi w') := by intro wi a1 h; rw [← hR]; exact specStored_any wi a1 P h hsz
  have CI : Hid (∀ (wi : World) (a1 : Wc), WAt wi a1 P wi.heap.size → Calls Try.prog 15 #[.agg #[.int .i64 P.px.now, a1.x.e, a1.x.w, a1.x.m, a1.x.k, .int .i64 P.px.pol.sk.added, a1.x.f, a1.x.c, .int .i64 P.px.hits, a1.d, a1.n, a1.b]] wi fun e w' => e = .returned (.bool R) ∧ Below wi.heap.size wi w') := by intro wi a1 h; rw [← hR]; exact implStored_any wi a1 P h hsz
  clear hR
  obtain ⟨b0, b1, b2, b3, b4, b5, b6, b7, b8, b9, b10, b11⟩ := hK_w1.cells
  go_wp2_with fail
  refine (toWorld_any w1 a P hE_w1 hsz).mono ?_
  rintro e w2 ⟨Y_, he_, hA2, hbw2⟩
  obtain ⟨oe0, oe1, ow0, ow1, om0, om1, ok0, ok1, of0, of1, oc0, oc1, od0, od1, on0, on1, ob0, ob1, rfl⟩ := hA2.slices
  dsimp only at he_
  subst he_
  clear b0 b1 b2 b3 b4 b5 b6 b7 b8 b9 b10 b11
  have hB_w2 : Below wb.heap.size wb w2 := hB_w1.trans (hbw2.mono hB_w1.size)
  obtain ⟨hK_w2, hE_w2, hw_w2⟩ := HB.out w2 hB_w2
  clear hK_w1 hE_w1 hw_w1 hB_w1
  have cS := CS.out w2 ⟨⟨.slice oe0 P.px.ents.length oe1, .slice ow0 P.px.pol.win.length ow1, .slice om0 P.px.pol.main.length om1, .slice ok0 P.px.pol.sk.rows.length ok1, .slice of0 P.px.fes.length of1, .slice oc0 P.px.cls.length oc1⟩, .slice od0 P.fl.length od1, .slice on0 P.cd.length on1, .slice ob0 P.bd.length ob1⟩ hA2
  go_wp2_with fail
  refine cS.mono ?_
  rintro e w3 ⟨rfl, hbw3⟩
  clear cS hA2
  have hB_w3 : Below wb.heap.size wb w3 := hB_w2.trans (hbw3.mono hB_w2.size)
  obtain ⟨hK_w3, hE_w3, hw_w3⟩ := HB.out w3 hB_w3
  clear hK_w2 hE_w2 hw_w2 hB_w2
  obtain ⟨b0, b1, b2, b3, b4, b5, b6, b7, b8, b9, b10, b11⟩ := hK_w3.cells
  go_wp2_with fail
  refine (toWorld_any w3 a P hE_w3 hsz).mono ?_
  rintro e w5 ⟨Y_, he_, hA5, hbw5⟩
  obtain ⟨pe0, pe1, pw0, pw1, pm0, pm1, pk0, pk1, pf0, pf1, pc0, pc1, pd0, pd1, pn0, pn1, pb0, pb1, rfl⟩ := hA5.slices
  dsimp only at he_
  subst he_
  clear b0 b1 b2 b3 b4 b5 b6 b7 b8 b9 b10 b11
  have hB_w5 : Below wb.heap.size wb w5 := hB_w3.trans (hbw5.mono hB_w3.size)
  obtain ⟨hK_w5, hE_w5, hw_w5⟩ := HB.out w5 hB_w5
  clear hK_w3 hE_w3 hw_w3 hB_w3
  obtain ⟨w6, hw6⟩ : ∃ x, w5.alloc (.cells #[.int .i64 P.px.now, .slice pe0 P.px.ents.length pe1, .slice pw0 P.px.pol.win.length pw1, .slice pm0 P.px.pol.main.length pm1, .slice pk0 P.px.pol.sk.rows.length pk1, .int .i64 P.px.pol.sk.added, .slice pf0 P.px.fes.length pf1, .slice pc0 P.px.cls.length pc1, .int .i64 P.px.hits, .slice pd0 P.fl.length pd1, .slice pn0 P.cd.length pn1, .slice pb0 P.bd.length pb1] 58) = x := ⟨_, rfl⟩
  have hbw6 : Below w5.heap.size w5 w6 := by rw [← hw6]; exact (Below.refl _ _).alloc (Nat.le_refl _) _
  have evX_w6 : TB w6 w5.heap.size 58 (.int .i64 P.px.now) (.slice pe0 P.px.ents.length pe1) (.slice pw0 P.px.pol.win.length pw1) (.slice pm0 P.px.pol.main.length pm1) (.slice pk0 P.px.pol.sk.rows.length pk1) (.int .i64 P.px.pol.sk.added) (.slice pf0 P.px.fes.length pf1) (.slice pc0 P.px.cls.length pc1) (.int .i64 P.px.hits) (.slice pd0 P.fl.length pd1) (.slice pn0 P.cd.length pn1) (.slice pb0 P.bd.length pb1) := by rw [← hw6]; exact TB.new _ _ _ _ _ _ _ _ _ _ _ _ _ _
  have hA6 := hA5.on hbw6
  have HWw6 : Hid (w5.alloc (.cells #[.int .i64 P.px.now, .slice pe0 P.px.ents.length pe1, .slice pw0 P.px.pol.win.length pw1, .slice pm0 P.px.pol.main.length pm1, .slice pk0 P.px.pol.sk.rows.length pk1, .int .i64 P.px.pol.sk.added, .slice pf0 P.px.fes.length pf1, .slice pc0 P.px.cls.length pc1, .int .i64 P.px.hits, .slice pd0 P.fl.length pd1, .slice pn0 P.cd.length pn1, .slice pb0 P.bd.length pb1] 58) = w6) := hw6
  have hB_w6 : Below wb.heap.size wb w6 := hB_w5.trans (hbw6.mono hB_w5.size)
  obtain ⟨hK_w6, hE_w6, hw_w6⟩ := HB.out w6 hB_w6
  clear hK_w5 hE_w5 hw_w5 hB_w5 hA5
  obtain ⟨b0, b1, b2, b3, b4, b5, b6, b7, b8, b9, b10, b11⟩ := hK_w6.cells
  obtain ⟨x0, x1, x2, x3, x4, x5, x6, x7, x8, x9, x10, x11⟩ := evX_w6.cells
  rw [← hw6] at b0 b1 b2 b3 b4 b5 b6 b7 b8 b9 b10 b11 x0 x1 x2 x3 x4 x5 x6 x7 x8 x9 x10 x11
  clear hw6
  have cI := CI.out w6 ⟨⟨.slice pe0 P.px.ents.length pe1, .slice pw0 P.px.pol.win.length pw1, .slice pm0 P.px.pol.main.length pm1, .slice pk0 P.px.pol.sk.rows.length pk1, .slice pf0 P.px.fes.length pf1, .slice pc0 P.px.cls.length pc1⟩, .slice pd0 P.fl.length pd1, .slice pn0 P.cd.length pn1, .slice pb0 P.bd.length pb1⟩ hA6
  go_wp2_with fail
  rw [HWw6.out] at b0 b1 b2 b3 b4 b5 b6 b7 b8 b9 b10 b11 x0 x1 x2 x3 x4 x5 x6 x7 x8 x9 x10 x11 ⊢
  refine cI.mono ?_
  rintro e w7 ⟨rfl, hbw7⟩
  clear cI b0 b1 b2 b3 b4 b5 b6 b7 b8 b9 b10 b11 x0 x1 x2 x3 x4 x5 x6 x7 x8 x9 x10 x11
  have hB_w7 : Below wb.heap.size wb w7 := hB_w6.trans (hbw7.mono hB_w6.size)
  obtain ⟨hK_w7, hE_w7, hw_w7⟩ := HB.out w7 hB_w7
  have evX_w7 := evX_w6.on hbw7
  have hA7 := hA6.on hbw7
  clear hK_w6 hE_w6 hw_w6 hB_w6 evX_w6 hA6
  obtain ⟨b0, b1, b2, b3, b4, b5, b6, b7, b8, b9, b10, b11⟩ := hK_w7.cells
  obtain ⟨x0, x1, x2, x3, x4, x5, x6, x7, x8, x9, x10, x11⟩ := evX_w7.cells
  have KS : ∀ W, Below w7.heap.size w7 W → Below w7.heap.size w7 W ∧ W.cell? ⟨w5.heap.size, 0, none⟩ = some (.int .i64 P.px.now) ∧ W.cell? ⟨w5.heap.size, 1, none⟩ = some (.slice pe0 P.px.ents.length pe1) ∧ W.cell? ⟨w5.heap.size, 2, none⟩ = some (.slice pw0 P.px.pol.win.length pw1) ∧ W.cell? ⟨w5.heap.size, 3, none⟩ = some (.slice pm0 P.px.pol.main.length pm1) ∧ W.cell? ⟨w5.heap.size, 4, none⟩ = some (.slice pk0 P.px.pol.sk.rows.length pk1) ∧ W.cell? ⟨w5.heap.size, 5, none⟩ = some (.int .i64 P.px.pol.sk.added) ∧ W.cell? ⟨w5.heap.size, 6, none⟩ = some (.slice pf0 P.px.fes.length pf1) ∧ W.cell? ⟨w5.heap.size, 7, none⟩ = some (.slice pc0 P.px.cls.length pc1) ∧ W.cell? ⟨w5.heap.size, 8, none⟩ = some (.int .i64 P.px.hits) ∧ W.cell? ⟨w5.heap.size, 9, none⟩ = some (.slice pd0 P.fl.length pd1) ∧ W.cell? ⟨w5.heap.size, 10, none⟩ = some (.slice pn0 P.cd.length pn1) ∧ W.cell? ⟨w5.heap.size, 11, none⟩ = some (.slice pb0 P.bd.length pb1) ∧ W.cell? ⟨w.heap.size, 0, none⟩ = some (.int .i64 P.px.now) ∧ W.cell? ⟨w.heap.size, 1, none⟩ = some (a.x.e) ∧ W.cell? ⟨w.heap.size, 2, none⟩ = some (a.x.w) ∧ W.cell? ⟨w.heap.size, 3, none⟩ = some (a.x.m) ∧ W.cell? ⟨w.heap.size, 4, none⟩ = some (a.x.k) ∧ W.cell? ⟨w.heap.size, 5, none⟩ = some (.int .i64 P.px.pol.sk.added) ∧ W.cell? ⟨w.heap.size, 6, none⟩ = some (a.x.f) ∧ W.cell? ⟨w.heap.size, 7, none⟩ = some (a.x.c) ∧ W.cell? ⟨w.heap.size, 8, none⟩ = some (.int .i64 P.px.hits) ∧ W.cell? ⟨w.heap.size, 9, none⟩ = some (a.d) ∧ W.cell? ⟨w.heap.size, 10, none⟩ = some (a.n) ∧ W.cell? ⟨w.heap.size, 11, none⟩ = some (a.b) := fun W h => ⟨h, (h.cell (World.block_lt_of_cell? w7 _ x0)).trans x0, (h.cell (World.block_lt_of_cell? w7 _ x1)).trans x1, (h.cell (World.block_lt_of_cell? w7 _ x2)).trans x2, (h.cell (World.block_lt_of_cell? w7 _ x3)).trans x3, (h.cell (World.block_lt_of_cell? w7 _ x4)).trans x4, (h.cell (World.block_lt_of_cell? w7 _ x5)).trans x5, (h.cell (World.block_lt_of_cell? w7 _ x6)).trans x6, (h.cell (World.block_lt_of_cell? w7 _ x7)).trans x7, (h.cell (World.block_lt_of_cell? w7 _ x8)).trans x8, (h.cell (World.block_lt_of_cell? w7 _ x9)).trans x9, (h.cell (World.block_lt_of_cell? w7 _ x10)).trans x10, (h.cell (World.block_lt_of_cell? w7 _ x11)).trans x11, (h.cell (World.block_lt_of_cell? w7 _ b0)).trans b0, (h.cell (World.block_lt_of_cell? w7 _ b1)).trans b1, (h.cell (World.block_lt_of_cell? w7 _ b2)).trans b2, (h.cell (World.block_lt_of_cell? w7 _ b3)).trans b3, (h.cell (World.block_lt_of_cell? w7 _ b4)).trans b4, (h.cell (World.block_lt_of_cell? w7 _ b5)).trans b5, (h.cell (World.block_lt_of_cell? w7 _ b6)).trans b6, (h.cell (World.block_lt_of_cell? w7 _ b7)).trans b7, (h.cell (World.block_lt_of_cell? w7 _ b8)).trans b8, (h.cell (World.block_lt_of_cell? w7 _ b9)).trans b9, (h.cell (World.block_lt_of_cell? w7 _ b10)).trans b10, (h.cell (World.block_lt_of_cell? w7 _ b11)).trans b11⟩
  have hdr : Below w7.heap.size w7 w7.drew := ⟨rfl, rfl, rfl, Nat.le_refl _, fun _ _ => rfl⟩
  have HT : Hid (∀ W, Below w7.heap.size w7 W → WAt W a P W.heap.size ∧ WAt W ⟨⟨.slice pe0 P.px.ents.length pe1, .slice pw0 P.px.pol.win.length pw1, .slice pm0 P.px.pol.main.length pm1, .slice pk0 P.px.pol.sk.rows.length pk1, .slice pf0 P.px.fes.length pf1, .slice pc0 P.px.cls.length pc1⟩, .slice pd0 P.fl.length pd1, .slice pn0 P.cd.length pn1, .slice pb0 P.bd.length pb1⟩ P W.heap.size) := fun W h => ⟨hE_w7.on h, hA7.on h⟩
  go_wp2_with fail
  go_region_held3 (fun W => Below w7.heap.size w7 W ∧ W.cell? ⟨w5.heap.size, 0, none⟩ = some (.int .i64 P.px.now) ∧ W.cell? ⟨w5.heap.size, 1, none⟩ = some (.slice pe0 P.px.ents.length pe1) ∧ W.cell? ⟨w5.heap.size, 2, none⟩ = some (.slice pw0 P.px.pol.win.length pw1) ∧ W.cell? ⟨w5.heap.size, 3, none⟩ = some (.slice pm0 P.px.pol.main.length pm1) ∧ W.cell? ⟨w5.heap.size, 4, none⟩ = some (.slice pk0 P.px.pol.sk.rows.length pk1) ∧ W.cell? ⟨w5.heap.size, 5, none⟩ = some (.int .i64 P.px.pol.sk.added) ∧ W.cell? ⟨w5.heap.size, 6, none⟩ = some (.slice pf0 P.px.fes.length pf1) ∧ W.cell? ⟨w5.heap.size, 7, none⟩ = some (.slice pc0 P.px.cls.length pc1) ∧ W.cell? ⟨w5.heap.size, 8, none⟩ = some (.int .i64 P.px.hits) ∧ W.cell? ⟨w5.heap.size, 9, none⟩ = some (.slice pd0 P.fl.length pd1) ∧ W.cell? ⟨w5.heap.size, 10, none⟩ = some (.slice pn0 P.cd.length pn1) ∧ W.cell? ⟨w5.heap.size, 11, none⟩ = some (.slice pb0 P.bd.length pb1) ∧ W.cell? ⟨w.heap.size, 0, none⟩ = some (.int .i64 P.px.now) ∧ W.cell? ⟨w.heap.size, 1, none⟩ = some (a.x.e) ∧ W.cell? ⟨w.heap.size, 2, none⟩ = some (a.x.w) ∧ W.cell? ⟨w.heap.size, 3, none⟩ = some (a.x.m) ∧ W.cell? ⟨w.heap.size, 4, none⟩ = some (a.x.k) ∧ W.cell? ⟨w.heap.size, 5, none⟩ = some (.int .i64 P.px.pol.sk.added) ∧ W.cell? ⟨w.heap.size, 6, none⟩ = some (a.x.f) ∧ W.cell? ⟨w.heap.size, 7, none⟩ = some (a.x.c) ∧ W.cell? ⟨w.heap.size, 8, none⟩ = some (.int .i64 P.px.hits) ∧ W.cell? ⟨w.heap.size, 9, none⟩ = some (a.d) ∧ W.cell? ⟨w.heap.size, 10, none⟩ = some (a.n) ∧ W.cell? ⟨w.heap.size, 11, none⟩ = some (a.b)) (first | with_reducible exact KS _ hdr | with_reducible exact KS _ hC | with_reducible exact KS _ hD)
    (first
      | (go_at_call 14; refine (toWorld_any _ a P (HT.out _ hdr).1 hsz).mono ?_; rintro e w8 ⟨Y_, he_, hA10, hb10⟩; obtain ⟨qe0, qe1, qw0, qw1, qm0, qm1, qk0, qk1, qf0, qf1, qc0, qc1, qd0, qd1, qn0, qn1, qb0, qb1, rfl⟩ := hA10.slices; dsimp only at he_; subst he_; have hC : Below w7.heap.size w7 w8 := hdr.trans (hb10.mono hdr.size))
      | (go_at_call 16; refine (eqWorld_same _ ⟨⟨.slice pe0 P.px.ents.length pe1, .slice pw0 P.px.pol.win.length pw1, .slice pm0 P.px.pol.main.length pm1, .slice pk0 P.px.pol.sk.rows.length pk1, .slice pf0 P.px.fes.length pf1, .slice pc0 P.px.cls.length pc1⟩, .slice pd0 P.fl.length pd1, .slice pn0 P.cd.length pn1, .slice pb0 P.bd.length pb1⟩ ⟨⟨.slice qe0 P.px.ents.length qe1, .slice qw0 P.px.pol.win.length qw1, .slice qm0 P.px.pol.main.length qm1, .slice qk0 P.px.pol.sk.rows.length qk1, .slice qf0 P.px.fes.length qf1, .slice qc0 P.px.cls.length qc1⟩, .slice qd0 P.fl.length qd1, .slice qn0 P.cd.length qn1, .slice qb0 P.bd.length qb1⟩ P (HT.out _ hC).2 hA10 hsz).mono ?_; rintro e w9 ⟨rfl, hb11⟩; have hD : Below w7.heap.size w7 w9 := hC.trans (hb11.mono hC.size)))
  clear KS HT hdr hA10 hb10 hb11 hC
  go_wp2_with fail
  go_ret
  exact ⟨rfl, hw_w7.trans (hD.mono hw_w7.size)⟩
end Go.Proofs.Ytpgcfgbhkodmeaa
