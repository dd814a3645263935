/- The law on ProxyOk, walked. Written by mkxlaw.py. -/
import Derived.Test.YtpgcfgbhkodmeaaPrxMark
import Derived.Test.YtpgcfgbhkodmeaaPxOkSpec
import Derived.Test.YtpgcfgbhkodmeaaPxOkImpl
import Derived.Deep.RegionHeld3
namespace Go.Proofs.Ytpgcfgbhkodmeaa
open Go.RowKit Go.Sort
set_option maxRecDepth 100000 in
set_option maxHeartbeats 8000000 in
theorem proxyOk_walk (a : Pc) (P : Prx) (w : World) (hE : PxAt w a P w.heap.size) (hm : PxM P) :
    Calls Try.prog 6 #[.agg #[.int .i64 P.now, a.e, a.w, a.m, a.k, .int .i64 P.pol.sk.added, a.f, a.c, .int .i64 P.hits]] w fun e w' => e = .returned (.bool true) ∧ Below w.heap.size w w' := by
  obtain ⟨wb, hwb⟩ : ∃ wb, w.alloc (.cells #[.int .i64 P.now, a.e, a.w, a.m, a.k, .int .i64 P.pol.sk.added, a.f, a.c, .int .i64 P.hits] 32) = wb := ⟨_, rfl⟩
  have hb : Below w.heap.size w wb := by rw [← hwb]; exact (Below.refl _ _).alloc (Nat.le_refl _) _
  have hbs : w.heap.size < wb.heap.size := by rw [← hwb]; simp
  have hK_wb : NB wb w.heap.size 32 (.int .i64 P.now) a.e a.w a.m a.k (.int .i64 P.pol.sk.added) a.f a.c (.int .i64 P.hits) := by rw [← hwb]; exact NB.new _ _ _ _ _ _ _ _ _ _ _
  have hE_wb : PxAt wb a P wb.heap.size := hE.on hb
  have hw_wb : Below w.heap.size w wb := hb
  have hB_wb : Below wb.heap.size wb wb := Below.refl _ _
  have HB : Hid (∀ wi, Below wb.heap.size wb wi → NB wi w.heap.size 32 (.int .i64 P.now) a.e a.w a.m a.k (.int .i64 P.pol.sk.added) a.f a.c (.int .i64 P.hits) ∧ PxAt wi a P wi.heap.size ∧ Below w.heap.size w wi) := fun wi hi => ⟨hK_wb.on hi, hE_wb.on hi, hb.trans (hi.mono hb.size)⟩
  have c0 := szProxy_any wb a P hE_wb hm
  have HW : Hid (w.alloc (.cells #[.int .i64 P.now, a.e, a.w, a.m, a.k, .int .i64 P.pol.sk.added, a.f, a.c, .int .i64 P.hits] 32) = wb) := hwb
  obtain ⟨b0, b1, b2, b3, b4, b5, b6, b7, b8⟩ := hK_wb.cells
  rw [← hwb] at b0 b1 b2 b3 b4 b5 b6 b7 b8
  clear hwb hE hb
  go_enter Try.func6, Try.ntmps6
  go_wp2_with fail
  rw [HW.out] at b0 b1 b2 b3 b4 b5 b6 b7 b8 ⊢
  refine c0.mono ?_
  rintro e w1 ⟨r, rfl, hr, hb1⟩
  clear c0 b0 b1 b2 b3 b4 b5 b6 b7 b8
  have hB_w1 : Below wb.heap.size wb w1 := hB_wb.trans (hb1.mono hB_wb.size)
  obtain ⟨hK_w1, hE_w1, hw_w1⟩ := HB.out w1 hB_w1
  clear hK_wb hE_wb hw_wb hB_wb 
  rcases hr with rfl | ⟨hr0, hsz⟩
  · go_wp2_with fail
    go_ret
    exact ⟨rfl, hw_w1⟩
  have hr2 : ¬ r < 0 := by omega
  clear hr0 hm
  obtain ⟨R, hR⟩ : ∃ R, okX P = R := ⟨_, rfl⟩
  have hbb : (R != R) = false := by simp
  have CS : Hid (∀ (wi : World) (a1 : Pc), PxAt wi a1 P wi.heap.size → Calls Try.prog 19 #[.agg #[.int .i64 P.now, a1.e, a1.w, a1.m, a1.k, .int .i64 P.pol.sk.added, a1.f, a1.c, .int .i64 P.hits]] wi fun e w' => e = .returned (.bool R) ∧ Below wi.heap.size wi w') := by intro wi a1 h; rw [← hR]; exact specProxyOk_any wi a1 P h hsz
  have CI : Hid (∀ (wi : World) (a1 : Pc), PxAt wi a1 P wi.heap.size → RoomF a1.f P.fes.length → Calls Try.prog 20 #[.agg #[.int .i64 P.now, a1.e, a1.w, a1.m, a1.k, .int .i64 P.pol.sk.added, a1.f, a1.c, .int .i64 P.hits]] wi fun e w' => e = .returned (.bool R) ∧ Below wi.heap.size wi w') := by intro wi a1 h hrm; rw [← hR]; exact implProxyOk_any wi a1 P h hsz hrm
  clear hR
  obtain ⟨b0, b1, b2, b3, b4, b5, b6, b7, b8⟩ := hK_w1.cells
  go_wp2_with fail
  refine (toProxy_any w1 a P hE_w1 hsz).mono ?_
  rintro e w2 ⟨Y_, he_, how2, hbw2⟩
  obtain ⟨aw2e0, aw2e1, aw2w0, aw2w1, aw2m0, aw2m1, aw2k0, aw2k1, aw2f0, aw2f1, aw2c0, aw2c1, rfl⟩ := how2.slices
  dsimp only at he_
  subst he_
  have hAw2 := how2.at
  clear b0 b1 b2 b3 b4 b5 b6 b7 b8 
  have hB_w2 : Below wb.heap.size wb w2 := hB_w1.trans (hbw2.mono hB_w1.size)
  obtain ⟨hK_w2, hE_w2, hw_w2⟩ := HB.out w2 hB_w2
  clear hK_w1 hE_w1 hw_w1 hB_w1 
  have cS := CS.out w2 ⟨.slice aw2e0 P.ents.length aw2e1, .slice aw2w0 P.pol.win.length aw2w1, .slice aw2m0 P.pol.main.length aw2m1, .slice aw2k0 P.pol.sk.rows.length aw2k1, .slice aw2f0 P.fes.length aw2f1, .slice aw2c0 P.cls.length aw2c1⟩ hAw2
  go_wp2_with fail
  refine cS.mono ?_
  rintro e w3 ⟨rfl, hbw3⟩
  clear cS how2 hAw2
  have hB_w3 : Below wb.heap.size wb w3 := hB_w2.trans (hbw3.mono hB_w2.size)
  obtain ⟨hK_w3, hE_w3, hw_w3⟩ := HB.out w3 hB_w3
  clear hK_w2 hE_w2 hw_w2 hB_w2 
  obtain ⟨b0, b1, b2, b3, b4, b5, b6, b7, b8⟩ := hK_w3.cells
  go_wp2_with fail
  refine (toProxy_any w3 a P hE_w3 hsz).mono ?_
  rintro e w5 ⟨Y_, he_, how5, hbw5⟩
  obtain ⟨aw5e0, aw5e1, aw5w0, aw5w1, aw5m0, aw5m1, aw5k0, aw5k1, aw5f0, aw5f1, aw5c0, aw5c1, rfl⟩ := how5.slices
  dsimp only at he_
  subst he_
  have hAw5 := how5.at
  have HRM : Hid (RoomF (.slice aw5f0 P.fes.length aw5f1) P.fes.length) := how5.roomF
  clear b0 b1 b2 b3 b4 b5 b6 b7 b8 
  have hB_w5 : Below wb.heap.size wb w5 := hB_w3.trans (hbw5.mono hB_w3.size)
  obtain ⟨hK_w5, hE_w5, hw_w5⟩ := HB.out w5 hB_w5
  clear hK_w3 hE_w3 hw_w3 hB_w3 
  obtain ⟨w6, hw6⟩ : ∃ x, w5.alloc (.cells #[.int .i64 P.now, .slice aw5e0 P.ents.length aw5e1, .slice aw5w0 P.pol.win.length aw5w1, .slice aw5m0 P.pol.main.length aw5m1, .slice aw5k0 P.pol.sk.rows.length aw5k1, .int .i64 P.pol.sk.added, .slice aw5f0 P.fes.length aw5f1, .slice aw5c0 P.cls.length aw5c1, .int .i64 P.hits] 42) = x := ⟨_, rfl⟩
  have hbw6 : Below w5.heap.size w5 w6 := by rw [← hw6]; exact (Below.refl _ _).alloc (Nat.le_refl _) _
  have evX_w6 : PXV w6 w3.heap.size w5.heap.size ⟨.slice aw5e0 P.ents.length aw5e1, .slice aw5w0 P.pol.win.length aw5w1, .slice aw5m0 P.pol.main.length aw5m1, .slice aw5k0 P.pol.sk.rows.length aw5k1, .slice aw5f0 P.fes.length aw5f1, .slice aw5c0 P.cls.length aw5c1⟩ P := by rw [← hw6]; exact PXV.new how5 hbw5.size
  have sw6 : w6.heap.size = w5.heap.size + 1 := by rw [← hw6]; simp
  have HWw6 : Hid (w5.alloc (.cells #[.int .i64 P.now, .slice aw5e0 P.ents.length aw5e1, .slice aw5w0 P.pol.win.length aw5w1, .slice aw5m0 P.pol.main.length aw5m1, .slice aw5k0 P.pol.sk.rows.length aw5k1, .int .i64 P.pol.sk.added, .slice aw5f0 P.fes.length aw5f1, .slice aw5c0 P.cls.length aw5c1, .int .i64 P.hits] 42) = w6) := hw6
  have hB_w6 : Below wb.heap.size wb w6 := hB_w5.trans (hbw6.mono hB_w5.size)
  obtain ⟨hK_w6, hE_w6, hw_w6⟩ := HB.out w6 hB_w6
  clear hK_w5 hE_w5 hw_w5 hB_w5 
  obtain ⟨b0, b1, b2, b3, b4, b5, b6, b7, b8⟩ := hK_w6.cells
  obtain ⟨x0, x1, x2, x3, x4, x5, x6, x7, x8⟩ := evX_w6.box.cells
  rw [← hw6] at b0 b1 b2 b3 b4 b5 b6 b7 b8 x0 x1 x2 x3 x4 x5 x6 x7 x8
  clear hw6
  have cI := CI.out w6 ⟨.slice aw5e0 P.ents.length aw5e1, .slice aw5w0 P.pol.win.length aw5w1, .slice aw5m0 P.pol.main.length aw5m1, .slice aw5k0 P.pol.sk.rows.length aw5k1, .slice aw5f0 P.fes.length aw5f1, .slice aw5c0 P.cls.length aw5c1⟩ evX_w6.at HRM.out
  go_wp2_with fail
  rw [HWw6.out] at b0 b1 b2 b3 b4 b5 b6 b7 b8 x0 x1 x2 x3 x4 x5 x6 x7 x8 ⊢
  refine cI.mono ?_
  rintro e w7 ⟨rfl, hbw7⟩
  clear cI
  clear b0 b1 b2 b3 b4 b5 b6 b7 b8 x0 x1 x2 x3 x4 x5 x6 x7 x8
  have hB_w7 : Below wb.heap.size wb w7 := hB_w6.trans (hbw7.mono hB_w6.size)
  obtain ⟨hK_w7, hE_w7, hw_w7⟩ := HB.out w7 hB_w7
  have evX_w7 := evX_w6.on hbw7
  clear hK_w6 hE_w6 hw_w6 hB_w6 evX_w6
  clear how5 hAw5 sw6
  obtain ⟨b0, b1, b2, b3, b4, b5, b6, b7, b8⟩ := hK_w7.cells
  obtain ⟨x0, x1, x2, x3, x4, x5, x6, x7, x8⟩ := evX_w7.box.cells
  have KS : ∀ W, Below w7.heap.size w7 W → Below w7.heap.size w7 W ∧ W.cell? ⟨w5.heap.size, 0, none⟩ = some (.int .i64 P.now) ∧ W.cell? ⟨w5.heap.size, 1, none⟩ = some (.slice aw5e0 P.ents.length aw5e1) ∧ W.cell? ⟨w5.heap.size, 2, none⟩ = some (.slice aw5w0 P.pol.win.length aw5w1) ∧ W.cell? ⟨w5.heap.size, 3, none⟩ = some (.slice aw5m0 P.pol.main.length aw5m1) ∧ W.cell? ⟨w5.heap.size, 4, none⟩ = some (.slice aw5k0 P.pol.sk.rows.length aw5k1) ∧ W.cell? ⟨w5.heap.size, 5, none⟩ = some (.int .i64 P.pol.sk.added) ∧ W.cell? ⟨w5.heap.size, 6, none⟩ = some (.slice aw5f0 P.fes.length aw5f1) ∧ W.cell? ⟨w5.heap.size, 7, none⟩ = some (.slice aw5c0 P.cls.length aw5c1) ∧ W.cell? ⟨w5.heap.size, 8, none⟩ = some (.int .i64 P.hits) ∧ W.cell? ⟨w.heap.size, 0, none⟩ = some (.int .i64 P.now) ∧ W.cell? ⟨w.heap.size, 1, none⟩ = some a.e ∧ W.cell? ⟨w.heap.size, 2, none⟩ = some a.w ∧ W.cell? ⟨w.heap.size, 3, none⟩ = some a.m ∧ W.cell? ⟨w.heap.size, 4, none⟩ = some a.k ∧ W.cell? ⟨w.heap.size, 5, none⟩ = some (.int .i64 P.pol.sk.added) ∧ W.cell? ⟨w.heap.size, 6, none⟩ = some a.f ∧ W.cell? ⟨w.heap.size, 7, none⟩ = some a.c ∧ W.cell? ⟨w.heap.size, 8, none⟩ = some (.int .i64 P.hits) := fun W h => ⟨h, (h.cell (World.block_lt_of_cell? w7 _ x0)).trans x0, (h.cell (World.block_lt_of_cell? w7 _ x1)).trans x1, (h.cell (World.block_lt_of_cell? w7 _ x2)).trans x2, (h.cell (World.block_lt_of_cell? w7 _ x3)).trans x3, (h.cell (World.block_lt_of_cell? w7 _ x4)).trans x4, (h.cell (World.block_lt_of_cell? w7 _ x5)).trans x5, (h.cell (World.block_lt_of_cell? w7 _ x6)).trans x6, (h.cell (World.block_lt_of_cell? w7 _ x7)).trans x7, (h.cell (World.block_lt_of_cell? w7 _ x8)).trans x8, (h.cell (World.block_lt_of_cell? w7 _ b0)).trans b0, (h.cell (World.block_lt_of_cell? w7 _ b1)).trans b1, (h.cell (World.block_lt_of_cell? w7 _ b2)).trans b2, (h.cell (World.block_lt_of_cell? w7 _ b3)).trans b3, (h.cell (World.block_lt_of_cell? w7 _ b4)).trans b4, (h.cell (World.block_lt_of_cell? w7 _ b5)).trans b5, (h.cell (World.block_lt_of_cell? w7 _ b6)).trans b6, (h.cell (World.block_lt_of_cell? w7 _ b7)).trans b7, (h.cell (World.block_lt_of_cell? w7 _ b8)).trans b8⟩
  have hdr : Below w7.heap.size w7 w7.drew := ⟨rfl, rfl, rfl, Nat.le_refl _, fun _ _ => rfl⟩
  have HT : Hid (∀ W, Below w7.heap.size w7 W → PxAt W a P W.heap.size ∧ PxAt W ⟨.slice aw5e0 P.ents.length aw5e1, .slice aw5w0 P.pol.win.length aw5w1, .slice aw5m0 P.pol.main.length aw5m1, .slice aw5k0 P.pol.sk.rows.length aw5k1, .slice aw5f0 P.fes.length aw5f1, .slice aw5c0 P.cls.length aw5c1⟩ P W.heap.size) := fun W h => ⟨hE_w7.on h, evX_w7.at.on h⟩
  go_wp2_with fail
  go_region_held3 (fun W => Below w7.heap.size w7 W ∧ W.cell? ⟨w5.heap.size, 0, none⟩ = some (.int .i64 P.now) ∧ W.cell? ⟨w5.heap.size, 1, none⟩ = some (.slice aw5e0 P.ents.length aw5e1) ∧ W.cell? ⟨w5.heap.size, 2, none⟩ = some (.slice aw5w0 P.pol.win.length aw5w1) ∧ W.cell? ⟨w5.heap.size, 3, none⟩ = some (.slice aw5m0 P.pol.main.length aw5m1) ∧ W.cell? ⟨w5.heap.size, 4, none⟩ = some (.slice aw5k0 P.pol.sk.rows.length aw5k1) ∧ W.cell? ⟨w5.heap.size, 5, none⟩ = some (.int .i64 P.pol.sk.added) ∧ W.cell? ⟨w5.heap.size, 6, none⟩ = some (.slice aw5f0 P.fes.length aw5f1) ∧ W.cell? ⟨w5.heap.size, 7, none⟩ = some (.slice aw5c0 P.cls.length aw5c1) ∧ W.cell? ⟨w5.heap.size, 8, none⟩ = some (.int .i64 P.hits) ∧ W.cell? ⟨w.heap.size, 0, none⟩ = some (.int .i64 P.now) ∧ W.cell? ⟨w.heap.size, 1, none⟩ = some a.e ∧ W.cell? ⟨w.heap.size, 2, none⟩ = some a.w ∧ W.cell? ⟨w.heap.size, 3, none⟩ = some a.m ∧ W.cell? ⟨w.heap.size, 4, none⟩ = some a.k ∧ W.cell? ⟨w.heap.size, 5, none⟩ = some (.int .i64 P.pol.sk.added) ∧ W.cell? ⟨w.heap.size, 6, none⟩ = some a.f ∧ W.cell? ⟨w.heap.size, 7, none⟩ = some a.c ∧ W.cell? ⟨w.heap.size, 8, none⟩ = some (.int .i64 P.hits)) (first | with_reducible exact KS _ hdr | with_reducible exact KS _ hC | with_reducible exact KS _ hD)
    (first
      | (go_at_call 9; refine (toProxy_any _ a P (HT.out _ hdr).1 hsz).mono ?_; rintro e w8 ⟨Y_, he_, ho10, hb10⟩; obtain ⟨a10e0, a10e1, a10w0, a10w1, a10m0, a10m1, a10k0, a10k1, a10f0, a10f1, a10c0, a10c1, rfl⟩ := ho10.slices; dsimp only at he_; subst he_; have hA10 := ho10.at; have hC : Below w7.heap.size w7 w8 := hdr.trans (hb10.mono hdr.size))
      | (go_at_call 11; refine (eqProxy_same _ ⟨.slice aw5e0 P.ents.length aw5e1, .slice aw5w0 P.pol.win.length aw5w1, .slice aw5m0 P.pol.main.length aw5m1, .slice aw5k0 P.pol.sk.rows.length aw5k1, .slice aw5f0 P.fes.length aw5f1, .slice aw5c0 P.cls.length aw5c1⟩ ⟨.slice a10e0 P.ents.length a10e1, .slice a10w0 P.pol.win.length a10w1, .slice a10m0 P.pol.main.length a10m1, .slice a10k0 P.pol.sk.rows.length a10k1, .slice a10f0 P.fes.length a10f1, .slice a10c0 P.cls.length a10c1⟩ P (HT.out _ hC).2 hA10 hsz).mono ?_; rintro e w9 ⟨rfl, hb11⟩; have hD : Below w7.heap.size w7 w9 := hC.trans (hb11.mono hC.size)))
  clear KS HT hdr ho10 hA10 hb10 hb11 hC
  go_wp2_with fail
  go_ret
  exact ⟨rfl, hw_w7.trans (hD.mono hw_w7.size)⟩
end Go.Proofs.Ytpgcfgbhkodmeaa
