/- The law on PolicyOk, walked. Written by mkplaw.py. -/
import Derived.Test.YtbcjkinalghokatPolVar
import Derived.Test.YtbcjkinalghokatPolOkSz
import Derived.Test.YtbcjkinalghokatPolOkImpl
import Derived.Deep.RegionHeld3
namespace Go.Proofs.Ytbcjkinalghokat
open Go.RowKit Go.Sort
set_option maxRecDepth 100000 in
set_option maxHeartbeats 8000000 in
theorem policyOk_walk (aw am ak : Option Addr) (cw cm ck : Nat) (P : Pol) (w : World) (hE : PolAt w aw am ak P w.heap.size) (hm : P.win.length ≤ maxLen ∧ P.main.length ≤ maxLen ∧ (∀ j (hj : j < P.win.length), P.win[j].size ≤ maxLen) ∧ (∀ j (hj : j < P.main.length), P.main[j].size ≤ maxLen) ∧ P.sk.rows.length ≤ maxLen ∧ ∀ j (hj : j < P.sk.rows.length), P.sk.rows[j].length ≤ maxLen) :
    Calls Try.prog 4 #[.agg #[.slice aw P.win.length cw, .slice am P.main.length cm, .slice ak P.sk.rows.length ck, .int .i64 P.sk.added]] w fun e w' => e = .returned (.bool true) ∧ Below w.heap.size w w' := by
  obtain ⟨wb, hwb⟩ : ∃ wb, w.alloc (.cells #[.slice aw P.win.length cw, .slice am P.main.length cm, .slice ak P.sk.rows.length ck, .int .i64 P.sk.added] 34) = wb := ⟨_, rfl⟩
  have hb : Below w.heap.size w wb := by rw [← hwb]; exact (Below.refl _ _).alloc (Nat.le_refl _) _
  have hbs : w.heap.size < wb.heap.size := by rw [← hwb]; simp
  have hK_wb : QBox wb w.heap.size (.slice aw P.win.length cw) (.slice am P.main.length cm) (.slice ak P.sk.rows.length ck) (.int .i64 P.sk.added) := by rw [← hwb]; exact QBox.new _ _ _ _ _
  have hE_wb : PolAt wb aw am ak P wb.heap.size := hE.on hb
  have hw_wb : Below w.heap.size w wb := hb
  have hB_wb : Below wb.heap.size wb wb := Below.refl _ _
  have HB : Hid (∀ wi, Below wb.heap.size wb wi → QBox wi w.heap.size (.slice aw P.win.length cw) (.slice am P.main.length cm) (.slice ak P.sk.rows.length ck) (.int .i64 P.sk.added) ∧ PolAt wi aw am ak P wi.heap.size ∧ Below w.heap.size w wi) := fun wi hi => ⟨hK_wb.on hi, hE_wb.on hi, hb.trans (hi.mono hb.size)⟩
  have c0 := szPolicy_any wb aw am ak cw cm ck P hE_wb hm.1 hm.2.1 hm.2.2.1 hm.2.2.2.1 hm.2.2.2.2.1 hm.2.2.2.2.2
  have HW : Hid (w.alloc (.cells #[.slice aw P.win.length cw, .slice am P.main.length cm, .slice ak P.sk.rows.length ck, .int .i64 P.sk.added] 34) = wb) := hwb
  obtain ⟨b0, b1, b2, b3⟩ := hK_wb.cells
  rw [← hwb] at b0 b1 b2 b3
  clear hwb hE hb
  go_enter Try.func4, Try.ntmps4
  go_wp2_with fail
  rw [HW.out] at b0 b1 b2 b3 ⊢
  refine c0.mono ?_
  rintro e w1 ⟨r, rfl, hr, hb1⟩
  clear c0 b0 b1 b2 b3
  have hB_w1 : Below wb.heap.size wb w1 := hB_wb.trans (hb1.mono hB_wb.size)
  obtain ⟨hK_w1, hE_w1, hw_w1⟩ := HB.out w1 hB_w1
  clear hK_wb hE_wb hw_wb hB_wb 
  rcases hr with rfl | ⟨hr0, hsz⟩
  · go_wp2_with fail
    go_ret
    exact ⟨rfl, hw_w1⟩
  have hr2 : ¬ r < 0 := by omega
  clear hr0 hm
  obtain ⟨R, hR⟩ : ∃ R, okP P = R := ⟨_, rfl⟩
  have hbb : (R != R) = false := by simp
  have CS : Hid (∀ (wi : World) (a1w a1m a1k : Option Addr) (k1w k1m k1k : Nat), PolAt wi a1w a1m a1k P wi.heap.size → Calls Try.prog 13 #[.agg #[.slice a1w P.win.length k1w, .slice a1m P.main.length k1m, .slice a1k P.sk.rows.length k1k, .int .i64 P.sk.added]] wi fun e w' => e = .returned (.bool R) ∧ Below wi.heap.size wi w') := by intro wi a1w a1m a1k k1w k1m k1k h; rw [← hR]; exact specPolicyOk_sz wi a1w a1m a1k k1w k1m k1k P h hsz
  have CI : Hid (∀ (wi : World) (a1w a1m a1k : Option Addr) (k1w k1m k1k : Nat), PolAt wi a1w a1m a1k P wi.heap.size → Calls Try.prog 15 #[.agg #[.slice a1w P.win.length k1w, .slice a1m P.main.length k1m, .slice a1k P.sk.rows.length k1k, .int .i64 P.sk.added]] wi fun e w' => e = .returned (.bool R) ∧ Below wi.heap.size wi w') := by intro wi a1w a1m a1k k1w k1m k1k h; rw [← hR]; exact implPolicyOk_sz wi a1w a1m a1k k1w k1m k1k P h hsz
  clear hR
  obtain ⟨b0, b1, b2, b3⟩ := hK_w1.cells
  go_wp2_with fail
  refine (toPolicy_any w1 aw am ak cw cm ck P hE_w1 hsz).mono ?_
  rintro e w2 ⟨vw2, rfl, how2, hbw2⟩
  obtain ⟨aw2w, kw2w, aw2m, kw2m, aw2k, kw2k, rfl, hAw2⟩ := how2.at
  clear b0 b1 b2 b3 
  have hB_w2 : Below wb.heap.size wb w2 := hB_w1.trans (hbw2.mono hB_w1.size)
  obtain ⟨hK_w2, hE_w2, hw_w2⟩ := HB.out w2 hB_w2
  clear hK_w1 hE_w1 hw_w1 hB_w1 
  have cS := CS.out w2 aw2w aw2m aw2k kw2w kw2m kw2k hAw2
  go_wp2_with fail
  refine cS.mono ?_
  rintro e w3 ⟨rfl, hbw3⟩
  clear cS how2 hAw2
  have hB_w3 : Below wb.heap.size wb w3 := hB_w2.trans (hbw3.mono hB_w2.size)
  obtain ⟨hK_w3, hE_w3, hw_w3⟩ := HB.out w3 hB_w3
  clear hK_w2 hE_w2 hw_w2 hB_w2 
  obtain ⟨b0, b1, b2, b3⟩ := hK_w3.cells
  go_wp2_with fail
  refine (toPolicy_any w3 aw am ak cw cm ck P hE_w3 hsz).mono ?_
  rintro e w5 ⟨vw5, rfl, how5, hbw5⟩
  obtain ⟨aw5w, kw5w, aw5m, kw5m, aw5k, kw5k, rfl, hAw5⟩ := how5.at
  clear b0 b1 b2 b3 
  have hB_w5 : Below wb.heap.size wb w5 := hB_w3.trans (hbw5.mono hB_w3.size)
  obtain ⟨hK_w5, hE_w5, hw_w5⟩ := HB.out w5 hB_w5
  clear hK_w3 hE_w3 hw_w3 hB_w3 
  obtain ⟨w6, hw6⟩ : ∃ x, w5.alloc (.cells #[.slice aw5w P.win.length kw5w, .slice aw5m P.main.length kw5m, .slice aw5k P.sk.rows.length kw5k, .int .i64 P.sk.added] 27) = x := ⟨_, rfl⟩
  have hbw6 : Below w5.heap.size w5 w6 := by rw [← hw6]; exact (Below.refl _ _).alloc (Nat.le_refl _) _
  have evX_w6 : PV w6 w3.heap.size w5.heap.size aw5w aw5m aw5k kw5w kw5m kw5k P := by rw [← hw6]; exact PV.new how5 hbw5.size
  have sw6 : w6.heap.size = w5.heap.size + 1 := by rw [← hw6]; simp
  have HWw6 : Hid (w5.alloc (.cells #[.slice aw5w P.win.length kw5w, .slice aw5m P.main.length kw5m, .slice aw5k P.sk.rows.length kw5k, .int .i64 P.sk.added] 27) = w6) := hw6
  have hB_w6 : Below wb.heap.size wb w6 := hB_w5.trans (hbw6.mono hB_w5.size)
  obtain ⟨hK_w6, hE_w6, hw_w6⟩ := HB.out w6 hB_w6
  clear hK_w5 hE_w5 hw_w5 hB_w5 
  obtain ⟨b0, b1, b2, b3⟩ := hK_w6.cells
  obtain ⟨x0, x1, x2, x3⟩ := evX_w6.box.cells
  rw [← hw6] at b0 b1 b2 b3 x0 x1 x2 x3
  clear hw6
  have cI := CI.out w6 aw5w aw5m aw5k kw5w kw5m kw5k evX_w6.at
  go_wp2_with fail
  rw [HWw6.out] at b0 b1 b2 b3 x0 x1 x2 x3 ⊢
  refine cI.mono ?_
  rintro e w7 ⟨rfl, hbw7⟩
  clear cI
  clear b0 b1 b2 b3 x0 x1 x2 x3
  have hB_w7 : Below wb.heap.size wb w7 := hB_w6.trans (hbw7.mono hB_w6.size)
  obtain ⟨hK_w7, hE_w7, hw_w7⟩ := HB.out w7 hB_w7
  have evX_w7 := evX_w6.on hbw7
  clear hK_w6 hE_w6 hw_w6 hB_w6 evX_w6
  clear how5 hAw5 sw6
  obtain ⟨b0, b1, b2, b3⟩ := hK_w7.cells
  obtain ⟨x0, x1, x2, x3⟩ := evX_w7.box.cells
  have KS : ∀ W, Below w7.heap.size w7 W → Below w7.heap.size w7 W ∧ W.cell? ⟨w5.heap.size, 0, none⟩ = some (.slice aw5w P.win.length kw5w) ∧ W.cell? ⟨w5.heap.size, 1, none⟩ = some (.slice aw5m P.main.length kw5m) ∧ W.cell? ⟨w5.heap.size, 2, none⟩ = some (.slice aw5k P.sk.rows.length kw5k) ∧ W.cell? ⟨w5.heap.size, 3, none⟩ = some (.int .i64 P.sk.added) ∧ W.cell? ⟨w.heap.size, 0, none⟩ = some (.slice aw P.win.length cw) ∧ W.cell? ⟨w.heap.size, 1, none⟩ = some (.slice am P.main.length cm) ∧ W.cell? ⟨w.heap.size, 2, none⟩ = some (.slice ak P.sk.rows.length ck) ∧ W.cell? ⟨w.heap.size, 3, none⟩ = some (.int .i64 P.sk.added) := fun W h => ⟨h, (h.cell (World.block_lt_of_cell? w7 _ x0)).trans x0, (h.cell (World.block_lt_of_cell? w7 _ x1)).trans x1, (h.cell (World.block_lt_of_cell? w7 _ x2)).trans x2, (h.cell (World.block_lt_of_cell? w7 _ x3)).trans x3, (h.cell (World.block_lt_of_cell? w7 _ b0)).trans b0, (h.cell (World.block_lt_of_cell? w7 _ b1)).trans b1, (h.cell (World.block_lt_of_cell? w7 _ b2)).trans b2, (h.cell (World.block_lt_of_cell? w7 _ b3)).trans b3⟩
  have hdr : Below w7.heap.size w7 w7.drew := ⟨rfl, rfl, rfl, Nat.le_refl _, fun _ _ => rfl⟩
  have HT : Hid (∀ W, Below w7.heap.size w7 W → PolAt W aw am ak P W.heap.size ∧ PolAt W aw5w aw5m aw5k P W.heap.size) := fun W h => ⟨hE_w7.on h, evX_w7.at.on h⟩
  go_wp2_with fail
  go_region_held3 (fun W => Below w7.heap.size w7 W ∧ W.cell? ⟨w5.heap.size, 0, none⟩ = some (.slice aw5w P.win.length kw5w) ∧ W.cell? ⟨w5.heap.size, 1, none⟩ = some (.slice aw5m P.main.length kw5m) ∧ W.cell? ⟨w5.heap.size, 2, none⟩ = some (.slice aw5k P.sk.rows.length kw5k) ∧ W.cell? ⟨w5.heap.size, 3, none⟩ = some (.int .i64 P.sk.added) ∧ W.cell? ⟨w.heap.size, 0, none⟩ = some (.slice aw P.win.length cw) ∧ W.cell? ⟨w.heap.size, 1, none⟩ = some (.slice am P.main.length cm) ∧ W.cell? ⟨w.heap.size, 2, none⟩ = some (.slice ak P.sk.rows.length ck) ∧ W.cell? ⟨w.heap.size, 3, none⟩ = some (.int .i64 P.sk.added)) (first | with_reducible exact KS _ hdr | with_reducible exact KS _ hC | with_reducible exact KS _ hD)
    (first
      | (go_at_call 14; refine (toPolicy_any _ aw am ak cw cm ck P (HT.out _ hdr).1 hsz).mono ?_; rintro e w8 ⟨v10, rfl, ho10, hb10⟩; obtain ⟨a10w, k10w, a10m, k10m, a10k, k10k, rfl, hA10⟩ := ho10.at; have hC : Below w7.heap.size w7 w8 := hdr.trans (hb10.mono hdr.size))
      | (go_at_call 9; refine (eqPolicy_same _ aw5w aw5m aw5k a10w a10m a10k kw5w kw5m kw5k k10w k10m k10k P (HT.out _ hC).2 hA10 hsz).mono ?_; rintro e w9 ⟨rfl, hb11⟩; have hD : Below w7.heap.size w7 w9 := hC.trans (hb11.mono hC.size)))
  clear KS HT hdr ho10 hA10 hb10 hb11 hC
  go_wp2_with fail
  go_ret
  exact ⟨rfl, hw_w7.trans (hD.mono hw_w7.size)⟩
end Go.Proofs.Ytbcjkinalghokat
