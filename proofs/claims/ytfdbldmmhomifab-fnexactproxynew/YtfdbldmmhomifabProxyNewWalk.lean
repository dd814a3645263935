/- The law on ProxyNew, walked. Written by mkxlaw.py. -/
import Derived.Test.YtfdbldmmhomifabPrxMark
import Derived.Test.YtfdbldmmhomifabPrxNew
import Derived.Deep.RegionHeld3
namespace Go.Proofs.Ytfdbldmmhomifab
open Go.RowKit Go.Sort
set_option maxRecDepth 100000 in
set_option maxHeartbeats 8000000 in
theorem proxyNew_walk (w : World) :
    Calls Try.prog 3 #[] w fun e w' => e = .returned (.bool true) ∧ Below w.heap.size w w' := by
  obtain ⟨RES, hRES⟩ : ∃ R, newR = R := ⟨_, rfl⟩
  have hRl : PxSz RES := by rw [← hRES]; exact newR_sz
  have CS : Hid (∀ wi : World, Calls Try.prog 5 #[] wi fun e w' => ∃ Y : Pc, e = .returned (.agg #[.int .i64 RES.now, Y.e, Y.w, Y.m, Y.k, .int .i64 RES.pol.sk.added, Y.f, Y.c, .int .i64 RES.hits]) ∧ PxOwn w' wi.heap.size w'.heap.size Y RES ∧ Below wi.heap.size wi w') := by intro wi; rw [← hRES]; exact specProxyNew_any wi
  have CI : Hid (∀ wi : World, Calls Try.prog 6 #[] wi fun e w' => ∃ Y : Pc, e = .returned (.agg #[.int .i64 RES.now, Y.e, Y.w, Y.m, Y.k, .int .i64 RES.pol.sk.added, Y.f, Y.c, .int .i64 RES.hits]) ∧ PxOwn w' wi.heap.size w'.heap.size Y RES ∧ Below wi.heap.size wi w') := by intro wi; rw [← hRES]; exact implProxyNew_any wi
  clear hRES
  have hB_w : Below w.heap.size w w := Below.refl _ _
  go_enter Try.func3, Try.ntmps3
  have c0 := CS.out w
  go_wp2_with fail
  refine c0.mono ?_
  rintro e w1 ⟨Y_, he_, how1, hbw1⟩
  obtain ⟨aw1e0, aw1e1, aw1w0, aw1w1, aw1m0, aw1m1, aw1k0, aw1k1, aw1f0, aw1f1, aw1c0, aw1c1, rfl⟩ := how1.slices
  dsimp only at he_
  subst he_
  clear c0
  have hB_w1 : Below w.heap.size w w1 := hB_w.trans (hbw1.mono hB_w.size)
  clear hB_w 
  obtain ⟨w2, hw2⟩ : ∃ x, w1.alloc (.cells #[.int .i64 RES.now, .slice aw1e0 RES.ents.length aw1e1, .slice aw1w0 RES.pol.win.length aw1w1, .slice aw1m0 RES.pol.main.length aw1m1, .slice aw1k0 RES.pol.sk.rows.length aw1k1, .int .i64 RES.pol.sk.added, .slice aw1f0 RES.fes.length aw1f1, .slice aw1c0 RES.cls.length aw1c1, .int .i64 RES.hits] 32) = x := ⟨_, rfl⟩
  have hbw2 : Below w1.heap.size w1 w2 := by rw [← hw2]; exact (Below.refl _ _).alloc (Nat.le_refl _) _
  have evP_w2 : PXV w2 w.heap.size w1.heap.size ⟨.slice aw1e0 RES.ents.length aw1e1, .slice aw1w0 RES.pol.win.length aw1w1, .slice aw1m0 RES.pol.main.length aw1m1, .slice aw1k0 RES.pol.sk.rows.length aw1k1, .slice aw1f0 RES.fes.length aw1f1, .slice aw1c0 RES.cls.length aw1c1⟩ RES := by rw [← hw2]; exact PXV.new how1 hbw1.size
  have sw2 : w2.heap.size = w1.heap.size + 1 := by rw [← hw2]; simp
  have HWw2 : Hid (w1.alloc (.cells #[.int .i64 RES.now, .slice aw1e0 RES.ents.length aw1e1, .slice aw1w0 RES.pol.win.length aw1w1, .slice aw1m0 RES.pol.main.length aw1m1, .slice aw1k0 RES.pol.sk.rows.length aw1k1, .int .i64 RES.pol.sk.added, .slice aw1f0 RES.fes.length aw1f1, .slice aw1c0 RES.cls.length aw1c1, .int .i64 RES.hits] 32) = w2) := hw2
  have hB_w2 : Below w.heap.size w w2 := hB_w1.trans (hbw2.mono hB_w1.size)
  clear hB_w1 
  obtain ⟨p0, p1, p2, p3, p4, p5, p6, p7, p8⟩ := evP_w2.box.cells
  rw [← hw2] at p0 p1 p2 p3 p4 p5 p6 p7 p8
  clear hw2
  clear how1
  have c0 := CI.out w2
  go_wp2_with fail
  try rw [HWw2.out] at p0 p1 p2 p3 p4 p5 p6 p7 p8 ⊢
  refine c0.mono ?_
  rintro e w3 ⟨Y_, he_, how3, hbw3⟩
  obtain ⟨aw3e0, aw3e1, aw3w0, aw3w1, aw3m0, aw3m1, aw3k0, aw3k1, aw3f0, aw3f1, aw3c0, aw3c1, rfl⟩ := how3.slices
  dsimp only at he_
  subst he_
  clear c0
  clear p0 p1 p2 p3 p4 p5 p6 p7 p8
  have hB_w3 : Below w.heap.size w w3 := hB_w2.trans (hbw3.mono hB_w2.size)
  have evP_w3 := evP_w2.on hbw3
  clear hB_w2 evP_w2
  obtain ⟨w4, hw4⟩ : ∃ x, w3.alloc (.cells #[.int .i64 RES.now, .slice aw3e0 RES.ents.length aw3e1, .slice aw3w0 RES.pol.win.length aw3w1, .slice aw3m0 RES.pol.main.length aw3m1, .slice aw3k0 RES.pol.sk.rows.length aw3k1, .int .i64 RES.pol.sk.added, .slice aw3f0 RES.fes.length aw3f1, .slice aw3c0 RES.cls.length aw3c1, .int .i64 RES.hits] 32) = x := ⟨_, rfl⟩
  have hbw4 : Below w3.heap.size w3 w4 := by rw [← hw4]; exact (Below.refl _ _).alloc (Nat.le_refl _) _
  have evQ_w4 : PXV w4 w2.heap.size w3.heap.size ⟨.slice aw3e0 RES.ents.length aw3e1, .slice aw3w0 RES.pol.win.length aw3w1, .slice aw3m0 RES.pol.main.length aw3m1, .slice aw3k0 RES.pol.sk.rows.length aw3k1, .slice aw3f0 RES.fes.length aw3f1, .slice aw3c0 RES.cls.length aw3c1⟩ RES := by rw [← hw4]; exact PXV.new how3 hbw3.size
  have sw4 : w4.heap.size = w3.heap.size + 1 := by rw [← hw4]; simp
  have HWw4 : Hid (w3.alloc (.cells #[.int .i64 RES.now, .slice aw3e0 RES.ents.length aw3e1, .slice aw3w0 RES.pol.win.length aw3w1, .slice aw3m0 RES.pol.main.length aw3m1, .slice aw3k0 RES.pol.sk.rows.length aw3k1, .int .i64 RES.pol.sk.added, .slice aw3f0 RES.fes.length aw3f1, .slice aw3c0 RES.cls.length aw3c1, .int .i64 RES.hits] 32) = w4) := hw4
  have hB_w4 : Below w.heap.size w w4 := hB_w3.trans (hbw4.mono hB_w3.size)
  have evP_w4 := evP_w3.on hbw4
  clear hB_w3 evP_w3
  obtain ⟨p0, p1, p2, p3, p4, p5, p6, p7, p8⟩ := evP_w4.box.cells
  obtain ⟨q0, q1, q2, q3, q4, q5, q6, q7, q8⟩ := evQ_w4.box.cells
  rw [← hw4] at p0 p1 p2 p3 p4 p5 p6 p7 p8 q0 q1 q2 q3 q4 q5 q6 q7 q8
  clear hw4
  clear how3
  have ES : Hid (w.heap.size ≤ w1.heap.size ∧ w2.heap.size = w1.heap.size + 1 ∧ w2.heap.size ≤ w3.heap.size ∧ w4.heap.size = w3.heap.size + 1) := ⟨hbw1.size, sw2, hbw3.size, sw4⟩
  clear sw2 sw4 hbw1 hbw2 hbw3 hbw4
  go_wp2_with fail
  rw [HWw4.out] at p0 p1 p2 p3 p4 p5 p6 p7 p8 q0 q1 q2 q3 q4 q5 q6 q7 q8 ⊢
  refine (eqProxy_same w4 ⟨.slice aw3e0 RES.ents.length aw3e1, .slice aw3w0 RES.pol.win.length aw3w1, .slice aw3m0 RES.pol.main.length aw3m1, .slice aw3k0 RES.pol.sk.rows.length aw3k1, .slice aw3f0 RES.fes.length aw3f1, .slice aw3c0 RES.cls.length aw3c1⟩ ⟨.slice aw1e0 RES.ents.length aw1e1, .slice aw1w0 RES.pol.win.length aw1w1, .slice aw1m0 RES.pol.main.length aw1m1, .slice aw1k0 RES.pol.sk.rows.length aw1k1, .slice aw1f0 RES.fes.length aw1f1, .slice aw1c0 RES.cls.length aw1c1⟩ RES evQ_w4.at evP_w4.at hRl).mono ?_
  rintro e w5 ⟨rfl, hbw5⟩
  clear p0 p1 p2 p3 p4 p5 p6 p7 p8 q0 q1 q2 q3 q4 q5 q6 q7 q8
  have hB_w5 : Below w.heap.size w w5 := hB_w4.trans (hbw5.mono hB_w4.size)
  have evP_w5 := evP_w4.on hbw5
  have evQ_w5 := evQ_w4.on hbw5
  clear hB_w4 evP_w4 evQ_w4
  obtain ⟨p0, p1, p2, p3, p4, p5, p6, p7, p8⟩ := evP_w5.box.cells
  obtain ⟨q0, q1, q2, q3, q4, q5, q6, q7, q8⟩ := evQ_w5.box.cells
  go_wp2_with fail
  refine (markProxy_any w5 w2.heap.size w3.heap.size ⟨.slice aw3e0 RES.ents.length aw3e1, .slice aw3w0 RES.pol.win.length aw3w1, .slice aw3m0 RES.pol.main.length aw3m1, .slice aw3k0 RES.pol.sk.rows.length aw3k1, .slice aw3f0 RES.fes.length aw3f1, .slice aw3c0 RES.cls.length aw3c1⟩ RES evQ_w5.own hRl (Nat.le_of_lt evQ_w5.box.lt)).mono ?_
  rintro e w6 ⟨he, hoG, ht6⟩
  obtain ⟨K, hK⟩ : ∃ K : Nat, 1 + mkN RES = K := ⟨_, rfl⟩
  rw [hK] at he
  subst he
  have hn : ¬ ((K : Int) < 0) := by omega
  clear p0 p1 p2 p3 p4 p5 p6 p7 p8 q0 q1 q2 q3 q4 q5 q6 q7 q8
  have hB_w6 : Below w.heap.size w w6 := Tch.below hB_w5 ht6 hB_w5.size (fun k hk => by have := ES.out; omega)
  have evP_w6 := evP_w5.tch ht6 (fun k hk => by have := ES.out; omega)
  have evQ_w6 : PXM w6 w2.heap.size w3.heap.size ⟨.slice aw3e0 RES.ents.length aw3e1, .slice aw3w0 RES.pol.win.length aw3w1, .slice aw3m0 RES.pol.main.length aw3m1, .slice aw3k0 RES.pol.sk.rows.length aw3k1, .slice aw3f0 RES.fes.length aw3f1, .slice aw3c0 RES.cls.length aw3c1⟩ RES := ⟨evQ_w5.le, evQ_w5.box.kept (ht6.2 _ evQ_w5.box.lt (fun e => by omega)), hoG⟩
  clear hB_w5 evP_w5 evQ_w5
  have HCH : Hid (∀ wi, PXM wi w2.heap.size w3.heap.size ⟨.slice aw3e0 RES.ents.length aw3e1, .slice aw3w0 RES.pol.win.length aw3w1, .slice aw3m0 RES.pol.main.length aw3m1, .slice aw3k0 RES.pol.sk.rows.length aw3k1, .slice aw3f0 RES.fes.length aw3f1, .slice aw3c0 RES.cls.length aw3c1⟩ RES → Calls Try.prog 9 #[.agg #[.int .i64 RES.now, .slice aw3e0 RES.ents.length aw3e1, .slice aw3w0 RES.pol.win.length aw3w1, .slice aw3m0 RES.pol.main.length aw3m1, .slice aw3k0 RES.pol.sk.rows.length aw3k1, .int .i64 RES.pol.sk.added, .slice aw3f0 RES.fes.length aw3f1, .slice aw3c0 RES.cls.length aw3c1, .int .i64 RES.hits], .int .i64 1] wi fun e w' => e = .returned (.int .i64 (K : Int)) ∧ Below wi.heap.size wi w') := by
    intro wi h
    rw [← hK]
    exact heldProxy_any wi w2.heap.size w3.heap.size ⟨.slice aw3e0 RES.ents.length aw3e1, .slice aw3w0 RES.pol.win.length aw3w1, .slice aw3m0 RES.pol.main.length aw3m1, .slice aw3k0 RES.pol.sk.rows.length aw3k1, .slice aw3f0 RES.fes.length aw3f1, .slice aw3c0 RES.cls.length aw3c1⟩ RES h.own hRl
  clear hoG ht6 hK
  obtain ⟨p0, p1, p2, p3, p4, p5, p6, p7, p8⟩ := evP_w6.box.cells
  obtain ⟨q0, q1, q2, q3, q4, q5, q6, q7, q8⟩ := evQ_w6.box.cells
  have hkk : ((K : Int) != (K : Int)) = false := by simp
  go_wp2_with fail
  refine (HCH.out w6 evQ_w6).mono ?_
  rintro e w7 ⟨rfl, hbw7⟩
  clear p0 p1 p2 p3 p4 p5 p6 p7 p8 q0 q1 q2 q3 q4 q5 q6 q7 q8
  have hB_w7 : Below w.heap.size w w7 := hB_w6.trans (hbw7.mono hB_w6.size)
  have evP_w7 := evP_w6.on hbw7
  have evQ_w7 := evQ_w6.on hbw7
  clear hB_w6 evP_w6 evQ_w6
  obtain ⟨p0, p1, p2, p3, p4, p5, p6, p7, p8⟩ := evP_w7.box.cells
  obtain ⟨q0, q1, q2, q3, q4, q5, q6, q7, q8⟩ := evQ_w7.box.cells
  have c0 := CI.out w7
  go_wp2_with fail
  refine c0.mono ?_
  rintro e w8 ⟨Y_, he_, how8, hbw8⟩
  obtain ⟨aw8e0, aw8e1, aw8w0, aw8w1, aw8m0, aw8m1, aw8k0, aw8k1, aw8f0, aw8f1, aw8c0, aw8c1, rfl⟩ := how8.slices
  dsimp only at he_
  subst he_
  clear c0
  clear p0 p1 p2 p3 p4 p5 p6 p7 p8 q0 q1 q2 q3 q4 q5 q6 q7 q8
  have hB_w8 : Below w.heap.size w w8 := hB_w7.trans (hbw8.mono hB_w7.size)
  have evP_w8 := evP_w7.on hbw8
  have evQ_w8 := evQ_w7.on hbw8
  clear hB_w7 evP_w7 evQ_w7
  obtain ⟨w9, hw9⟩ : ∃ x, w8.alloc (.cells #[.int .i64 RES.now, .slice aw8e0 RES.ents.length aw8e1, .slice aw8w0 RES.pol.win.length aw8w1, .slice aw8m0 RES.pol.main.length aw8m1, .slice aw8k0 RES.pol.sk.rows.length aw8k1, .int .i64 RES.pol.sk.added, .slice aw8f0 RES.fes.length aw8f1, .slice aw8c0 RES.cls.length aw8c1, .int .i64 RES.hits] 32) = x := ⟨_, rfl⟩
  have hbw9 : Below w8.heap.size w8 w9 := by rw [← hw9]; exact (Below.refl _ _).alloc (Nat.le_refl _) _
  have evH_w9 : PXV w9 w7.heap.size w8.heap.size ⟨.slice aw8e0 RES.ents.length aw8e1, .slice aw8w0 RES.pol.win.length aw8w1, .slice aw8m0 RES.pol.main.length aw8m1, .slice aw8k0 RES.pol.sk.rows.length aw8k1, .slice aw8f0 RES.fes.length aw8f1, .slice aw8c0 RES.cls.length aw8c1⟩ RES := by rw [← hw9]; exact PXV.new how8 hbw8.size
  have sw9 : w9.heap.size = w8.heap.size + 1 := by rw [← hw9]; simp
  have HWw9 : Hid (w8.alloc (.cells #[.int .i64 RES.now, .slice aw8e0 RES.ents.length aw8e1, .slice aw8w0 RES.pol.win.length aw8w1, .slice aw8m0 RES.pol.main.length aw8m1, .slice aw8k0 RES.pol.sk.rows.length aw8k1, .int .i64 RES.pol.sk.added, .slice aw8f0 RES.fes.length aw8f1, .slice aw8c0 RES.cls.length aw8c1, .int .i64 RES.hits] 32) = w9) := hw9
  have hB_w9 : Below w.heap.size w w9 := hB_w8.trans (hbw9.mono hB_w8.size)
  have evP_w9 := evP_w8.on hbw9
  have evQ_w9 := evQ_w8.on hbw9
  clear hB_w8 evP_w8 evQ_w8
  obtain ⟨p0, p1, p2, p3, p4, p5, p6, p7, p8⟩ := evP_w9.box.cells
  obtain ⟨q0, q1, q2, q3, q4, q5, q6, q7, q8⟩ := evQ_w9.box.cells
  obtain ⟨h0, h1, h2, h3, h4, h5, h6, h7, h8⟩ := evH_w9.box.cells
  rw [← hw9] at p0 p1 p2 p3 p4 p5 p6 p7 p8 q0 q1 q2 q3 q4 q5 q6 q7 q8 h0 h1 h2 h3 h4 h5 h6 h7 h8
  clear hw9
  clear how8
  go_wp2_with fail
  rw [HWw9.out] at p0 p1 p2 p3 p4 p5 p6 p7 p8 q0 q1 q2 q3 q4 q5 q6 q7 q8 h0 h1 h2 h3 h4 h5 h6 h7 h8 ⊢
  refine (eqProxy_same w9 ⟨.slice aw8e0 RES.ents.length aw8e1, .slice aw8w0 RES.pol.win.length aw8w1, .slice aw8m0 RES.pol.main.length aw8m1, .slice aw8k0 RES.pol.sk.rows.length aw8k1, .slice aw8f0 RES.fes.length aw8f1, .slice aw8c0 RES.cls.length aw8c1⟩ ⟨.slice aw1e0 RES.ents.length aw1e1, .slice aw1w0 RES.pol.win.length aw1w1, .slice aw1m0 RES.pol.main.length aw1m1, .slice aw1k0 RES.pol.sk.rows.length aw1k1, .slice aw1f0 RES.fes.length aw1f1, .slice aw1c0 RES.cls.length aw1c1⟩ RES evH_w9.at evP_w9.at hRl).mono ?_
  rintro e w10 ⟨rfl, hbw10⟩
  clear p0 p1 p2 p3 p4 p5 p6 p7 p8 q0 q1 q2 q3 q4 q5 q6 q7 q8 h0 h1 h2 h3 h4 h5 h6 h7 h8
  have hB_w10 : Below w.heap.size w w10 := hB_w9.trans (hbw10.mono hB_w9.size)
  have evP_w10 := evP_w9.on hbw10
  have evQ_w10 := evQ_w9.on hbw10
  have evH_w10 := evH_w9.on hbw10
  clear hB_w9 evP_w9 evQ_w9 evH_w9
  obtain ⟨p0, p1, p2, p3, p4, p5, p6, p7, p8⟩ := evP_w10.box.cells
  obtain ⟨q0, q1, q2, q3, q4, q5, q6, q7, q8⟩ := evQ_w10.box.cells
  obtain ⟨h0, h1, h2, h3, h4, h5, h6, h7, h8⟩ := evH_w10.box.cells
  go_wp2_with fail
  refine (HCH.out w10 evQ_w10).mono ?_
  rintro e w11 ⟨rfl, hbw11⟩
  go_wp2_with fail
  go_ret
  exact ⟨rfl, hB_w10.trans (hbw11.mono hB_w10.size)⟩
end Go.Proofs.Ytfdbldmmhomifab
