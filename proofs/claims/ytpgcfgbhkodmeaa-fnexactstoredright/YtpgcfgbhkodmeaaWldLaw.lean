/- What a law does with worlds: it weighs them, compares them. Written by mkwld.py. -/
import Derived.Test.YtpgcfgbhkodmeaaWldBase
import Derived.Test.YtpgcfgbhkodmeaaPrxLaw
import Derived.Test.YtpgcfgbhkodmeaaFilesLaw
import Derived.Test.YtpgcfgbhkodmeaaIntsJ
namespace Go.Proofs.Ytpgcfgbhkodmeaa
open Go.RowKit Go.Sort
set_option maxHeartbeats 2000000 in
theorem szProxy_left (w : World) (X : Pc) (R : Prx) (left : Int) (hl0 : 0 ≤ left) (hl1 : left ≤ 1048576) (hA : PxAt w X R w.heap.size) (hm : PxM R) :
    Calls Try.prog 7 #[.agg #[.int .i64 R.now, X.e, X.w, X.m, X.k, .int .i64 R.pol.sk.added, X.f, X.c, .int .i64 R.hits], .int .i64 left] w fun e w' => ∃ r : Int, e = .returned (.int .i64 r) ∧ (r = -1 ∨ 0 ≤ r ∧ r + (wgtX R : Int) = left) ∧ Below w.heap.size w w' := by
  obtain ⟨w1, hw1⟩ : ∃ x, w.alloc (.cells #[.int .i64 R.now, X.e, X.w, X.m, X.k, .int .i64 R.pol.sk.added, X.f, X.c, .int .i64 R.hits] 32) = x := ⟨_, rfl⟩
  have hb1 : Below w.heap.size w w1 := by rw [← hw1]; exact (Below.refl _ _).alloc (Nat.le_refl _) _
  have hB : NB w1 w.heap.size 32 (.int .i64 R.now) X.e X.w X.m X.k (.int .i64 R.pol.sk.added) X.f X.c (.int .i64 R.hits) := by rw [← hw1]; exact NB.new _ _ _ _ _ _ _ _ _ _ _
  have hA1 := hA.on hb1
  obtain ⟨b0, b1, b2, b3, b4, b5, b6, b7, b8⟩ := hB.cells
  have c1 := szEntryS_v w1 X.e R.ents left hl0 hl1 hA1.e hm.es hm.el
  have HW : Hid (w.alloc (.cells #[.int .i64 R.now, X.e, X.w, X.m, X.k, .int .i64 R.pol.sk.added, X.f, X.c, .int .i64 R.hits] 32) = w1) := hw1
  rw [← hw1] at b0 b1 b2 b3 b4 b5 b6 b7 b8
  clear hw1 hA
  go_enter Try.func7, Try.ntmps7
  go_wp2_with fail
  rw [HW.out] at b0 b1 b2 b3 b4 b5 b6 b7 b8 ⊢
  refine c1.mono ?_
  rintro e w2 ⟨r, rfl, hr, hb2⟩
  clear c1 b0 b1 b2 b3 b4 b5 b6 b7 b8
  have hB2 := hB.on hb2
  have hA2 := hA1.on hb2
  have hbw2 := hb1.trans (hb2.mono hb1.size)
  obtain ⟨b0, b1, b2, b3, b4, b5, b6, b7, b8⟩ := hB2.cells
  rcases hr with rfl | ⟨hr0, hr1⟩
  · go_wp2_with fail
    go_ret
    exact ⟨_, rfl, .inl rfl, hbw2⟩
  have hr2 : ¬ r < 0 := by omega
  have hr3 : r ≤ 1048576 := by omega
  have HR : Hid (r + ((R.ents.length + ewg R.ents : Nat) : Int) = left) := hr1
  clear hr1 hB hA1
  have c2 := szPolicy_v w2 X.w X.m X.k R.pol r hr0 hr3 hA2.pol hm.pol
  go_wp2_with fail
  refine c2.mono ?_
  rintro e w3 ⟨q, rfl, hq, hb3⟩
  clear c2 b0 b1 b2 b3 b4 b5 b6 b7 b8
  have hB3 := hB2.on hb3
  have hA3 := hA2.on hb3
  have hbw3 := hbw2.trans (hb3.mono hbw2.size)
  obtain ⟨b0, b1, b2, b3, b4, b5, b6, b7, b8⟩ := hB3.cells
  rcases hq with rfl | ⟨hq0, hq1⟩
  · go_wp2_with fail
    go_ret
    exact ⟨_, rfl, .inl rfl, hbw3⟩
  have hq2 : ¬ q < 0 := by omega
  have hq3 : q ≤ 1048576 := by omega
  have HQ : Hid (q + (wgtP R.pol : Int) = r) := hq1
  clear hq1 hB2 hA2
  have c3 := szFetchS_v w3 X.f R.fes q hq0 hq3 hA3.f hm.fs hm.fl
  go_wp2_with fail
  refine c3.mono ?_
  rintro e w4 ⟨u, rfl, hu, hb4⟩
  clear c3 b0 b1 b2 b3 b4 b5 b6 b7 b8
  have hB4 := hB3.on hb4
  have hA4 := hA3.on hb4
  have hbw4 := hbw3.trans (hb4.mono hbw3.size)
  obtain ⟨b0, b1, b2, b3, b4, b5, b6, b7, b8⟩ := hB4.cells
  rcases hu with rfl | ⟨hu0, hu1⟩
  · go_wp2_with fail
    go_ret
    exact ⟨_, rfl, .inl rfl, hbw4⟩
  have hu2 : ¬ u < 0 := by omega
  have hu3 : u ≤ 1048576 := by omega
  have HU : Hid (u + ((R.fes.length + ftwg R.fes : Nat) : Int) = q) := hu1
  clear hu1 hB3 hA3
  have c4 := szClientS_v w4 X.c R.cls u hu0 hu3 hA4.c hm.cs hm.cl
  go_wp2_with fail
  refine c4.mono ?_
  rintro e w5 ⟨z, rfl, hz, hb5⟩
  clear c4 b0 b1 b2 b3 b4 b5 b6 b7 b8
  have hbw5 := hbw4.trans (hb5.mono hbw4.size)
  rcases hz with rfl | ⟨hz0, hz1⟩
  · go_wp2_with fail
    go_ret
    exact ⟨_, rfl, .inl rfl, hbw5⟩
  have hz2 : ¬ z < 0 := by omega
  have HZ : Hid (z + (wgtX R : Int) = left) := by
    show _ = _
    unfold wgtX
    have := HR.out
    have := HQ.out
    have := HU.out
    omega
  clear hz1
  go_wp2_with fail
  go_ret
  exact ⟨_, rfl, .inr ⟨hz0, HZ.out⟩, hbw5⟩
theorem szFil_v (w : World) (v : Value) (L : List Fil) (left : Int) (h0 : 0 ≤ left) (h1 : left ≤ 1048576) (hL : FilV w v L w.heap.size) (hs : Sized L) (hm : L.length ≤ maxLen) :
    Calls Try.prog 34 #[.agg #[v], .int .i64 left] w fun e w' => ∃ r : Int, e = .returned (.int .i64 r) ∧ (r = -1 ∨ 0 ≤ r ∧ r + ((L.length + wgt L : Nat) : Int) = left) ∧ Below w.heap.size w w' := by
  obtain ⟨a, cap, rfl, hA⟩ := hL
  exact szDisk_any w a cap L left h0 h1 hA hs hm
theorem szInt_v (w : World) (v : Value) (L : List Int) (left : Int) (h0 : 0 ≤ left) (h1 : left ≤ 1048576) (hL : IntV w v L w.heap.size) (hm : L.length ≤ maxLen) :
    Calls Try.prog 35 #[v, .int .i64 left] w fun e w' => ∃ r : Int, e = .returned (.int .i64 r) ∧ (r = -1 ∨ 0 ≤ r ∧ r + (L.length : Int) = left) ∧ Below w.heap.size w w' := by
  obtain ⟨a, cap, rfl, hA⟩ := hL
  unfold maxLen at hm
  by_cases hA : left - L.length < 0
  · go_enter Try.func35, Try.ntmps35
    go_wp2
    go_ret
    exact ⟨_, rfl, .inl rfl, Below.refl _ _⟩
  · go_enter Try.func35, Try.ntmps35
    go_wp2
    go_ret
    exact ⟨_, rfl, .inr ⟨by omega, by omega⟩, Below.refl _ _⟩
set_option maxHeartbeats 2000000 in
theorem szWorld_any (w : World) (X : Wc) (R : Wld) (hA : WAt w X R w.heap.size) (hm : WM R) :
    Calls Try.prog 12 #[.agg #[.int .i64 R.px.now, X.x.e, X.x.w, X.x.m, X.x.k, .int .i64 R.px.pol.sk.added, X.x.f, X.x.c, .int .i64 R.px.hits, X.d, X.n, X.b], .int .i64 1048576] w fun e w' => ∃ r : Int, e = .returned (.int .i64 r) ∧ (r = -1 ∨ 0 ≤ r ∧ WSz R) ∧ Below w.heap.size w w' := by
  obtain ⟨w1, hw1⟩ : ∃ x, w.alloc (.cells #[.int .i64 R.px.now, X.x.e, X.x.w, X.x.m, X.x.k, .int .i64 R.px.pol.sk.added, X.x.f, X.x.c, .int .i64 R.px.hits, X.d, X.n, X.b] 51) = x := ⟨_, rfl⟩
  have hb1 : Below w.heap.size w w1 := by rw [← hw1]; exact (Below.refl _ _).alloc (Nat.le_refl _) _
  have hB : TB w1 w.heap.size 51 (.int .i64 R.px.now) X.x.e X.x.w X.x.m X.x.k (.int .i64 R.px.pol.sk.added) X.x.f X.x.c (.int .i64 R.px.hits) X.d X.n X.b := by rw [← hw1]; exact TB.new _ _ _ _ _ _ _ _ _ _ _ _ _ _
  have hA1 := hA.on hb1
  obtain ⟨b0, b1, b2, b3, b4, b5, b6, b7, b8, b9, b10, b11⟩ := hB.cells
  have c1 := szProxy_left w1 X.x R.px 1048576 (by omega) (by omega) hA1.x hm.x
  have HW : Hid (w.alloc (.cells #[.int .i64 R.px.now, X.x.e, X.x.w, X.x.m, X.x.k, .int .i64 R.px.pol.sk.added, X.x.f, X.x.c, .int .i64 R.px.hits, X.d, X.n, X.b] 51) = w1) := hw1
  rw [← hw1] at b0 b1 b2 b3 b4 b5 b6 b7 b8 b9 b10 b11
  clear hw1 hA
  go_enter Try.func12, Try.ntmps12
  go_wp2_with fail
  rw [HW.out] at b0 b1 b2 b3 b4 b5 b6 b7 b8 b9 b10 b11 ⊢
  refine c1.mono ?_
  rintro e w2 ⟨r, rfl, hr, hw2⟩
  clear c1 b0 b1 b2 b3 b4 b5 b6 b7 b8 b9 b10 b11
  have hB2 := hB.on hw2
  have hA2 := hA1.on hw2
  have hbw2 := hb1.trans (hw2.mono hb1.size)
  obtain ⟨b0, b1, b2, b3, b4, b5, b6, b7, b8, b9, b10, b11⟩ := hB2.cells
  rcases hr with rfl | ⟨hr0, hr1⟩
  · go_wp2_with fail
    go_ret
    exact ⟨_, rfl, .inl rfl, hbw2⟩
  have hr2 : ¬ r < 0 := by omega
  have hr3 : r ≤ 1048576 := by omega
  have H0 : Hid (r + (wgtX R.px : Int) = 1048576) := hr1
  clear hr1 hB hA1
  have c2 := szFil_v w2 X.d R.fl r hr0 hr3 hA2.d hm.ds hm.dl
  go_wp2_with fail
  refine c2.mono ?_
  rintro e w3 ⟨q, rfl, hq, hw3⟩
  clear c2 b0 b1 b2 b3 b4 b5 b6 b7 b8 b9 b10 b11
  have hB3 := hB2.on hw3
  have hA3 := hA2.on hw3
  have hbw3 := hbw2.trans (hw3.mono hbw2.size)
  obtain ⟨b0, b1, b2, b3, b4, b5, b6, b7, b8, b9, b10, b11⟩ := hB3.cells
  rcases hq with rfl | ⟨hq0, hq1⟩
  · go_wp2_with fail
    go_ret
    exact ⟨_, rfl, .inl rfl, hbw3⟩
  have hq2 : ¬ q < 0 := by omega
  have hq3 : q ≤ 1048576 := by omega
  have H1 : Hid (q + ((R.fl.length + wgt R.fl : Nat) : Int) = r) := hq1
  clear hq1 hB2 hA2
  have c3 := szInt_v w3 X.n R.cd q hq0 hq3 hA3.n hm.nl
  go_wp2_with fail
  refine c3.mono ?_
  rintro e w4 ⟨u, rfl, hu, hw4⟩
  clear c3 b0 b1 b2 b3 b4 b5 b6 b7 b8 b9 b10 b11
  have hB4 := hB3.on hw4
  have hA4 := hA3.on hw4
  have hbw4 := hbw3.trans (hw4.mono hbw3.size)
  obtain ⟨b0, b1, b2, b3, b4, b5, b6, b7, b8, b9, b10, b11⟩ := hB4.cells
  rcases hu with rfl | ⟨hu0, hu1⟩
  · go_wp2_with fail
    go_ret
    exact ⟨_, rfl, .inl rfl, hbw4⟩
  have hu2 : ¬ u < 0 := by omega
  have hu3 : u ≤ 1048576 := by omega
  have H2 : Hid (u + (R.cd.length : Int) = q) := hu1
  clear hu1 hB3 hA3
  have c4 := szEntryS_v w4 X.b R.bd u hu0 hu3 hA4.b hm.bs hm.bl
  go_wp2_with fail
  refine c4.mono ?_
  rintro e w5 ⟨z, rfl, hz, hw5⟩
  clear c4 b0 b1 b2 b3 b4 b5 b6 b7 b8 b9 b10 b11
  have hB5 := hB4.on hw5
  have hA5 := hA4.on hw5
  have hbw5 := hbw4.trans (hw5.mono hbw4.size)
  obtain ⟨b0, b1, b2, b3, b4, b5, b6, b7, b8, b9, b10, b11⟩ := hB5.cells
  rcases hz with rfl | ⟨hz0, hz1⟩
  · go_wp2_with fail
    go_ret
    exact ⟨_, rfl, .inl rfl, hbw5⟩
  have hz2 : ¬ z < 0 := by omega
  have hz3 : z ≤ 1048576 := by omega
  have H3 : Hid (z + ((R.bd.length + ewg R.bd : Nat) : Int) = u) := hz1
  clear hz1 hB4 hA4
  have HZ : Hid (WSz R) := by
    show _ ≤ _
    unfold wgtW
    have := H0.out
    have := H1.out
    have := H2.out
    have := H3.out
    omega
  go_wp2_with fail
  go_ret
  exact ⟨_, rfl, .inr ⟨hz0, HZ.out⟩, hbw5⟩
theorem eqDisk_v (w : World) (x y : Value) (L : List Fil) (hx : FilV w x L w.heap.size) (hy : FilV w y L w.heap.size) (hl : L.length ≤ 1048576) :
    Calls Try.prog 40 #[.agg #[x], .agg #[y]] w fun e w' => e = .returned (.bool true) ∧ Below w.heap.size w w' := by
  obtain ⟨a, c1, rfl, hA⟩ := hx
  obtain ⟨b, c2, rfl, hB⟩ := hy
  obtain ⟨w0, hw0⟩ : ∃ w0, w0 = (w.alloc (.cells #[.slice a L.length c1] 56)).alloc (.cells #[.slice b L.length c2] 56) := ⟨_, rfl⟩
  have hb : Below w.heap.size w w0 := by rw [hw0]; exact ((Below.refl w.heap.size w).alloc (Nat.le_refl _) _).alloc (by simp) _
  have cE := eqFileS_same w0 a b c1 c2 L (hA.on hb) (hB.on hb) hl
  rw [hw0] at cE
  go_enter Try.func40, Try.ntmps40
  go_wp2_with fail
  refine cE.mono ?_
  rw [← hw0]
  rintro e w1 ⟨rfl, hb1⟩
  go_wp2
  go_ret
  exact ⟨rfl, hb.trans (hb1.mono hb.size)⟩
theorem eqInt_v (w : World) (x y : Value) (L : List Int) (hx : IntV w x L w.heap.size) (hy : IntV w y L w.heap.size) (hl : L.length ≤ 1048576) :
    Calls Try.prog 41 #[x, y] w fun e w' => e = .returned (.bool true) ∧ Below w.heap.size w w' := by
  obtain ⟨a, c1, rfl, hA⟩ := hx
  obtain ⟨b, c2, rfl, hB⟩ := hy
  exact eqIntS_same w a b c1 c2 L hA hB hl
set_option maxHeartbeats 2000000 in
theorem eqWorld_same (w : World) (X Y : Wc) (R : Wld) (hA : WAt w X R w.heap.size) (hB : WAt w Y R w.heap.size) (hsz : WSz R) :
    Calls Try.prog 16 #[.agg #[.int .i64 R.px.now, X.x.e, X.x.w, X.x.m, X.x.k, .int .i64 R.px.pol.sk.added, X.x.f, X.x.c, .int .i64 R.px.hits, X.d, X.n, X.b], .agg #[.int .i64 R.px.now, Y.x.e, Y.x.w, Y.x.m, Y.x.k, .int .i64 R.px.pol.sk.added, Y.x.f, Y.x.c, .int .i64 R.px.hits, Y.d, Y.n, Y.b]] w fun e w' => e = .returned (.bool true) ∧ Below w.heap.size w w' := by
  obtain ⟨l1, l2, l3, l4⟩ := hsz.parts
  obtain ⟨w0, hw0⟩ : ∃ x, w.alloc (.cells #[.int .i64 R.px.now, X.x.e, X.x.w, X.x.m, X.x.k, .int .i64 R.px.pol.sk.added, X.x.f, X.x.c, .int .i64 R.px.hits, X.d, X.n, X.b] 58) = x := ⟨_, rfl⟩
  obtain ⟨w1, hw1⟩ : ∃ x, w0.alloc (.cells #[.int .i64 R.px.now, Y.x.e, Y.x.w, Y.x.m, Y.x.k, .int .i64 R.px.pol.sk.added, Y.x.f, Y.x.c, .int .i64 R.px.hits, Y.d, Y.n, Y.b] 58) = x := ⟨_, rfl⟩
  have hb0 : Below w.heap.size w w0 := by rw [← hw0]; exact (Below.refl _ _).alloc (Nat.le_refl _) _
  have hb1 : Below w0.heap.size w0 w1 := by rw [← hw1]; exact (Below.refl _ _).alloc (Nat.le_refl _) _
  have s0 : w0.heap.size = w.heap.size + 1 := by rw [← hw0]; simp
  have hX : TB w1 w.heap.size 58 (.int .i64 R.px.now) X.x.e X.x.w X.x.m X.x.k (.int .i64 R.px.pol.sk.added) X.x.f X.x.c (.int .i64 R.px.hits) X.d X.n X.b := by
    have h : TB w0 w.heap.size 58 (.int .i64 R.px.now) X.x.e X.x.w X.x.m X.x.k (.int .i64 R.px.pol.sk.added) X.x.f X.x.c (.int .i64 R.px.hits) X.d X.n X.b := by rw [← hw0]; exact TB.new _ _ _ _ _ _ _ _ _ _ _ _ _ _
    exact h.on hb1
  have hY : TB w1 (w.heap.size + 1) 58 (.int .i64 R.px.now) Y.x.e Y.x.w Y.x.m Y.x.k (.int .i64 R.px.pol.sk.added) Y.x.f Y.x.c (.int .i64 R.px.hits) Y.d Y.n Y.b := by rw [← hw1, ← s0]; exact TB.new _ _ _ _ _ _ _ _ _ _ _ _ _ _
  have hbw : Below w.heap.size w w1 := hb0.trans (hb1.mono hb0.size)
  obtain ⟨x0, x1, x2, x3, x4, x5, x6, x7, x8, x9, x10, x11⟩ := hX.cells
  obtain ⟨y0, y1, y2, y3, y4, y5, y6, y7, y8, y9, y10, y11⟩ := hY.cells
  have HW : Hid ((w.alloc (.cells #[.int .i64 R.px.now, X.x.e, X.x.w, X.x.m, X.x.k, .int .i64 R.px.pol.sk.added, X.x.f, X.x.c, .int .i64 R.px.hits, X.d, X.n, X.b] 58)).alloc (.cells #[.int .i64 R.px.now, Y.x.e, Y.x.w, Y.x.m, Y.x.k, .int .i64 R.px.pol.sk.added, Y.x.f, Y.x.c, .int .i64 R.px.hits, Y.d, Y.n, Y.b] 58) = w1) := by rw [hw0]; exact hw1
  have hA1 := hA.on hbw
  have hB1 := hB.on hbw
  have e1 := eqProxy_same w1 X.x Y.x R.px hA1.x hB1.x l1
  rw [← hw1, ← hw0] at x0 x1 x2 x3 x4 x5 x6 x7 x8 x9 x10 x11 y0 y1 y2 y3 y4 y5 y6 y7 y8 y9 y10 y11
  clear hw0 hw1 s0 hb0 hb1 hA hB
  go_enter Try.func16, Try.ntmps16
  go_wp2_with fail
  rw [HW.out] at x0 x1 x2 x3 x4 x5 x6 x7 x8 x9 x10 x11 y0 y1 y2 y3 y4 y5 y6 y7 y8 y9 y10 y11 ⊢
  refine e1.mono ?_
  rintro e w2 ⟨rfl, hw2⟩
  clear e1 x0 x1 x2 x3 x4 x5 x6 x7 x8 x9 x10 x11 y0 y1 y2 y3 y4 y5 y6 y7 y8 y9 y10 y11
  have hbw2 := hbw.trans (hw2.mono hbw.size)
  have hX2 := hX.on hw2
  have hY2 := hY.on hw2
  have hA2 := hA1.on hw2
  have hB2 := hB1.on hw2
  clear hX hY hA1 hB1
  obtain ⟨x0, x1, x2, x3, x4, x5, x6, x7, x8, x9, x10, x11⟩ := hX2.cells
  obtain ⟨y0, y1, y2, y3, y4, y5, y6, y7, y8, y9, y10, y11⟩ := hY2.cells
  have e2 := eqDisk_v w2 X.d Y.d R.fl hA2.d hB2.d l2
  go_wp2_with fail
  refine e2.mono ?_
  rintro e w3 ⟨rfl, hw3⟩
  clear e2 x0 x1 x2 x3 x4 x5 x6 x7 x8 x9 x10 x11 y0 y1 y2 y3 y4 y5 y6 y7 y8 y9 y10 y11
  have hbw3 := hbw2.trans (hw3.mono hbw2.size)
  have hX3 := hX2.on hw3
  have hY3 := hY2.on hw3
  have hA3 := hA2.on hw3
  have hB3 := hB2.on hw3
  clear hX2 hY2 hA2 hB2
  obtain ⟨x0, x1, x2, x3, x4, x5, x6, x7, x8, x9, x10, x11⟩ := hX3.cells
  obtain ⟨y0, y1, y2, y3, y4, y5, y6, y7, y8, y9, y10, y11⟩ := hY3.cells
  have e3 := eqInt_v w3 X.n Y.n R.cd hA3.n hB3.n l3
  go_wp2_with fail
  refine e3.mono ?_
  rintro e w4 ⟨rfl, hw4⟩
  clear e3 x0 x1 x2 x3 x4 x5 x6 x7 x8 x9 x10 x11 y0 y1 y2 y3 y4 y5 y6 y7 y8 y9 y10 y11
  have hbw4 := hbw3.trans (hw4.mono hbw3.size)
  have hX4 := hX3.on hw4
  have hY4 := hY3.on hw4
  have hA4 := hA3.on hw4
  have hB4 := hB3.on hw4
  clear hX3 hY3 hA3 hB3
  obtain ⟨x0, x1, x2, x3, x4, x5, x6, x7, x8, x9, x10, x11⟩ := hX4.cells
  obtain ⟨y0, y1, y2, y3, y4, y5, y6, y7, y8, y9, y10, y11⟩ := hY4.cells
  have e4 := eqEntryS_v w4 X.b Y.b R.bd hA4.b hB4.b l4
  go_wp2_with fail
  refine e4.mono ?_
  rintro e w5 ⟨rfl, hw5⟩
  clear e4 x0 x1 x2 x3 x4 x5 x6 x7 x8 x9 x10 x11 y0 y1 y2 y3 y4 y5 y6 y7 y8 y9 y10 y11
  have hbw5 := hbw4.trans (hw5.mono hbw4.size)
  have hX5 := hX4.on hw5
  have hY5 := hY4.on hw5
  have hA5 := hA4.on hw5
  have hB5 := hB4.on hw5
  clear hX4 hY4 hA4 hB4
  obtain ⟨x0, x1, x2, x3, x4, x5, x6, x7, x8, x9, x10, x11⟩ := hX5.cells
  obtain ⟨y0, y1, y2, y3, y4, y5, y6, y7, y8, y9, y10, y11⟩ := hY5.cells
  go_wp2_with fail
  go_ret
  exact ⟨rfl, hbw5⟩
end Go.Proofs.Ytpgcfgbhkodmeaa
