/- The law on StreamNew, walked. Written by mkmlaw.py. -/
import Derived.Test.YtmpnjijbahjinatStmLaw
import Derived.Test.YtmpnjijbahjinatStmJoinSpec
import Derived.Deep.RegionHeld3
namespace Go.Proofs.Ytmpnjijbahjinat
open Go.RowKit Go.Sort
set_option maxRecDepth 100000 in
set_option maxHeartbeats 8000000 in
theorem streamNew_walk (w : World) :
    Calls Try.prog 7 #[] w fun e w' => e = .returned (.bool true) ∧ Below w.heap.size w w' := by
  obtain ⟨RS, hRES⟩ : ∃ R, newM = R := ⟨_, rfl⟩
  have hRl : RS.rd.length ≤ 1048577 := by rw [← hRES]; unfold newM; simp
  have CS : Hid (∀ wi : World, Calls Try.prog 21 #[] wi fun e w' => ∃ v, e = .returned v ∧ MOwn w' wi.heap.size v RS ∧ Below wi.heap.size wi w') := by intro wi; rw [← hRES]; exact specStreamNew_any wi
  have CI : Hid (∀ wi : World, Calls Try.prog 22 #[] wi fun e w' => ∃ v, e = .returned v ∧ MOwn w' wi.heap.size v RS ∧ Below wi.heap.size wi w') := by intro wi; rw [← hRES]; exact implStreamNew_any wi
  clear hRES
  have hB_w : Below w.heap.size w w := Below.refl _ _
  go_enter Try.func7, Try.ntmps7
  have c0 := CS.out w
  go_wp2_with fail
  refine c0.mono ?_
  rintro e w1 ⟨vw1, rfl, how1, hbw1⟩
  obtain ⟨aw1, kw1, rfl, _⟩ := how1.at
  clear c0
  have hB_w1 : Below w.heap.size w w1 := hB_w.trans (hbw1.mono hB_w.size)
  clear hB_w 
  obtain ⟨w2, hw2⟩ : ∃ x, w1.alloc (.cells #[.int .i64 RS.st, .string RS.text, .slice aw1 RS.rd.length kw1] 44) = x := ⟨_, rfl⟩
  have hbw2 : Below w1.heap.size w1 w2 := by rw [← hw2]; exact (Below.refl _ _).alloc (Nat.le_refl _) _
  have evP_w2 : MV w2 w.heap.size w1.heap.size aw1 kw1 RS := by rw [← hw2]; exact MV.new how1 hbw1.size
  have sw2 : w2.heap.size = w1.heap.size + 1 := by rw [← hw2]; simp
  have HWw2 : Hid (w1.alloc (.cells #[.int .i64 RS.st, .string RS.text, .slice aw1 RS.rd.length kw1] 44) = w2) := hw2
  have hB_w2 : Below w.heap.size w w2 := hB_w1.trans (hbw2.mono hB_w1.size)
  clear hB_w1 
  obtain ⟨p0, p1, p2⟩ := evP_w2.box.cells
  rw [← hw2] at p0 p1 p2
  clear hw2
  clear how1
  have c0 := CI.out w2
  go_wp2_with fail
  try rw [HWw2.out] at p0 p1 p2 ⊢
  refine c0.mono ?_
  rintro e w3 ⟨vw3, rfl, how3, hbw3⟩
  obtain ⟨aw3, kw3, rfl, _⟩ := how3.at
  clear c0
  clear p0 p1 p2
  have hB_w3 : Below w.heap.size w w3 := hB_w2.trans (hbw3.mono hB_w2.size)
  have evP_w3 := evP_w2.on hbw3
  clear hB_w2 evP_w2
  obtain ⟨w4, hw4⟩ : ∃ x, w3.alloc (.cells #[.int .i64 RS.st, .string RS.text, .slice aw3 RS.rd.length kw3] 44) = x := ⟨_, rfl⟩
  have hbw4 : Below w3.heap.size w3 w4 := by rw [← hw4]; exact (Below.refl _ _).alloc (Nat.le_refl _) _
  have evQ_w4 : MV w4 w2.heap.size w3.heap.size aw3 kw3 RS := by rw [← hw4]; exact MV.new how3 hbw3.size
  have sw4 : w4.heap.size = w3.heap.size + 1 := by rw [← hw4]; simp
  have HWw4 : Hid (w3.alloc (.cells #[.int .i64 RS.st, .string RS.text, .slice aw3 RS.rd.length kw3] 44) = w4) := hw4
  have hB_w4 : Below w.heap.size w w4 := hB_w3.trans (hbw4.mono hB_w3.size)
  have evP_w4 := evP_w3.on hbw4
  clear hB_w3 evP_w3
  obtain ⟨p0, p1, p2⟩ := evP_w4.box.cells
  obtain ⟨q0, q1, q2⟩ := evQ_w4.box.cells
  rw [← hw4] at p0 p1 p2 q0 q1 q2
  clear hw4
  clear how3
  have ES : Hid (w.heap.size ≤ w1.heap.size ∧ w2.heap.size = w1.heap.size + 1 ∧ w2.heap.size ≤ w3.heap.size ∧ w4.heap.size = w3.heap.size + 1) := ⟨hbw1.size, sw2, hbw3.size, sw4⟩
  clear sw2 sw4 hbw1 hbw2 hbw3 hbw4
  go_wp2_with fail
  rw [HWw4.out] at p0 p1 p2 q0 q1 q2 ⊢
  refine (eqStream_same w4 aw3 aw1 kw3 kw1 RS evQ_w4.at evP_w4.at hRl).mono ?_
  rintro e w5 ⟨rfl, hbw5⟩
  clear p0 p1 p2 q0 q1 q2
  have hB_w5 : Below w.heap.size w w5 := hB_w4.trans (hbw5.mono hB_w4.size)
  have evP_w5 := evP_w4.on hbw5
  have evQ_w5 := evQ_w4.on hbw5
  clear hB_w4 evP_w4 evQ_w4
  obtain ⟨p0, p1, p2⟩ := evP_w5.box.cells
  obtain ⟨q0, q1, q2⟩ := evQ_w5.box.cells
  go_wp2_with fail
  refine (markStream_any w5 w2.heap.size aw3 kw3 RS 1 evQ_w5.own hRl (by omega)).mono ?_
  rintro e w6 ⟨he, ⟨EG, hg1, hg2, hg3, hMG, hoG⟩, ht6⟩
  obtain ⟨K, hK⟩ : ∃ K : Nat, 1 + 2 * RS.rd.length = K := ⟨_, rfl⟩
  rw [hK] at he
  subst he
  have hn : ¬ ((K : Int) < 0) := by omega
  clear p0 p1 p2 q0 q1 q2
  have hB_w6 : Below w.heap.size w w6 := Tch.below hB_w5 ht6 hB_w5.size (fun k hk => by have h := evQ_w5.lt k hk; have := ES.out; omega)
  have evP_w6 := evP_w5.tch ht6 (fun k hk => by have h := evQ_w5.lt k hk; have := ES.out; omega)
  have evQ_w6 : MV w6 w2.heap.size w3.heap.size aw3 kw3 EG := ⟨evQ_w5.le, by rw [hg1, hg2, hg3]; exact evQ_w5.box.kept (ht6.2 _ evQ_w5.box.lt (fun e => by have := evQ_w5.lt _ e; omega)), by rw [hg1, hg2, hg3]; exact hoG, by rw [hg3]; exact evQ_w5.lt⟩
  clear hB_w5 evP_w5 evQ_w5
  have hGl : EG.rd.length ≤ 1048577 := by rw [hg3]; exact hRl
  have hK' : 1 + 2 * EG.rd.length = K := by rw [hg3]; exact hK
  have HCH : Hid (∀ wi, MV wi w2.heap.size w3.heap.size aw3 kw3 EG → Calls Try.prog 25 #[.agg #[.int .i64 EG.st, .string EG.text, .slice aw3 EG.rd.length kw3], .int .i64 1] wi fun e w' => e = .returned (.int .i64 (K : Int)) ∧ Below wi.heap.size wi w') := by
    intro wi h
    rw [← hK']
    exact heldStream_any wi w2.heap.size aw3 kw3 EG 1 h.own hMG hGl (by omega)
  clear hoG ht6 hK hK' hMG hGl hg1 hg2 hg3
  obtain ⟨p0, p1, p2⟩ := evP_w6.box.cells
  obtain ⟨q0, q1, q2⟩ := evQ_w6.box.cells
  have hkk : ((K : Int) != (K : Int)) = false := by simp
  go_wp2_with fail
  refine (HCH.out w6 evQ_w6).mono ?_
  rintro e w7 ⟨rfl, hbw7⟩
  clear p0 p1 p2 q0 q1 q2
  have hB_w7 : Below w.heap.size w w7 := hB_w6.trans (hbw7.mono hB_w6.size)
  have evP_w7 := evP_w6.on hbw7
  have evQ_w7 := evQ_w6.on hbw7
  clear hB_w6 evP_w6 evQ_w6
  obtain ⟨p0, p1, p2⟩ := evP_w7.box.cells
  obtain ⟨q0, q1, q2⟩ := evQ_w7.box.cells
  have c0 := CI.out w7
  go_wp2_with fail
  refine c0.mono ?_
  rintro e w8 ⟨vw8, rfl, how8, hbw8⟩
  obtain ⟨aw8, kw8, rfl, _⟩ := how8.at
  clear c0
  clear p0 p1 p2 q0 q1 q2
  have hB_w8 : Below w.heap.size w w8 := hB_w7.trans (hbw8.mono hB_w7.size)
  have evP_w8 := evP_w7.on hbw8
  have evQ_w8 := evQ_w7.on hbw8
  clear hB_w7 evP_w7 evQ_w7
  obtain ⟨w9, hw9⟩ : ∃ x, w8.alloc (.cells #[.int .i64 RS.st, .string RS.text, .slice aw8 RS.rd.length kw8] 44) = x := ⟨_, rfl⟩
  have hbw9 : Below w8.heap.size w8 w9 := by rw [← hw9]; exact (Below.refl _ _).alloc (Nat.le_refl _) _
  have evH_w9 : MV w9 w7.heap.size w8.heap.size aw8 kw8 RS := by rw [← hw9]; exact MV.new how8 hbw8.size
  have sw9 : w9.heap.size = w8.heap.size + 1 := by rw [← hw9]; simp
  have HWw9 : Hid (w8.alloc (.cells #[.int .i64 RS.st, .string RS.text, .slice aw8 RS.rd.length kw8] 44) = w9) := hw9
  have hB_w9 : Below w.heap.size w w9 := hB_w8.trans (hbw9.mono hB_w8.size)
  have evP_w9 := evP_w8.on hbw9
  have evQ_w9 := evQ_w8.on hbw9
  clear hB_w8 evP_w8 evQ_w8
  obtain ⟨p0, p1, p2⟩ := evP_w9.box.cells
  obtain ⟨q0, q1, q2⟩ := evQ_w9.box.cells
  obtain ⟨h0, h1, h2⟩ := evH_w9.box.cells
  rw [← hw9] at p0 p1 p2 q0 q1 q2 h0 h1 h2
  clear hw9
  clear how8
  go_wp2_with fail
  rw [HWw9.out] at p0 p1 p2 q0 q1 q2 h0 h1 h2 ⊢
  refine (eqStream_same w9 aw8 aw1 kw8 kw1 RS evH_w9.at evP_w9.at hRl).mono ?_
  rintro e w10 ⟨rfl, hbw10⟩
  clear p0 p1 p2 q0 q1 q2 h0 h1 h2
  have hB_w10 : Below w.heap.size w w10 := hB_w9.trans (hbw10.mono hB_w9.size)
  have evP_w10 := evP_w9.on hbw10
  have evQ_w10 := evQ_w9.on hbw10
  have evH_w10 := evH_w9.on hbw10
  clear hB_w9 evP_w9 evQ_w9 evH_w9
  obtain ⟨p0, p1, p2⟩ := evP_w10.box.cells
  obtain ⟨q0, q1, q2⟩ := evQ_w10.box.cells
  obtain ⟨h0, h1, h2⟩ := evH_w10.box.cells
  go_wp2_with fail
  refine (HCH.out w10 evQ_w10).mono ?_
  rintro e w11 ⟨rfl, hbw11⟩
  clear p0 p1 p2 q0 q1 q2 h0 h1 h2
  go_wp2_with fail
  go_ret
  exact ⟨rfl, hB_w10.trans (hbw11.mono hB_w10.size)⟩
end Go.Proofs.Ytmpnjijbahjinat
