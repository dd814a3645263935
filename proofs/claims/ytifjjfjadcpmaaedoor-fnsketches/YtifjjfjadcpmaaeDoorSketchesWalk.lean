/- The law on sketches, walked. -/
import Derived.Test.YtifjjfjadcpmaaeDoorSketchesDraw
import Derived.Test.YtifjjfjadcpmaaeDoorBig
import Derived.Test.YtifjjfjadcpmaaeDoorSkBumpImpl
import Derived.Test.YtifjjfjadcpmaaeDoorSkGuessImpl
import Derived.Test.YtifjjfjadcpmaaeDoorSkGuessSpec
namespace Go.Proofs.YtifjjfjadcpmaaeDoor
open Go.RowKit Go.Sort

/-- A sketch in a variable that is only read. -/
def SR (w : World) (T : Nat) (a : Option Addr) (c : Nat) (S : Sk) : Prop := SkBox w T (.slice a S.rows.length c) (.int .i64 S.added) ∧ SSAt w a S.rows w.heap.size
theorem SR.on {w w' : World} {T : Nat} {a : Option Addr} {c : Nat} {S : Sk} (h : SR w T a c S) (hb : Below w.heap.size w w') : SR w' T a c S := ⟨h.1.on hb, h.2.on hb⟩
theorem SR.new {w : World} {a : Option Addr} {c : Nat} {S : Sk} (h : SSAt w a S.rows w.heap.size) : SR (w.alloc (.cells #[.slice a S.rows.length c, .int .i64 S.added] 45)) w.heap.size a c S := ⟨SkBox.new _ _ _, h.on ((Below.refl _ _).alloc (Nat.le_refl _) _)⟩
theorem CodeAt.on {w w' : World} {ca : Option Addr} {n : Nat} (h : CodeAt w ca n w.heap.size) (hb : Below w.heap.size w w') : CodeAt w' ca n w'.heap.size := by
  intro j hj
  obtain ⟨b, off, z, h1, h2, h3, h4⟩ := h j hj
  exact ⟨b, off, z, h1, Nat.lt_of_lt_of_le h2 hb.size, (hb.cell h2).trans h3, h4⟩
theorem few_sz {S : Sk} (h : Few S) : SkSz S := sz_small h.1 h.2

set_option maxRecDepth 100000 in
set_option maxHeartbeats 8000000 in
theorem sketches_walk (ca : Option Addr) (n cap : Nat) (w : World) (hcode : CodeAt w ca n w.heap.size) (hlen : n ≤ maxLen) (ht : Tab w) :
    Calls Tryd.prog 7 #[.slice ca n cap] w fun e w' => e = .returned (.bool true) ∧ Below w.heap.size w w' := by
  unfold maxLen at hlen
  have cb := big_any ca n cap w (by omega)
  by_cases hn : n ≤ 1048576
  case neg =>
    rw [show decide (1048576 < n) = true by simp; omega] at cb
    go_enter Tryd.func7, Tryd.ntmps7
    go_wp2_with fail
    refine cb.mono ?_
    rintro e w' ⟨rfl, rfl⟩
    go_wp2_with fail
    go_ret
    exact ⟨rfl, Below.refl _ _⟩
  rw [show decide (1048576 < n) = false by simp; omega] at cb
  have cD := drawSketchBump_any w ca n cap hcode hn
  have HCT : Hid (∀ wi, Below w.heap.size w wi → CodeAt wi ca n wi.heap.size ∧ Tab wi) := fun wi h => ⟨hcode.on h, ht.below h (Nat.le_refl _)⟩
  clear hcode ht
  go_enter Tryd.func7, Tryd.ntmps7
  go_wp2_with fail
  refine cb.mono ?_
  rintro e w' ⟨rfl, rfl⟩
  clear cb
  go_wp2_with fail
  refine cD.mono ?_
  rintro e w1 ⟨a, c, S, key, rfl, hks, hfew, hss, hb1⟩
  clear cD
  obtain ⟨T3, hT3⟩ : ∃ T, w1.heap.size = T := ⟨_, rfl⟩
  obtain ⟨w2, hw2⟩ : ∃ x, w1.alloc (.cells #[.slice a S.rows.length c, .int .i64 S.added] 45) = x := ⟨_, rfl⟩
  have hb2 : Below w1.heap.size w1 w2 := by rw [← hw2]; exact (Below.refl _ _).alloc (Nat.le_refl _) _
  have hS2 : SR w2 T3 a c S := by rw [← hw2, ← hT3]; exact SR.new hss
  have hbw2 : Below w.heap.size w w2 := hb1.trans (hb2.mono hb1.size)
  have HW2 : Hid (w1.alloc (.cells #[.slice a S.rows.length c, .int .i64 S.added] 45) = w2) := hw2
  have hsz := few_sz hfew
  obtain ⟨RES, hRES⟩ : ∃ R, bumpS S key = R := ⟨_, rfl⟩
  have hRsz : SkSz RES := by rw [← hRES]; exact bumpS_sz S key hsz
  have cB := implSketchBump_any w2 a c S key hS2.2 hsz (by omega) (HCT.out w2 hbw2).2
  rw [hRES] at cB
  obtain ⟨x0, x1⟩ := hS2.1.cells
  rw [← hw2] at x0 x1
  clear hw2 hss hb2
  go_wp2_with fail
  rw [HW2.out] at x0 x1 ⊢
  refine cB.mono ?_
  rintro e w3 ⟨v3, rfl, ho3, hb3⟩
  obtain ⟨a5, c5, rfl, hA5⟩ := ho3.at
  clear cB x0 x1 ho3 HW2
  obtain ⟨T5, hT5⟩ : ∃ T, w3.heap.size = T := ⟨_, rfl⟩
  obtain ⟨w4, hw4⟩ : ∃ x, w3.alloc (.cells #[.slice a5 RES.rows.length c5, .int .i64 RES.added] 45) = x := ⟨_, rfl⟩
  have hb4 : Below w3.heap.size w3 w4 := by rw [← hw4]; exact (Below.refl _ _).alloc (Nat.le_refl _) _
  have hA4 : SR w4 T5 a5 c5 RES := by rw [← hw4, ← hT5]; exact SR.new hA5
  have hS4 := (hS2.on hb3).on hb4
  have hbw3 := hbw2.trans (hb3.mono hbw2.size)
  have hbw4 := hbw3.trans (hb4.mono hbw3.size)
  have HW4 : Hid (w3.alloc (.cells #[.slice a5 RES.rows.length c5, .int .i64 RES.added] 45) = w4) := hw4
  have cB := specSketchBump_any w4 a c S key hS4.2 hsz (by omega)
  rw [hRES] at cB
  obtain ⟨x0, x1⟩ := hS4.1.cells
  rw [← hw4] at x0 x1
  clear hw4 hA5 hb3 hb4 hS2 hbw2 hbw3
  go_wp2_with fail
  rw [HW4.out] at x0 x1 ⊢
  refine cB.mono ?_
  rintro e w5 ⟨v5, rfl, ho5, hb5⟩
  obtain ⟨a6, c6, rfl, hA6⟩ := ho5.at
  clear cB x0 x1 ho5 HW4
  obtain ⟨T6, hT6⟩ : ∃ T, w5.heap.size = T := ⟨_, rfl⟩
  obtain ⟨w6, hw6⟩ : ∃ x, w5.alloc (.cells #[.slice a6 RES.rows.length c6, .int .i64 RES.added] 45) = x := ⟨_, rfl⟩
  have hb6 : Below w5.heap.size w5 w6 := by rw [← hw6]; exact (Below.refl _ _).alloc (Nat.le_refl _) _
  have hC6 : SR w6 T6 a6 c6 RES := by rw [← hw6, ← hT6]; exact SR.new hA6
  have hS6 := (hS4.on hb5).on hb6
  have hA6' := (hA4.on hb5).on hb6
  have hbw5 := hbw4.trans (hb5.mono hbw4.size)
  have hbw6 := hbw5.trans (hb6.mono hbw5.size)
  have HW6 : Hid (w5.alloc (.cells #[.slice a6 RES.rows.length c6, .int .i64 RES.added] 45) = w6) := hw6
  have cP := drawSketchPlace_any w6 ca n cap (HCT.out w6 hbw6).1 hn
  clear hw6 hA6 hb5 hb6 hS4 hA4 hbw4 hbw5
  go_wp2_with fail
  rw [HW6.out]
  refine cP.mono ?_
  rintro e w7 ⟨row, kx, rfl, hkx, hb7⟩
  have hS7 := hS6.on hb7
  have hA7 := hA6'.on hb7
  have hC7 := hC6.on hb7
  have hbw7 := hbw6.trans (hb7.mono hbw6.size)
  clear cP HW6 hS6 hA6' hC6 hbw6 hb7
  have cX := drawSketch_any w7 ca n cap (HCT.out w7 hbw7).1 hn
  go_wp2_with fail
  refine cX.mono ?_
  rintro e w8 ⟨v8, X, rfl, hokX, ho8, hb8⟩
  obtain ⟨a9, c9, rfl, _⟩ := ho8.at
  clear cX
  obtain ⟨T9, hT9⟩ : ∃ T, w8.heap.size = T := ⟨_, rfl⟩
  obtain ⟨w9, hw9⟩ : ∃ x, w8.alloc (.cells #[.slice a9 X.rows.length c9, .int .i64 X.added] 45) = x := ⟨_, rfl⟩
  have hb9 : Below w8.heap.size w8 w9 := by rw [← hw9]; exact (Below.refl _ _).alloc (Nat.le_refl _) _
  have hX9 : SB w9 w7.heap.size T9 a9 c9 X := by
    obtain ⟨v1, e, h1⟩ := ho8
    simp only [Value.agg.injEq, Array.mk.injEq, List.cons.injEq, and_true] at e
    subst e
    exact ⟨by rw [← hw9, ← hT9]; exact SkBox.new _ _ _, (h1.below hb9 (Nat.le_refl _)).up⟩
  have hS8 := hS7.on hb8
  have hA8 := hA7.on hb8
  have hC8 := hC7.on hb8
  have hbw8 := hbw7.trans (hb8.mono hbw7.size)
  have HW9 : Hid (w8.alloc (.cells #[.slice a9 X.rows.length c9, .int .i64 X.added] 45) = w9) := hw9
  have h78 : w7.heap.size ≤ w8.heap.size := hb8.size
  clear hw9 ho8 hS7 hA7 hC7 hbw7 hb8
  go_wp2_with fail
  rw [HW9.out]
  clear HW9
  go_loopw [10] (fun i wr => Box (∃ (k : Nat) (a : Option Addr) (c : Nat) (X : Sk), k ≤ 64 ∧ i = .int .i64 k ∧ Hid (okK X = true) ∧ SB wr w7.heap.size T9 a c X ∧ Below w8.heap.size w8 wr))
    (fun i _ => 64 - (intOf i).toNat)
  case atStart => exact ⟨⟨0, a9, c9, X, by omega, rfl, hokX, hX9, hb9⟩⟩
  case round =>
    obtain ⟨k, ax, cx, Y, hk, rfl, HOK, hY, hbel⟩ := hrel.out
    have hbwr := hbw8.trans (hbel.mono hbw8.size)
    obtain ⟨x0, x1⟩ := hY.box.cells
    by_cases hlt : k < 64
    · have cB := implSketchBump_any wr ax cx Y ⟨#[47, 97]⟩ hY.at (okK_sz HOK.out) (by decide) (HCT.out wr hbwr).2
      have hok' := bumpS_ok ⟨#[47, 97]⟩ HOK.out
      have hgh : (bumpS Y ⟨#[47, 97]⟩).added = 0 → guessS (bumpS Y ⟨#[47, 97]⟩) ⟨#[47, 97]⟩ ≤ 7 := guess_half _ _ HOK.out
      generalize bumpS Y ⟨#[47, 97]⟩ = Y' at cB hok' hgh
      have HOK' : Hid (okK Y' = true) := hok'
      have HGH : Hid (Y'.added = 0 → guessS Y' ⟨#[47, 97]⟩ ≤ 7) := hgh
      have hs8 : w7.heap.size ≤ wr.heap.size := Nat.le_trans h78 hbel.size
      clear hrel hX9 hb9 hok' hgh
      go_wp2_with fail
      refine cB.mono ?_
      rintro e w10 ⟨v10, rfl, ho10, hb10⟩
      obtain ⟨a10, c10, rfl, _⟩ := ho10.at
      obtain ⟨y0, y1, y2, y3, hY'⟩ := hY.put hb10 ho10 hs8
      have hbel' : Below w8.heap.size w8 ((w10.setCell ⟨T9, 0, none⟩ (.slice a10 Y'.rows.length c10)).setCell ⟨T9, 1, none⟩ (.int .i64 Y'.added)) := Below.put2 (hbel.trans (hb10.mono hbel.size)) (by omega) _ _
      obtain ⟨w11, hw11⟩ : ∃ x, (w10.setCell ⟨T9, 0, none⟩ (.slice a10 Y'.rows.length c10)).setCell ⟨T9, 1, none⟩ (.int .i64 Y'.added) = x := ⟨_, rfl⟩
      rw [hw11] at hY' hbel'
      have hbw11 := hbw8.trans (hbel'.mono hbw8.size)
      obtain ⟨z0, z1⟩ := hY'.box.cells
      have cG := implSketchGuess_any w11 a10 c10 Y' ⟨#[47, 97]⟩ hY'.at (by have := okK_sz HOK'.out; unfold SkSz at this; omega) (by decide) (HCT.out w11 hbw11).2
      have HW11 : Hid ((w10.setCell ⟨T9, 0, none⟩ (.slice a10 Y'.rows.length c10)).setCell ⟨T9, 1, none⟩ (.int .i64 Y'.added) = w11) := hw11
      have hYR : Hid (SB w11 w7.heap.size T9 a10 c10 Y' ∧ Below w8.heap.size w8 w11) := ⟨hY', hbel'⟩
      rw [← hw11] at z0 z1
      clear hw11 ho10 hb10 cB hY hY' hbel hbel' x0 x1 hbwr
      obtain ⟨yr, ya⟩ := Y'
      dsimp only at y0 y1 y2 y3 z0 z1 cG HW11 hYR HOK' HGH ⊢
      by_cases h0 : ya = 0
      · have hg7 := HGH.out h0
        subst h0
        generalize guessS ⟨yr, 0⟩ ⟨#[47, 97]⟩ = gg at cG hg7
        have hg8 : ¬ 7 < gg := by omega
        go_wp2_with fail
        rw [HW11.out]
        refine cG.mono ?_
        rintro e w12 ⟨rfl, hb12⟩
        have hY12 := hYR.out.1.on hb12
        have hbel12 := hYR.out.2.trans (hb12.mono hYR.out.2.size)
        clear cG z0 z1 y0 y1 y2 y3 HW11 hYR HGH
        go_wp2_with fail
        go_roundw
        case rel =>
          try ((repeat apply Exists.intro); refine ⟨?_, rfl⟩)
          exact ⟨⟨k + 1, a10, c10, ⟨yr, 0⟩, by omega, by go_num, HOK', hY12, hbel12⟩⟩
        case measure => simp [intOf]; omega
      · clear cG HGH
        go_wp2_with fail
        rw [HW11.out]
        go_roundw
        case rel =>
          try ((repeat apply Exists.intro); refine ⟨?_, rfl⟩)
          exact ⟨⟨k + 1, a10, c10, ⟨yr, ya⟩, by omega, by go_num, HOK', hYR.out.1, hYR.out.2⟩⟩
        case measure => simp [intOf]; omega
    · have hSr := hS8.on hbel
      have hAr := hA8.on hbel
      have hCr := hC8.on hbel
      have htr := (HCT.out wr hbwr).2
      obtain ⟨s0, s1⟩ := hSr.1.cells
      obtain ⟨p0, p1⟩ := hAr.1.cells
      obtain ⟨q0, q1⟩ := hCr.1.cells
      have hsl : S.rows.length ≤ 1048576 := by unfold SkSz at hsz; omega
      have hyl : Y.rows.length ≤ 1048576 := by have := okK_sz HOK.out; unfold SkSz at this; omega
      have R1 : ∀ {f : Nat} {args : Array Value} {v : Value}, (∀ wi, Below wr.heap.size wr wi → Calls Tryd.prog f args wi fun e w' => e = .returned v ∧ Below wi.heap.size wi w') → ∀ d os, Calls Tryd.prog f args (grow (redrawn wr d) os) fun e w'' => e = .returned v ∧ ∃ p : Regrown, w'' = grow (redrawn wr p.d) p.os := fun h d os => Calls.regrown_of (by have := h _ (below_regrown wr d os); simpa using this)
      have cSame := R1 (fun wi h => sameSketch_same wi a5 a6 c5 c6 RES (hAr.2.on h) (hCr.2.on h) hRsz)
      have cGI := R1 (fun wi h => implSketchGuess_any wi a c S key (hSr.2.on h) hsl (by omega) (htr.below h (Nat.le_refl _)))
      have cGS := R1 (fun wi h => specSketchGuess_any wi a c S key (hSr.2.on h) hsl (by omega))
      have cPI := R1 (fun wi h => implSketchPlace_any row kx wi (by omega) (htr.below h (Nat.le_refl _)))
      have cPS := R1 (fun wi h => specSketchPlace_any row kx wi (by omega))
      have cP1 := R1 (fun wi h => implSketchPlace_any 1 key wi (by omega) (htr.below h (Nat.le_refl _)))
      have cOX := R1 (fun wi h => implSketchOk_any wi ax cx Y (hY.at.on h) hyl)
      have cOI := R1 (fun wi h => implSketchOk_any wi a c S (hSr.2.on h) hsl)
      have cOS := R1 (fun wi h => specSketchOk_any wi a c S (hSr.2.on h) hsl)
      rw [HOK.out] at cOX
      have hp16 := placeS_lt 1 key
      generalize guessS S key = gg at cGI cGS
      generalize placeS row kx = pp at cPI cPS
      generalize placeS 1 key = p1k at cP1 hp16
      generalize okK S = ok at cOI cOS
      have hp1 : (0 : Int) ≤ (p1k : Int) := by omega
      have hp2 : (p1k : Int) < 16 := by omega
      have k0 := cell_regrown x0
      have k1 := cell_regrown x1
      have k2 := cell_regrown s0
      have k3 := cell_regrown s1
      have k4 := cell_regrown p0
      have k5 := cell_regrown p1
      have k6 := cell_regrown q0
      have k7 := cell_regrown q1
      clear hrel hX9 hb9 hS8 hA8 hC8 hSr hAr hCr htr R1 x0 x1 s0 s1 p0 p1 q0 q1 hY HCT
      have hend : (ok == ok) = true := by simp
      go_wp2
      refine wp_region_quiet_below (by kernel_rfl) (by kernel_rfl) ?_
      repeat (first | go_big_quiet_step (first | with_reducible exact cSame _ _ | with_reducible exact cGI _ _ | with_reducible exact cGS _ _ | with_reducible exact cPI _ _ | with_reducible exact cPS _ _ | with_reducible exact cP1 _ _ | with_reducible exact cOX _ _ | with_reducible exact cOI _ _ | with_reducible exact cOS _ _) | quiet_step (first | with_reducible exact cSame _ _ | with_reducible exact cGI _ _ | with_reducible exact cGS _ _ | with_reducible exact cPI _ _ | with_reducible exact cPS _ _ | with_reducible exact cP1 _ _ | with_reducible exact cOX _ _ | with_reducible exact cOI _ _ | with_reducible exact cOS _ _))
      refine wpQuiet_nil ?_
      intro _ hw'
      obtain ⟨⟨dq, osq⟩, hw''⟩ := hw'
      subst hw''
      go_wp2
      go_ret
      exact ⟨by simp, hbwr.trans ((below_regrown wr dq osq).mono hbwr.size)⟩
end Go.Proofs.YtifjjfjadcpmaaeDoor
