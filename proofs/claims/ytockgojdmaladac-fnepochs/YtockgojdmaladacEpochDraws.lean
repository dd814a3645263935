/- Epochs, and who is asked of them: drawn. Two that are the same are told to be so. -/
import Derived.Test.YtockgojdmaladacEpochAny
import Derived.Test.YtockgojdmaladacSameInts
import Derived.Laws.StructEq
namespace Go.Proofs.Ytockgojdmaladac
open Go.RowKit Go.Sort
set_option maxRecDepth 100000 in
set_option maxHeartbeats 4000000 in
theorem drawPinLook_any (w : World) (ca : Option Addr) (n cap : Nat) (hcode : CodeAt w ca n w.heap.size) (hn : n ≤ 1048576) :
    Calls Try.prog 32 #[.slice ca n cap] w fun e w' => ∃ (a1 : Option Addr) (c1 : Nat) (a2 : Option Addr) (c2 : Nat) (E : Ep) (x : Int), e = .returned (.tuple #[.agg #[.int .i64 E.now, .slice a1 E.pins.length c1, .slice a2 E.gone.length c2], .int .i64 x]) ∧ ETy w' a1 a2 E ∧ E.pins.length ≤ 100 ∧ E.gone.length ≤ 100 ∧ Below w.heap.size w w' := by
  obtain ⟨w1, hw1⟩ : ∃ x, w.alloc (.cells #[.int .i64 0, .slice none 0 0, .slice none 0 0] 50) = x := ⟨_, rfl⟩
  have hb1 : Below w.heap.size w w1 := by rw [← hw1]; exact (Below.refl _ _).alloc (Nat.le_refl _) _
  have hR1 : EBox w1 w.heap.size (.int .i64 0) (.slice none 0 0) (.slice none 0 0) := by rw [← hw1]; exact EBox.new _ _ _ _
  have hcode1 : CodeAt w1 ca n w1.heap.size := by
    intro j hj
    obtain ⟨b, off, z, h1, h2, h3, h4⟩ := hcode j hj
    exact ⟨b, off, z, h1, Nat.lt_of_lt_of_le h2 hb1.size, (hb1.cell h2).trans h3, h4⟩
  have c1 := new_any w1 ca n cap hcode1 hn
  have HW : Hid (w.alloc (.cells #[.int .i64 0, .slice none 0 0, .slice none 0 0] 50) = w1) := hw1
  clear hcode hcode1 hw1
  go_enter Try.func32, Try.ntmps32
  go_wp2_with fail
  rw [HW.out]
  refine c1.mono ?_
  rintro e w2 ⟨p, rfl, hp1, hp2, hcur, hcd, hb2⟩
  have c2 := l01Place_any w2 p ca n cap 3 hcur hcd hn (by omega) (by omega)
  clear c1
  go_wp2_with fail
  refine c2.mono ?_
  rintro e w3 ⟨z, _, _, rfl, hl3⟩
  have c3 := l08Any_any w3 p ca n cap hl3.1 hl3.2.1 hn
  clear c2 hcur hcd
  go_wp2_with fail
  refine c3.mono ?_
  rintro e w4 ⟨a1, c1, a2, c2', E, rfl, hty, hlp, hlg, hl4⟩
  have hb12 : Below w.heap.size w w2 := hb1.trans (hb2.mono hb1.size)
  have hl24 := hl3.trans hl4
  have hb14 : Below w.heap.size w w4 := below_of_left hb12 (by have := hb1.size; omega) hl24
  have hR4 : EBox w4 w.heap.size (.int .i64 0) (.slice none 0 0) (.slice none 0 0) := (hR1.on hb2).grownE hl24.2.2 (by have := hR1.lt; omega)
  obtain ⟨r0, r1, r2⟩ := hR4.cells
  obtain ⟨f0, f1, f2⟩ := (⟨hR4.thaw 0, hR4.thaw 1, hR4.thaw 2⟩ : _ ∧ _ ∧ _)
  have HO : Hid (ETy w4 a1 a2 E ∧ E.pins.length ≤ 100 ∧ E.gone.length ≤ 100 ∧ Below w.heap.size w w4) := ⟨hty, hlp, hlg, hb14⟩
  clear c3 hty hlp hlg hl3 hl4 hl24 hb12 hb14 hb1 hb2 hR1
  go_wp2_with fail
  obtain ⟨q0, q1, q2⟩ := (hR4.put (.int .i64 E.now) (.slice a1 E.pins.length c1) (.slice a2 E.gone.length c2')).cells
  refine bodyPost_ret (v := .tuple #[.agg #[.int .i64 E.now, .slice a1 E.pins.length c1, .slice a2 E.gone.length c2'], .int .i64 z]) (by simp [results, Try.results32, go_sem, q0, q1, q2]) rfl ⟨_, _, _, _, E, z, rfl, HO.out.1.put hR4 _ _ _, HO.out.2.1, HO.out.2.2.1, Below.put3 HO.out.2.2.2 (Nat.le_refl _) _ _ _⟩
set_option maxRecDepth 100000 in
set_option maxHeartbeats 4000000 in
theorem drawRetireNode_any (w : World) (ca : Option Addr) (n cap : Nat) (hcode : CodeAt w ca n w.heap.size) (hn : n ≤ 1048576) :
    Calls Try.prog 35 #[.slice ca n cap] w fun e w' => ∃ (a1 : Option Addr) (c1 : Nat) (a2 : Option Addr) (c2 : Nat) (E : Ep) (x : Int), e = .returned (.tuple #[.agg #[.int .i64 E.now, .slice a1 E.pins.length c1, .slice a2 E.gone.length c2], .int .i64 x]) ∧ ETy w' a1 a2 E ∧ E.pins.length ≤ 100 ∧ E.gone.length ≤ 100 ∧ Below w.heap.size w w' := by
  obtain ⟨w1, hw1⟩ : ∃ x, w.alloc (.cells #[.int .i64 0, .slice none 0 0, .slice none 0 0] 50) = x := ⟨_, rfl⟩
  have hb1 : Below w.heap.size w w1 := by rw [← hw1]; exact (Below.refl _ _).alloc (Nat.le_refl _) _
  have hR1 : EBox w1 w.heap.size (.int .i64 0) (.slice none 0 0) (.slice none 0 0) := by rw [← hw1]; exact EBox.new _ _ _ _
  have hcode1 : CodeAt w1 ca n w1.heap.size := by
    intro j hj
    obtain ⟨b, off, z, h1, h2, h3, h4⟩ := hcode j hj
    exact ⟨b, off, z, h1, Nat.lt_of_lt_of_le h2 hb1.size, (hb1.cell h2).trans h3, h4⟩
  have c1 := new_any w1 ca n cap hcode1 hn
  have HW : Hid (w.alloc (.cells #[.int .i64 0, .slice none 0 0, .slice none 0 0] 50) = w1) := hw1
  clear hcode hcode1 hw1
  go_enter Try.func35, Try.ntmps35
  go_wp2_with fail
  rw [HW.out]
  refine c1.mono ?_
  rintro e w2 ⟨p, rfl, hp1, hp2, hcur, hcd, hb2⟩
  have c2 := l01Place_any w2 p ca n cap 12 hcur hcd hn (by omega) (by omega)
  clear c1
  go_wp2_with fail
  refine c2.mono ?_
  rintro e w3 ⟨z, _, _, rfl, hl3⟩
  have c3 := l08Any_any w3 p ca n cap hl3.1 hl3.2.1 hn
  clear c2 hcur hcd
  go_wp2_with fail
  refine c3.mono ?_
  rintro e w4 ⟨a1, c1, a2, c2', E, rfl, hty, hlp, hlg, hl4⟩
  have hb12 : Below w.heap.size w w2 := hb1.trans (hb2.mono hb1.size)
  have hl24 := hl3.trans hl4
  have hb14 : Below w.heap.size w w4 := below_of_left hb12 (by have := hb1.size; omega) hl24
  have hR4 : EBox w4 w.heap.size (.int .i64 0) (.slice none 0 0) (.slice none 0 0) := (hR1.on hb2).grownE hl24.2.2 (by have := hR1.lt; omega)
  obtain ⟨r0, r1, r2⟩ := hR4.cells
  obtain ⟨f0, f1, f2⟩ := (⟨hR4.thaw 0, hR4.thaw 1, hR4.thaw 2⟩ : _ ∧ _ ∧ _)
  have HO : Hid (ETy w4 a1 a2 E ∧ E.pins.length ≤ 100 ∧ E.gone.length ≤ 100 ∧ Below w.heap.size w w4) := ⟨hty, hlp, hlg, hb14⟩
  clear c3 hty hlp hlg hl3 hl4 hl24 hb12 hb14 hb1 hb2 hR1
  go_wp2_with fail
  obtain ⟨q0, q1, q2⟩ := (hR4.put (.int .i64 E.now) (.slice a1 E.pins.length c1) (.slice a2 E.gone.length c2')).cells
  refine bodyPost_ret (v := .tuple #[.agg #[.int .i64 E.now, .slice a1 E.pins.length c1, .slice a2 E.gone.length c2'], .int .i64 z]) (by simp [results, Try.results35, go_sem, q0, q1, q2]) rfl ⟨_, _, _, _, E, z, rfl, HO.out.1.put hR4 _ _ _, HO.out.2.1, HO.out.2.2.1, Below.put3 HO.out.2.2.2 (Nat.le_refl _) _ _ _⟩
set_option maxRecDepth 100000 in
theorem gone_neq (f : Int × Int) (w : World) : (binOp .neq 101 (.agg #[.int .i64 f.1, .int .i64 f.2]) (.agg #[.int .i64 f.1, .int .i64 f.2])).run Try.prog w = .ok (.bool false) w := by
  have h0 := Try.underlying101
  have h2 : Try.prog.stoodInHeld 101 = false := by kernel_rfl
  rw [run_neq_struct, run_equalIn_agg w 9999 101 _ _ (by unfold Program.fieldsOf; rw [h0]) h2]
  simp [go_sem, h0, Op.eqFields]
set_option maxRecDepth 100000 in
set_option maxHeartbeats 4000000 in
theorem sameEpochs_same (w : World) (a1 a2 b1 b2 : Option Addr) (c1 c2 d1 d2 : Nat) (E : Ep) (hA : EAt w a1 a2 E w.heap.size) (hB : EAt w b1 b2 E w.heap.size) (hm : E.pins.length ≤ 1048576) (hm' : E.gone.length ≤ 1048577) :
    Calls Try.prog 39 #[.agg #[.int .i64 E.now, .slice a1 E.pins.length c1, .slice a2 E.gone.length c2], .agg #[.int .i64 E.now, .slice b1 E.pins.length d1, .slice b2 E.gone.length d2]] w fun e w' => e = .returned (.bool true) ∧ Below w.heap.size w w' := by
  obtain ⟨now, pins, gone⟩ := E
  dsimp only at *
  obtain ⟨w0, hw0⟩ : ∃ x, w.alloc (.cells #[.int .i64 now, .slice a1 pins.length c1, .slice a2 gone.length c2] 50) = x := ⟨_, rfl⟩
  obtain ⟨w1, hw1⟩ : ∃ x, w0.alloc (.cells #[.int .i64 now, .slice b1 pins.length d1, .slice b2 gone.length d2] 50) = x := ⟨_, rfl⟩
  have hb0 : Below w.heap.size w w0 := by rw [← hw0]; exact (Below.refl _ _).alloc (Nat.le_refl _) _
  have hb1 : Below w0.heap.size w0 w1 := by rw [← hw1]; exact (Below.refl _ _).alloc (Nat.le_refl _) _
  have s0 : w0.heap.size = w.heap.size + 1 := by rw [← hw0]; simp
  have hX : EBox w1 w.heap.size (.int .i64 now) (.slice a1 pins.length c1) (.slice a2 gone.length c2) := by
    have h : EBox w0 w.heap.size (.int .i64 now) (.slice a1 pins.length c1) (.slice a2 gone.length c2) := by rw [← hw0]; exact EBox.new _ _ _ _
    exact h.on hb1
  have hY : EBox w1 (w.heap.size + 1) (.int .i64 now) (.slice b1 pins.length d1) (.slice b2 gone.length d2) := by rw [← hw1, ← s0]; exact EBox.new _ _ _ _
  have hbw : Below w.heap.size w w1 := hb0.trans (hb1.mono hb0.size)
  obtain ⟨x0, x1, x2⟩ := hX.cells
  obtain ⟨y0, y1, y2⟩ := hY.cells
  have HW : Hid ((w.alloc (.cells #[.int .i64 now, .slice a1 pins.length c1, .slice a2 gone.length c2] 50)).alloc (.cells #[.int .i64 now, .slice b1 pins.length d1, .slice b2 gone.length d2] 50) = w1) := by rw [hw0]; exact hw1
  have e1 := sameInts_same w1 a1 b1 c1 d1 pins (hA.1.on hbw) (hB.1.on hbw) hm
  rw [← hw1, ← hw0] at x0 x1 x2 y0 y1 y2
  have hnn : (now != now) = false := by simp
  have hgg : ((gone.length : Int) != (gone.length : Int)) = false := by simp
  clear hw0 hw1 s0 hb0 hb1
  go_enter Try.func39, Try.ntmps39
  go_wp2_with fail
  rw [HW.out] at x0 x1 x2 y0 y1 y2 ⊢
  refine e1.mono ?_
  rintro e w2 ⟨rfl, hb2⟩
  clear e1 x0 x1 x2 y0 y1 y2 HW
  have hbw2 := hbw.trans (hb2.mono hbw.size)
  obtain ⟨x0, x1, x2⟩ := (hX.on hb2).cells
  obtain ⟨y0, y1, y2⟩ := (hY.on hb2).cells
  have hP := hA.2.on hbw2
  have hQ := hB.2.on hbw2
  clear hX hY hA hB hb2 hbw
  go_wp2_with fail
  go_loopw [5] (fun i wr => Box (∃ (k nq : Nat), k ≤ gone.length ∧ i = .int .i64 k ∧ wr = w2.drewN nq))
    (fun i _ => gone.length - (intOf i).toNat)
  case atStart => exact ⟨⟨0, 0, by omega, rfl, rfl⟩⟩
  case round =>
    obtain ⟨k, nq, hk, rfl, hwr⟩ := hrel.out
    clear hrel
    rw [hwr]
    clear hwr
    by_cases hlt : k < gone.length
    · obtain ⟨g, off, ha, _, p0, p1⟩ := hP k hlt
      obtain ⟨g', off', hb', _, q0, q1⟩ := hQ k hlt
      obtain ⟨f, hf⟩ : ∃ f, gone[k] = f := ⟨_, rfl⟩
      rw [hf] at p0 p1 q0 q1
      have hne := gone_neq f
      subst ha hb'
      clear hP hQ hf
      have hi1 : (0 : Int) ≤ (k : Int) := by omega
      have hi2 : (k : Int) < (gone.length : Int) := by omega
      go_wp2_with fail
      go_quiet (fail)
      go_wp2_with fail
      go_roundw
      case rel =>
        try ((repeat apply Exists.intro); refine ⟨?_, rfl⟩)
        exact ⟨⟨k + 1, _, by omega, by go_num, by first | rfl | trivial⟩⟩
      case measure => simp [intOf]; omega
    · have hi2 : ¬ (k : Int) < (gone.length : Int) := by omega
      go_wp2_with fail
      go_ret
      exact ⟨rfl, hbw2.trans ⟨rfl, rfl, rfl, Nat.le_refl _, fun _ _ => rfl⟩⟩
end Go.Proofs.Ytockgojdmaladac
