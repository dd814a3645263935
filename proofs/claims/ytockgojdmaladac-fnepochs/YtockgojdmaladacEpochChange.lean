/- The program's changePin. Written by mkepoch.py. -/
import Derived.Test.YtockgojdmaladacLooksImpl
import Derived.Test.YtockgojdmaladacEpochOkImpl
import Derived.Deep.RegionHeld3
namespace Go.Proofs.Ytockgojdmaladac
open Go.RowKit Go.Sort
def chE (E : Ep) (who pin : Int) (lk : Bool) : Ep × Bool := if (okE E && whoE E who && ((!decide (E.pins.getD who.toNat 0 = 0)) == lk)) = true then ({ E with pins := E.pins.set who.toNat pin }, true) else (E, false)
theorem chE_pin (E : Ep) (who : Int) : chE E who (E.now + 1) false = pinE E who := by
  unfold chE pinE
  cases okE E <;> cases whoE E who <;> cases decide (E.pins.getD who.toNat 0 = 0) <;> rfl
theorem chE_unpin (E : Ep) (who : Int) : chE E who 0 true = unpinE E who := by
  unfold chE unpinE
  cases okE E <;> cases whoE E who <;> cases decide (E.pins.getD who.toNat 0 = 0) <;> rfl
theorem chE_at {now : Int} {pins : List Int} {gone : List (Int × Int)} {n : Nat} {pin : Int} {lk : Bool} (h : okE ⟨now, pins, gone⟩ = true) (hn : n < pins.length) : chE ⟨now, pins, gone⟩ (n : Int) pin lk = if ((!decide (pins[n] = 0)) == lk) = true then (⟨now, pins.set n pin, gone⟩, true) else (⟨now, pins, gone⟩, false) := by
  unfold chE whoE
  by_cases e : pins[n] = 0 <;> cases lk <;> simp [h, hn, e]
theorem chE_pinW (E : Ep) (who : Int) : chE E who (IntKind.i64.wrap (E.now + 1)) false = pinE E who := by
  rw [← chE_pin]
  cases h : okE E with
  | false => unfold chE; rw [h]; rfl
  | true =>
    have := (okE_len (now := E.now) (pins := E.pins) (gone := E.gone) h).2.2
    rw [show IntKind.i64.wrap (E.now + 1) = E.now + 1 by rw [IntKind.wrap_i64]; omega]
theorem pinFromW_any (x : Int) (w : World) :
    Calls Try.prog 71 #[.int .i64 x] w fun e w' => e = .returned (.int .i64 (IntKind.i64.wrap (x + 1))) ∧ w' = w := by
  obtain ⟨y, hy⟩ : ∃ y, IntKind.i64.wrap (x + 1) = y := ⟨_, rfl⟩
  rw [hy]
  go_enter Try.func71, Try.ntmps71
  go_wp2
  go_ret
  exact ⟨rfl, rfl⟩
set_option maxRecDepth 100000 in
set_option maxHeartbeats 4000000 in
theorem changePin_any (w : World) (pa ga : Option Addr) (pc gc : Nat) (E : Ep) (who pin : Int) (lk : Bool) (hE : EAt w pa ga E w.heap.size) (hm : E.pins.length ≤ 1048576) (hm' : E.gone.length ≤ 1048576) :
    Calls Try.prog 70 #[.agg #[.int .i64 E.now, .slice pa E.pins.length pc, .slice ga E.gone.length gc], .int .i64 who, .int .i64 pin, .bool lk] w fun e w' => ∃ v, e = .returned (.tuple #[v, .bool (chE E who pin lk).2]) ∧ EOwn w' w.heap.size v (chE E who pin lk).1 ∧ Below w.heap.size w w' := by
  obtain ⟨now, pins, gone⟩ := E
  dsimp only at hE hm hm' ⊢
  obtain ⟨w0, hw0⟩ : ∃ x, w.alloc (.cells #[.int .i64 now, .slice pa pins.length pc, .slice ga gone.length gc] 50) = x := ⟨_, rfl⟩
  obtain ⟨w1, hw1⟩ : ∃ x, w0.alloc (.cells #[.int .i64 0, .slice none 0 0, .slice none 0 0] 50) = x := ⟨_, rfl⟩
  have hb0 : Below w.heap.size w w0 := by rw [← hw0]; exact (Below.refl _ _).alloc (Nat.le_refl _) _
  have hb1 : Below w0.heap.size w0 w1 := by rw [← hw1]; exact (Below.refl _ _).alloc (Nat.le_refl _) _
  have s0 : w0.heap.size = w.heap.size + 1 := by rw [← hw0]; simp
  have s1 : w1.heap.size = w.heap.size + 2 := by rw [← hw1]; simp; omega
  have hB : EBox w1 w.heap.size (.int .i64 now) (.slice pa pins.length pc) (.slice ga gone.length gc) := by
    have h : EBox w0 w.heap.size (.int .i64 now) (.slice pa pins.length pc) (.slice ga gone.length gc) := by rw [← hw0]; exact EBox.new _ _ _ _
    exact h.on hb1
  have hR : EBox w1 (w.heap.size + 1) (.int .i64 0) (.slice none 0 0) (.slice none 0 0) := by rw [← hw1, ← s0]; exact EBox.new _ _ _ _
  have hBw : Below w.heap.size w w1 := hb0.trans (hb1.mono hb0.size)
  have HW : Hid ((w.alloc (.cells #[.int .i64 now, .slice pa pins.length pc, .slice ga gone.length gc] 50)).alloc (.cells #[.int .i64 0, .slice none 0 0, .slice none 0 0] 50) = w1) := by rw [hw0]; exact hw1
  have HX : Hid (∀ wi, Below w1.heap.size w1 wi → EBox wi w.heap.size (.int .i64 now) (.slice pa pins.length pc) (.slice ga gone.length gc) ∧ EBox wi (w.heap.size + 1) (.int .i64 0) (.slice none 0 0) (.slice none 0 0) ∧ EAt wi pa ga ⟨now, pins, gone⟩ wi.heap.size ∧ Below w.heap.size w wi) := fun wi hi => ⟨hB.on hi, hR.on hi, (hE.on hBw).on hi, hBw.trans (hi.mono hBw.size)⟩
  have HS1 : Hid (w1.heap.size = w.heap.size + 2) := s1
  have c0 := epochsCopy_any w1 pa ga pc gc ⟨now, pins, gone⟩ (hE.on hBw) hm hm'
  obtain ⟨b0, b1, b2⟩ := hB.cells
  clear hw0 hw1 hb0 hb1 hB hR s0 s1 hE hBw
  go_enter Try.func70, Try.ntmps70
  go_wp2_with fail
  rw [HW.out]
  refine c0.mono ?_
  rintro e w2 ⟨v0, rfl, ho, hb2⟩
  obtain ⟨p2, pc2, g2, gc2, rfl, hA2⟩ := ho.at
  clear c0 b0 b1 b2
  dsimp only at hA2 ⊢
  obtain ⟨w3, hw3⟩ : ∃ x, w2.alloc (.cells #[.int .i64 now, .slice p2 pins.length pc2, .slice g2 gone.length gc2] 50) = x := ⟨_, rfl⟩
  have hb3 : Below w2.heap.size w2 w3 := by rw [← hw3]; exact (Below.refl _ _).alloc (Nat.le_refl _) _
  have hb23 : Below w1.heap.size w1 w3 := hb2.trans (hb3.mono hb2.size)
  have hT : EBox w3 w2.heap.size (.int .i64 now) (.slice p2 pins.length pc2) (.slice g2 gone.length gc2) := by rw [← hw3]; exact EBox.new _ _ _ _
  have ho3 := ho.below hb3 (Nat.le_refl _)
  have HW3 : Hid (w2.alloc (.cells #[.int .i64 now, .slice p2 pins.length pc2, .slice g2 gone.length gc2] 50) = w3) := hw3
  obtain ⟨hB3, hR3, hE3, hw3b⟩ := HX.out w3 hb23
  obtain ⟨b0, b1, b2⟩ := hB3.cells
  have hsz : w.heap.size + 2 ≤ w2.heap.size := by rw [← HS1.out]; exact hb2.size
  clear hw3
  have cO := implEpochsOk_any w3 pa ga pc gc ⟨now, pins, gone⟩ hE3 hm hm'
  rw [← HW3.out] at b0 b1 b2
  go_wp2_with fail
  rw [HW3.out] at b0 b1 b2 ⊢
  refine cO.mono ?_
  rintro e w4 ⟨rfl, hb4⟩
  clear cO
  have hb14 : Below w1.heap.size w1 w4 := hb23.trans (hb4.mono hb23.size)
  obtain ⟨hB4, hR4, hE4, hw4b⟩ := HX.out w4 hb14
  have hT4 := hT.on hb4
  have ho4 := ho3.below hb4 (Nat.le_refl _)
  clear b0 b1 b2 hB3 hR3 hE3 hw3b hT ho3 ho hA2 hb3 hb23 hb4 HW3 HW
  obtain ⟨t0, t1, t2⟩ := hT4.cells
  obtain ⟨r0, r1, r2⟩ := hR4.cells
  obtain ⟨f0, f1, f2⟩ := (⟨hR4.thaw 0, hR4.thaw 1, hR4.thaw 2⟩ : _ ∧ _ ∧ _)
  obtain ⟨b0, b1, b2⟩ := hB4.cells
  cases hok : okE ⟨now, pins, gone⟩ with
  | false =>
    have HP : Hid (chE ⟨now, pins, gone⟩ who pin lk = (⟨now, pins, gone⟩, false)) := by show _ = _; unfold chE; rw [hok]; rfl
    clear hok
    go_wp2_with fail
    obtain ⟨q0, q1, q2⟩ := (hR4.put (.int .i64 now) (.slice p2 pins.length pc2) (.slice g2 gone.length gc2)).cells
    refine bodyPost_ret (v := .tuple #[.agg #[(.int .i64 now), (.slice p2 pins.length pc2), (.slice g2 gone.length gc2)], .bool false]) (by simp [results, Try.results70, go_sem, q0, q1, q2]) rfl ⟨_, by rw [HP.out], ?_, Below.put3 hw4b (by have := HS1.out; omega) _ _ _⟩
    rw [HP.out]
    exact ((ho4).put hR4 _ _ _).mono (by have := HS1.out; omega)
  | true =>
    have hlen : pins.length ≤ 4 := (okE_len hok).1
    by_cases h0 : who < 0
    case pos =>
      have HP : Hid (chE ⟨now, pins, gone⟩ who pin lk = (⟨now, pins, gone⟩, false)) := by show _ = _; unfold chE whoE; rw [hok, decide_eq_false (show ¬ (0 ≤ who ∧ who < (pins.length : Int)) by omega)]; rfl
      have d0 : decide (who < 0) = true := decide_eq_true h0
      clear hok
      go_wp2_with fail
      obtain ⟨q0, q1, q2⟩ := (hR4.put (.int .i64 now) (.slice p2 pins.length pc2) (.slice g2 gone.length gc2)).cells
      refine bodyPost_ret (v := .tuple #[.agg #[(.int .i64 now), (.slice p2 pins.length pc2), (.slice g2 gone.length gc2)], .bool false]) (by simp [results, Try.results70, go_sem, q0, q1, q2]) rfl ⟨_, by rw [HP.out], ?_, Below.put3 hw4b (by have := HS1.out; omega) _ _ _⟩
      rw [HP.out]
      exact ((ho4).put hR4 _ _ _).mono (by have := HS1.out; omega)
    case neg =>
    have d0 : decide (who < 0) = false := decide_eq_false h0
    by_cases h1 : (pins.length : Int) ≤ who
    case pos =>
      have HP : Hid (chE ⟨now, pins, gone⟩ who pin lk = (⟨now, pins, gone⟩, false)) := by show _ = _; unfold chE whoE; rw [hok, decide_eq_false (show ¬ (0 ≤ who ∧ who < (pins.length : Int)) by omega)]; rfl
      have d1 : decide ((pins.length : Int) ≤ who) = true := decide_eq_true h1
      clear hok
      go_wp2_with fail
      obtain ⟨q0, q1, q2⟩ := (hR4.put (.int .i64 now) (.slice p2 pins.length pc2) (.slice g2 gone.length gc2)).cells
      refine bodyPost_ret (v := .tuple #[.agg #[(.int .i64 now), (.slice p2 pins.length pc2), (.slice g2 gone.length gc2)], .bool false]) (by simp [results, Try.results70, go_sem, q0, q1, q2]) rfl ⟨_, by rw [HP.out], ?_, Below.put3 hw4b (by have := HS1.out; omega) _ _ _⟩
      rw [HP.out]
      exact ((ho4).put hR4 _ _ _).mono (by have := HS1.out; omega)
    case neg =>
    have d1 : decide ((pins.length : Int) ≤ who) = false := decide_eq_false h1
    obtain ⟨n, rfl⟩ : ∃ n : Nat, who = n := ⟨who.toNat, by omega⟩
    have hn : n < pins.length := by omega
    have cL := looksOf_any w4 pa pc pins hE4.1 (by omega) hlen
    have HAT : Hid (chE ⟨now, pins, gone⟩ (n : Int) pin lk = if ((!decide (pins[n] = 0)) == lk) = true then (⟨now, pins.set n pin, gone⟩, true) else (⟨now, pins, gone⟩, false)) := chE_at hok hn
    clear hok
    go_wp2_with fail
    refine cL.mono ?_
    rintro e w5 ⟨rfl, hb5⟩
    clear cL t0 t1 t2 r0 r1 r2 f0 f1 f2 b0 b1 b2
    obtain ⟨w6, hw6⟩ : ∃ x, w5.alloc (.cells #[.int .i64 (pins.getD 0 0), .int .i64 (pins.getD 1 0), .int .i64 (pins.getD 2 0), .int .i64 (pins.getD 3 0), .int .i64 pins.length] 121) = x := ⟨_, rfl⟩
    have hb6 : Below w5.heap.size w5 w6 := by rw [← hw6]; exact (Below.refl _ _).alloc (Nat.le_refl _) _
    have hb46 : Below w4.heap.size w4 w6 := hb5.trans (hb6.mono hb5.size)
    have hL6 : LBox w6 w5.heap.size (pins.getD 0 0) (pins.getD 1 0) (pins.getD 2 0) (pins.getD 3 0) pins.length := by rw [← hw6]; exact LBox.new _ _ _ _ _ _
    obtain ⟨l0, l1, l2, l3, l4⟩ := hL6.cells
    have cK := looking_any w6 (pins.getD 0 0) (pins.getD 1 0) (pins.getD 2 0) (pins.getD 3 0) pins.length n (by omega) _ (looking_pins hlen hn)
    have HW6 : Hid (w5.alloc (.cells #[.int .i64 (pins.getD 0 0), .int .i64 (pins.getD 1 0), .int .i64 (pins.getD 2 0), .int .i64 (pins.getD 3 0), .int .i64 pins.length] 121) = w6) := hw6
    have HPUT := put4_set pins n pin hlen hn
    have cW := fun W => looksWith_any W (pins.getD 0 0) (pins.getD 1 0) (pins.getD 2 0) (pins.getD 3 0) pins.length pin n (by omega)
    rw [HPUT] at cW
    dsimp only at cW
    have cS := fun W => looksList_any W (pins.set n pin) (by rw [List.length_set]; exact hlen)
    rw [List.length_set] at cS
    have HCS : Hid _ := cS
    have HCW : Hid _ := cW
    rw [← hw6] at l0 l1 l2 l3 l4
    clear hw6 HPUT cS cW
    generalize pins.getD 0 0 = p0 at *
    generalize pins.getD 1 0 = p1 at *
    generalize pins.getD 2 0 = p2' at *
    generalize pins.getD 3 0 = p3 at *
    go_wp2_with fail
    rw [HW6.out] at l0 l1 l2 l3 l4 ⊢
    refine cK.mono ?_
    rintro e w7 ⟨rfl, hb7⟩
    clear cK l0 l1 l2 l3 l4
    have hb47 : Below w4.heap.size w4 w7 := hb46.trans (hb7.mono hb46.size)
    have hT7 := hT4.on hb47
    have hR7 := hR4.on hb47
    have ho7 := ho4.below hb47 (Nat.le_refl _)
    have hw7b : Below w.heap.size w w7 := hw4b.trans (hb47.mono hw4b.size)
    obtain ⟨l0, l1, l2, l3, l4⟩ := (hL6.on hb7).cells
    obtain ⟨t0, t1, t2⟩ := hT7.cells
    obtain ⟨r0, r1, r2⟩ := hR7.cells
    obtain ⟨f0, f1, f2⟩ := (⟨hR7.thaw 0, hR7.thaw 1, hR7.thaw 2⟩ : _ ∧ _ ∧ _)
    obtain ⟨z, hz⟩ : ∃ z, (!decide (pins[n] = 0)) = z := ⟨_, rfl⟩
    rw [hz] at HAT ⊢
    clear hz hb5 hb6 hb46 hL6 hb7
    by_cases hzl : z = lk
    case neg =>
      have HP : Hid (chE ⟨now, pins, gone⟩ (n : Int) pin lk = (⟨now, pins, gone⟩, false)) := by show _ = _; rw [HAT.out, if_neg (by simpa using hzl)]
      have hzl' : (z != lk) = true := by simpa using hzl
      have hzl'' : (z == lk) = false := by simpa using hzl
      clear hzl
      clear HCS HCW
      go_wp2_with fail
      obtain ⟨q0, q1, q2⟩ := (hR7.put (.int .i64 now) (.slice p2 pins.length pc2) (.slice g2 gone.length gc2)).cells
      refine bodyPost_ret (v := .tuple #[.agg #[(.int .i64 now), (.slice p2 pins.length pc2), (.slice g2 gone.length gc2)], .bool false]) (by simp [results, Try.results70, go_sem, q0, q1, q2]) rfl ⟨_, by rw [HP.out], ?_, Below.put3 hw7b (by have := HS1.out; omega) _ _ _⟩
      rw [HP.out]
      exact ((ho7).put hR7 _ _ _).mono (by have := HS1.out; omega)
    case pos =>
      subst hzl
      have HP : Hid (chE ⟨now, pins, gone⟩ (n : Int) pin z = (⟨now, pins.set n pin, gone⟩, true)) := by show _ = _; rw [HAT.out, if_pos (by simp)]
      have cW := HCW.out w7
      go_wp2_with fail
      refine cW.mono ?_
      rintro e w8 ⟨rfl, hb8⟩
      have cS := HCS.out w8
      clear cW
      go_wp2_with fail
      refine cS.mono ?_
      rintro e w9 ⟨v9, rfl, ho9, hb9⟩
      obtain ⟨a9, c9, hv9, _⟩ := ho9.ints
      rw [List.length_set] at hv9
      subst hv9
      have hb79 : Below w7.heap.size w7 w9 := hb8.trans (hb9.mono hb8.size)
      have hT9 := hT7.on hb79
      have hR9 := hR7.on hb79
      have hw9 : Below w.heap.size w w9 := hw7b.trans (hb79.mono hw7b.size)
      obtain ⟨hoP9, hoG9⟩ := (ho7.below hb79 (Nat.le_refl _)).parts
      have hRT : ¬ (w.heap.size + 1 = w2.heap.size) := by omega
      have hTR : ¬ (w2.heap.size = w.heap.size + 1) := by omega
      have hsz7 : w1.heap.size ≤ w8.heap.size := Nat.le_trans hb14.size (Nat.le_trans hb47.size hb8.size)
      have x1 := hT9.cells.2.1
      have xf := hT9.thaw 1
      obtain ⟨y0, y1, y2⟩ := (hT9.set1 (.slice a9 pins.length c9)).cells
      have hR9' := hR9.far 1 (.slice a9 pins.length c9) hRT
      obtain ⟨z0, z1, z2⟩ := hR9'.cells
      obtain ⟨zf0, zf1, zf2⟩ := (⟨hR9'.thaw 0, hR9'.thaw 1, hR9'.thaw 2⟩ : _ ∧ _ ∧ _)
      have hw9' : Below w.heap.size w (w9.setCell ⟨w2.heap.size, 1, none⟩ (.slice a9 pins.length c9)) := hw9.setCell (show w.heap.size ≤ w2.heap.size by omega) _
      have HO9 : Hid (EOwn (w9.setCell ⟨w2.heap.size, 1, none⟩ (.slice a9 pins.length c9)) w1.heap.size (.agg #[.int .i64 now, .slice a9 pins.length c9, .slice g2 gone.length gc2]) ⟨now, pins.set n pin, gone⟩) := EOwn.mk ((ho9.mono hsz7).far hT9 1 _) (hoG9.far hT9 1 _)
      clear cS ho9 hoP9 hoG9 hT9 hR9 hb79 hb8 hb9 t0 t1 t2 r0 r1 r2 f0 f1 f2 l0 l1 l2 l3 l4 hT7 hR7 ho7 HCS HCW
      go_wp2_with fail
      obtain ⟨q0, q1, q2⟩ := (hR9'.put (.int .i64 now) (.slice a9 pins.length c9) (.slice g2 gone.length gc2)).cells
      refine bodyPost_ret (v := .tuple #[.agg #[(.int .i64 now), (.slice a9 pins.length c9), (.slice g2 gone.length gc2)], .bool true]) (by simp [results, Try.results70, go_sem, q0, q1, q2]) rfl ⟨_, by rw [HP.out], ?_, Below.put3 hw9' (by have := HS1.out; omega) _ _ _⟩
      rw [HP.out]
      exact ((HO9.out).put hR9' _ _ _).mono (by have := HS1.out; omega)
set_option maxRecDepth 100000 in
set_option maxHeartbeats 4000000 in
theorem implPinLook_any (w : World) (pa ga : Option Addr) (pc gc : Nat) (E : Ep) (who : Int) (hE : EAt w pa ga E w.heap.size) (hm : E.pins.length ≤ 1048576) (hm' : E.gone.length ≤ 1048576) :
    Calls Try.prog 26 #[.agg #[.int .i64 E.now, .slice pa E.pins.length pc, .slice ga E.gone.length gc], .int .i64 who] w fun e w' => ∃ v, e = .returned (.tuple #[v, .bool (pinE E who).2]) ∧ EOwn w' w.heap.size v (pinE E who).1 ∧ Below w.heap.size w w' := by
  rw [show pinE E who = chE E who (IntKind.i64.wrap (E.now + 1)) false from (chE_pinW E who).symm]
  obtain ⟨now, pins, gone⟩ := E
  dsimp only at hE hm hm' ⊢
  obtain ⟨w0, hw0⟩ : ∃ x, w.alloc (.cells #[.int .i64 now, .slice pa pins.length pc, .slice ga gone.length gc] 50) = x := ⟨_, rfl⟩
  obtain ⟨w1, hw1⟩ : ∃ x, w0.alloc (.cells #[.int .i64 0, .slice none 0 0, .slice none 0 0] 50) = x := ⟨_, rfl⟩
  have hb0 : Below w.heap.size w w0 := by rw [← hw0]; exact (Below.refl _ _).alloc (Nat.le_refl _) _
  have hb1 : Below w0.heap.size w0 w1 := by rw [← hw1]; exact (Below.refl _ _).alloc (Nat.le_refl _) _
  have s0 : w0.heap.size = w.heap.size + 1 := by rw [← hw0]; simp
  have s1 : w1.heap.size = w.heap.size + 2 := by rw [← hw1]; simp; omega
  have hB : EBox w1 w.heap.size (.int .i64 now) (.slice pa pins.length pc) (.slice ga gone.length gc) := by
    have h : EBox w0 w.heap.size (.int .i64 now) (.slice pa pins.length pc) (.slice ga gone.length gc) := by rw [← hw0]; exact EBox.new _ _ _ _
    exact h.on hb1
  have hR : EBox w1 (w.heap.size + 1) (.int .i64 0) (.slice none 0 0) (.slice none 0 0) := by rw [← hw1, ← s0]; exact EBox.new _ _ _ _
  have hBw : Below w.heap.size w w1 := hb0.trans (hb1.mono hb0.size)
  have HW : Hid ((w.alloc (.cells #[.int .i64 now, .slice pa pins.length pc, .slice ga gone.length gc] 50)).alloc (.cells #[.int .i64 0, .slice none 0 0, .slice none 0 0] 50) = w1) := by rw [hw0]; exact hw1
  have HX : Hid (∀ wi, Below w1.heap.size w1 wi → EBox wi w.heap.size (.int .i64 now) (.slice pa pins.length pc) (.slice ga gone.length gc) ∧ EBox wi (w.heap.size + 1) (.int .i64 0) (.slice none 0 0) (.slice none 0 0) ∧ EAt wi pa ga ⟨now, pins, gone⟩ wi.heap.size ∧ Below w.heap.size w wi) := fun wi hi => ⟨hB.on hi, hR.on hi, (hE.on hBw).on hi, hBw.trans (hi.mono hBw.size)⟩
  have HS1 : Hid (w1.heap.size = w.heap.size + 2) := s1
  obtain ⟨b0, b1, b2⟩ := hB.cells
  clear hw0 hw1 hb0 hb1 hB hR s0 s1 hE hBw
  obtain ⟨RES, hRES⟩ : ∃ x, chE ⟨now, pins, gone⟩ who (IntKind.i64.wrap (now + 1)) false = x := ⟨_, rfl⟩
  have HC : Hid (∀ wi, Below w1.heap.size w1 wi → Calls Try.prog 70 #[.agg #[.int .i64 now, .slice pa pins.length pc, .slice ga gone.length gc], .int .i64 who, .int .i64 (IntKind.i64.wrap (now + 1)), .bool false] wi fun e w' => ∃ v, e = .returned (.tuple #[v, .bool RES.2]) ∧ EOwn w' wi.heap.size v RES.1 ∧ Below wi.heap.size wi w') := by
    intro wi hi
    rw [← hRES]
    exact changePin_any wi pa ga pc gc ⟨now, pins, gone⟩ who (IntKind.i64.wrap (now + 1)) false (HX.out wi hi).2.2.1 hm hm'
  rw [hRES]
  clear hRES
  have KS : ∀ W, Below (w.heap.size + 1) w1 W → Below (w.heap.size + 1) w1 W ∧ W.cell? ⟨w.heap.size, 0, none⟩ = some (.int .i64 now) ∧ W.cell? ⟨w.heap.size, 1, none⟩ = some (.slice pa pins.length pc) ∧ W.cell? ⟨w.heap.size, 2, none⟩ = some (.slice ga gone.length gc) := by
    intro W hW
    exact ⟨hW, (hW.cell (by simp)).trans b0, (hW.cell (by simp)).trans b1, (hW.cell (by simp)).trans b2⟩
  have hn1 : w.heap.size + 1 ≤ w1.heap.size := by have := HS1.out; omega
  have hdf : Below w1.heap.size w1 w1.drew := ⟨rfl, rfl, rfl, Nat.le_refl _, fun _ _ => rfl⟩
  go_enter Try.func26, Try.ntmps26
  go_wp2_with fail
  rw [HW.out]
  go_region_held3 (fun W => Below (w.heap.size + 1) w1 W ∧ W.cell? ⟨w.heap.size, 0, none⟩ = some (.int .i64 now) ∧ W.cell? ⟨w.heap.size, 1, none⟩ = some (.slice pa pins.length pc) ∧ W.cell? ⟨w.heap.size, 2, none⟩ = some (.slice ga gone.length gc)) (first | exact KS _ (by first | exact hdf.mono hn1 | exact fA.mono hn1 | exact (((fA.mono hn1).setCell (Nat.le_refl _) _).setCell (Nat.le_refl _) _).setCell (Nat.le_refl _) _))
    (first
      | (go_at_call 71; refine (pinFromW_any now _).mono ?_; rintro e w4 ⟨rfl, rfl⟩)
      | (go_at_call 70; refine (HC.out _ hdf).mono ?_; rintro e w5 ⟨v5, rfl, ho5, hb5⟩; have fA : Below w1.heap.size w1 w5 := hdf.trans (hb5.mono hdf.size); obtain ⟨a5, c5, g5, d5, rfl, _⟩ := ho5.at; obtain ⟨r0, r1, r2⟩ := (HX.out _ fA).2.1.cells; have hR5 := (HX.out _ fA).2.1; have f0 := hR5.thaw 0; have f1 := hR5.thaw 1; have f2 := hR5.thaw 2))
  have HO5 : Hid (EOwn w5 w1.heap.size (.agg #[.int .i64 RES.1.now, .slice a5 RES.1.pins.length c5, .slice g5 RES.1.gone.length d5]) RES.1) := ho5
  have hw5 := (HX.out _ fA).2.2.2
  clear ho5 hb5 fA HC
  go_wp2_with fail
  obtain ⟨q0, q1, q2⟩ := (hR5.put (.int .i64 RES.1.now) (.slice a5 RES.1.pins.length c5) (.slice g5 RES.1.gone.length d5)).cells
  refine bodyPost_ret (v := .tuple #[.agg #[.int .i64 RES.1.now, .slice a5 RES.1.pins.length c5, .slice g5 RES.1.gone.length d5], .bool RES.2]) (by simp [results, Try.results26, go_sem, q0, q1, q2]) rfl ⟨_, rfl, ?_, Below.put3 hw5 (by have := HS1.out; omega) _ _ _⟩
  exact (HO5.out.put hR5 _ _ _).mono (by have := HS1.out; omega)
set_option maxRecDepth 100000 in
set_option maxHeartbeats 4000000 in
theorem implUnpinLook_any (w : World) (pa ga : Option Addr) (pc gc : Nat) (E : Ep) (who : Int) (hE : EAt w pa ga E w.heap.size) (hm : E.pins.length ≤ 1048576) (hm' : E.gone.length ≤ 1048576) :
    Calls Try.prog 25 #[.agg #[.int .i64 E.now, .slice pa E.pins.length pc, .slice ga E.gone.length gc], .int .i64 who] w fun e w' => ∃ v, e = .returned (.tuple #[v, .bool (unpinE E who).2]) ∧ EOwn w' w.heap.size v (unpinE E who).1 ∧ Below w.heap.size w w' := by
  rw [show unpinE E who = chE E who 0 true from (chE_unpin E who).symm]
  obtain ⟨now, pins, gone⟩ := E
  dsimp only at hE hm hm' ⊢
  obtain ⟨w0, hw0⟩ : ∃ x, w.alloc (.cells #[.int .i64 now, .slice pa pins.length pc, .slice ga gone.length gc] 50) = x := ⟨_, rfl⟩
  obtain ⟨w1, hw1⟩ : ∃ x, w0.alloc (.cells #[.int .i64 0, .slice none 0 0, .slice none 0 0] 50) = x := ⟨_, rfl⟩
  have hb0 : Below w.heap.size w w0 := by rw [← hw0]; exact (Below.refl _ _).alloc (Nat.le_refl _) _
  have hb1 : Below w0.heap.size w0 w1 := by rw [← hw1]; exact (Below.refl _ _).alloc (Nat.le_refl _) _
  have s0 : w0.heap.size = w.heap.size + 1 := by rw [← hw0]; simp
  have s1 : w1.heap.size = w.heap.size + 2 := by rw [← hw1]; simp; omega
  have hB : EBox w1 w.heap.size (.int .i64 now) (.slice pa pins.length pc) (.slice ga gone.length gc) := by
    have h : EBox w0 w.heap.size (.int .i64 now) (.slice pa pins.length pc) (.slice ga gone.length gc) := by rw [← hw0]; exact EBox.new _ _ _ _
    exact h.on hb1
  have hR : EBox w1 (w.heap.size + 1) (.int .i64 0) (.slice none 0 0) (.slice none 0 0) := by rw [← hw1, ← s0]; exact EBox.new _ _ _ _
  have hBw : Below w.heap.size w w1 := hb0.trans (hb1.mono hb0.size)
  have HW : Hid ((w.alloc (.cells #[.int .i64 now, .slice pa pins.length pc, .slice ga gone.length gc] 50)).alloc (.cells #[.int .i64 0, .slice none 0 0, .slice none 0 0] 50) = w1) := by rw [hw0]; exact hw1
  have HX : Hid (∀ wi, Below w1.heap.size w1 wi → EBox wi w.heap.size (.int .i64 now) (.slice pa pins.length pc) (.slice ga gone.length gc) ∧ EBox wi (w.heap.size + 1) (.int .i64 0) (.slice none 0 0) (.slice none 0 0) ∧ EAt wi pa ga ⟨now, pins, gone⟩ wi.heap.size ∧ Below w.heap.size w wi) := fun wi hi => ⟨hB.on hi, hR.on hi, (hE.on hBw).on hi, hBw.trans (hi.mono hBw.size)⟩
  have HS1 : Hid (w1.heap.size = w.heap.size + 2) := s1
  obtain ⟨b0, b1, b2⟩ := hB.cells
  clear hw0 hw1 hb0 hb1 hB hR s0 s1 hE hBw
  obtain ⟨RES, hRES⟩ : ∃ x, chE ⟨now, pins, gone⟩ who 0 true = x := ⟨_, rfl⟩
  have HC : Hid (∀ wi, Below w1.heap.size w1 wi → Calls Try.prog 70 #[.agg #[.int .i64 now, .slice pa pins.length pc, .slice ga gone.length gc], .int .i64 who, .int .i64 0, .bool true] wi fun e w' => ∃ v, e = .returned (.tuple #[v, .bool RES.2]) ∧ EOwn w' wi.heap.size v RES.1 ∧ Below wi.heap.size wi w') := by
    intro wi hi
    rw [← hRES]
    exact changePin_any wi pa ga pc gc ⟨now, pins, gone⟩ who 0 true (HX.out wi hi).2.2.1 hm hm'
  rw [hRES]
  clear hRES
  have KS : ∀ W, Below (w.heap.size + 1) w1 W → Below (w.heap.size + 1) w1 W ∧ W.cell? ⟨w.heap.size, 0, none⟩ = some (.int .i64 now) ∧ W.cell? ⟨w.heap.size, 1, none⟩ = some (.slice pa pins.length pc) ∧ W.cell? ⟨w.heap.size, 2, none⟩ = some (.slice ga gone.length gc) := by
    intro W hW
    exact ⟨hW, (hW.cell (by simp)).trans b0, (hW.cell (by simp)).trans b1, (hW.cell (by simp)).trans b2⟩
  have hn1 : w.heap.size + 1 ≤ w1.heap.size := by have := HS1.out; omega
  have hdf : Below w1.heap.size w1 w1.drew := ⟨rfl, rfl, rfl, Nat.le_refl _, fun _ _ => rfl⟩
  go_enter Try.func25, Try.ntmps25
  rw [← HW.out] at b0 b1 b2
  go_wp2_with fail
  rw [HW.out]
  refine (HC.out _ (Below.refl _ _)).mono ?_
  rintro e w5 ⟨v5, rfl, ho5, hb5⟩
  have fA : Below w1.heap.size w1 w5 := hb5
  obtain ⟨a5, c5, g5, d5, rfl, _⟩ := ho5.at
  obtain ⟨r0, r1, r2⟩ := (HX.out _ fA).2.1.cells
  have hR5 := (HX.out _ fA).2.1
  have f0 := hR5.thaw 0
  have f1 := hR5.thaw 1
  have f2 := hR5.thaw 2
  clear b0 b1 b2
  have HO5 : Hid (EOwn w5 w1.heap.size (.agg #[.int .i64 RES.1.now, .slice a5 RES.1.pins.length c5, .slice g5 RES.1.gone.length d5]) RES.1) := ho5
  have hw5 := (HX.out _ fA).2.2.2
  clear ho5 hb5 fA HC KS
  go_wp2_with fail
  obtain ⟨q0, q1, q2⟩ := (hR5.put (.int .i64 RES.1.now) (.slice a5 RES.1.pins.length c5) (.slice g5 RES.1.gone.length d5)).cells
  refine bodyPost_ret (v := .tuple #[.agg #[.int .i64 RES.1.now, .slice a5 RES.1.pins.length c5, .slice g5 RES.1.gone.length d5], .bool RES.2]) (by simp [results, Try.results25, go_sem, q0, q1, q2]) rfl ⟨_, rfl, ?_, Below.put3 hw5 (by have := HS1.out; omega) _ _ _⟩
  exact (HO5.out.put hR5 _ _ _).mono (by have := HS1.out; omega)
end Go.Proofs.Ytockgojdmaladac
