/- The other text's PinLook and UnpinLook. Written by mkepoch.py. -/
import Derived.Test.YtockgojdmaladacEpochCopy2
import Derived.Test.YtockgojdmaladacEpochOkSpec
namespace Go.Proofs.Ytockgojdmaladac
open Go.RowKit Go.Sort
set_option maxRecDepth 100000 in
set_option maxHeartbeats 4000000 in
theorem specPinLook_any (w : World) (pa ga : Option Addr) (pc gc : Nat) (E : Ep) (who : Int) (hE : EAt w pa ga E w.heap.size) (hm : E.pins.length ≤ 1048576) (hm' : E.gone.length ≤ 1048576) :
    Calls Try.prog 33 #[.agg #[.int .i64 E.now, .slice pa E.pins.length pc, .slice ga E.gone.length gc], .int .i64 who] w fun e w' => ∃ v, e = .returned (.tuple #[v, .bool (pinE E who).2]) ∧ EOwn w' w.heap.size v (pinE E who).1 ∧ Below w.heap.size w w' := by
  obtain ⟨now, pins, gone⟩ := E
  dsimp only at hE hm hm' ⊢
  obtain ⟨w0, hw0⟩ : ∃ x, w.alloc (.cells #[.int .i64 now, .slice pa pins.length pc, .slice ga gone.length gc] 50) = x := ⟨_, rfl⟩
  obtain ⟨w1, hw1⟩ : ∃ x, w0.alloc (.cells #[.int .i64 0, .slice none 0 0, .slice none 0 0] 50) = x := ⟨_, rfl⟩
  have hb0 : Below w.heap.size w w0 := by rw [← hw0]; exact (Below.refl _ _).alloc (Nat.le_refl _) _
  have hb1 : Below w0.heap.size w0 w1 := by rw [← hw1]; exact (Below.refl _ _).alloc (Nat.le_refl _) _
  have s0 : w0.heap.size = w.heap.size + 1 := by rw [← hw0]; simp
  have s1 : w1.heap.size = w.heap.size + 2 := by rw [← hw1]; simp; omega
  have hB : EBox w1 w.heap.size (.int .i64 now) (.slice pa pins.length pc) (.slice ga gone.length gc) := by
    have h : EBox w0 w.heap.size (.int .i64 now) (.slice pa pins.length pc) (.slice ga gone.length gc) := by rw [← hw0]; exact EBox.new _ _ _ _
    exact h.on hb1
  have hR : EBox w1 (w.heap.size + 1) (.int .i64 0) (.slice none 0 0) (.slice none 0 0) := by rw [← hw1, ← s0]; exact EBox.new _ _ _ _
  have hBw : Below w.heap.size w w1 := hb0.trans (hb1.mono hb0.size)
  have HW : Hid ((w.alloc (.cells #[.int .i64 now, .slice pa pins.length pc, .slice ga gone.length gc] 50)).alloc (.cells #[.int .i64 0, .slice none 0 0, .slice none 0 0] 50) = w1) := by rw [hw0]; exact hw1
  have HX : Hid (∀ wi, Below w1.heap.size w1 wi → EBox wi w.heap.size (.int .i64 now) (.slice pa pins.length pc) (.slice ga gone.length gc) ∧ EBox wi (w.heap.size + 1) (.int .i64 0) (.slice none 0 0) (.slice none 0 0) ∧ EAt wi pa ga ⟨now, pins, gone⟩ wi.heap.size ∧ Below w.heap.size w wi) := fun wi hi => ⟨hB.on hi, hR.on hi, (hE.on hBw).on hi, hBw.trans (hi.mono hBw.size)⟩
  have HS1 : Hid (w1.heap.size = w.heap.size + 2) := s1
  have c0 := l08Copy_any w1 pa ga pc gc ⟨now, pins, gone⟩ (hE.on hBw) hm hm'
  obtain ⟨b0, b1, b2⟩ := hB.cells
  clear hw0 hw1 hb0 hb1 hB hR s0 s1 hE hBw
  go_enter Try.func33, Try.ntmps33
  go_wp2_with fail
  rw [HW.out]
  refine c0.mono ?_
  rintro e w2 ⟨v0, rfl, ho, hb2⟩
  obtain ⟨p2, pc2, g2, gc2, rfl, hA2⟩ := ho.at
  clear c0 b0 b1 b2
  dsimp only at hA2 ⊢
  obtain ⟨w3, hw3⟩ : ∃ x, w2.alloc (.cells #[.int .i64 now, .slice p2 pins.length pc2, .slice g2 gone.length gc2] 50) = x := ⟨_, rfl⟩
  have hb3 : Below w2.heap.size w2 w3 := by rw [← hw3]; exact (Below.refl _ _).alloc (Nat.le_refl _) _
  have hb23 : Below w1.heap.size w1 w3 := hb2.trans (hb3.mono hb2.size)
  have hT : EBox w3 w2.heap.size (.int .i64 now) (.slice p2 pins.length pc2) (.slice g2 gone.length gc2) := by rw [← hw3]; exact EBox.new _ _ _ _
  have ho3 := ho.below hb3 (Nat.le_refl _)
  have HW3 : Hid (w2.alloc (.cells #[.int .i64 now, .slice p2 pins.length pc2, .slice g2 gone.length gc2] 50) = w3) := hw3
  obtain ⟨hB3, hR3, hE3, hw3b⟩ := HX.out w3 hb23
  obtain ⟨b0, b1, b2⟩ := hB3.cells
  have hsz : w.heap.size + 2 ≤ w2.heap.size := by rw [← HS1.out]; exact hb2.size
  clear hw3
  have cO := specEpochsOk_any w3 pa ga pc gc ⟨now, pins, gone⟩ hE3 hm hm'
  rw [← HW3.out] at b0 b1 b2
  go_wp2_with fail
  rw [HW3.out] at b0 b1 b2 ⊢
  refine cO.mono ?_
  rintro e w4 ⟨rfl, hb4⟩
  clear cO
  have hb14 : Below w1.heap.size w1 w4 := hb23.trans (hb4.mono hb23.size)
  obtain ⟨hB4, hR4, hE4, hw4b⟩ := HX.out w4 hb14
  have hT4 := hT.on hb4
  have ho4 := ho3.below hb4 (Nat.le_refl _)
  clear b0 b1 b2 hB3 hR3 hE3 hw3b hT ho3 ho hA2 hb3 hb23 hb4 HW3 HW
  obtain ⟨t0, t1, t2⟩ := hT4.cells
  obtain ⟨r0, r1, r2⟩ := hR4.cells
  obtain ⟨f0, f1, f2⟩ := (⟨hR4.thaw 0, hR4.thaw 1, hR4.thaw 2⟩ : _ ∧ _ ∧ _)
  obtain ⟨b0, b1, b2⟩ := hB4.cells
  cases hok : okE ⟨now, pins, gone⟩ with
  | false =>
    have HP : Hid (pinE ⟨now, pins, gone⟩ who = (⟨now, pins, gone⟩, false)) := by show _ = _; unfold pinE; rw [hok]; rfl
    clear hok
    go_wp2_with fail
    obtain ⟨q0, q1, q2⟩ := (hR4.put (.int .i64 now) (.slice p2 pins.length pc2) (.slice g2 gone.length gc2)).cells
    refine bodyPost_ret (v := .tuple #[.agg #[(.int .i64 now), (.slice p2 pins.length pc2), (.slice g2 gone.length gc2)], .bool false]) (by simp [results, Try.results33, go_sem, q0, q1, q2]) rfl ⟨_, by rw [HP.out], ?_, Below.put3 hw4b (by have := HS1.out; omega) _ _ _⟩
    rw [HP.out]
    exact ((ho4).put hR4 _ _ _).mono (by have := HS1.out; omega)
  | true =>
    have hlen : pins.length ≤ 4 := (okE_len hok).1
    have hnow : 2 ≤ now ∧ now ≤ 1000000000 := (okE_len hok).2.2
    have cI := in_any who 0 ((pins.length : Int) - 1) w4
    have hwl : IntKind.i64.wrap ((pins.length : Int) - 1) = (pins.length : Int) - 1 := by rw [IntKind.wrap_i64]; omega
    by_cases hin : 0 ≤ who ∧ who < (pins.length : Int)
    case neg =>
      have HP : Hid (pinE ⟨now, pins, gone⟩ who = (⟨now, pins, gone⟩, false)) := by show _ = _; unfold pinE whoE; rw [hok, decide_eq_false hin]; rfl
      rw [show inN who 0 ((pins.length : Int) - 1) = false from decide_eq_false (by omega)] at cI
      clear hok hin
      go_wp2_with fail
      refine cI.mono ?_
      rintro e w5 ⟨rfl, rfl⟩
      clear cI
      go_wp2_with fail
      obtain ⟨q0, q1, q2⟩ := (hR4.put (.int .i64 now) (.slice p2 pins.length pc2) (.slice g2 gone.length gc2)).cells
      refine bodyPost_ret (v := .tuple #[.agg #[(.int .i64 now), (.slice p2 pins.length pc2), (.slice g2 gone.length gc2)], .bool false]) (by simp [results, Try.results33, go_sem, q0, q1, q2]) rfl ⟨_, by rw [HP.out], ?_, Below.put3 hw4b (by have := HS1.out; omega) _ _ _⟩
      rw [HP.out]
      exact ((ho4).put hR4 _ _ _).mono (by have := HS1.out; omega)
    case pos =>
      rw [show inN who 0 ((pins.length : Int) - 1) = true from decide_eq_true (by omega)] at cI
      obtain ⟨n, rfl⟩ : ∃ n : Nat, who = n := ⟨who.toNat, by omega⟩
      have hn : n < pins.length := by omega
      obtain ⟨gx, offx, hpa, _, hcx⟩ := hE4.1 n hn
      dsimp only at hpa hcx
      subst hpa
      obtain ⟨g5, hp5, hc5, hf5, hg5⟩ := ho4.pinCell n hn
      subst hp5
      obtain ⟨p, hp⟩ : ∃ p, pins[n] = p := ⟨_, rfl⟩
      rw [hp] at hcx
      have hi0 : (0 : Int) ≤ (n : Int) := by omega
      have hi1 : (n : Int) < (pins.length : Int) := by omega
      have hadd : IntKind.i64.wrap (now + 1) = now + 1 := by rw [IntKind.wrap_i64]; omega
      by_cases hz : p = 0
      case pos =>
        have HP : Hid (pinE ⟨now, pins, gone⟩ (n : Int) = (⟨now, pins.set n (now + 1), gone⟩, true)) := by show _ = _; rw [pinE_at hok hn, hp, if_pos hz]
        have hz' : (p != 0) = false := by simp [hz]
        obtain ⟨ho5, hk5⟩ := ho4.pin n (now + 1)
        have hR5 := hk5 _ _ _ _ hR4
        obtain ⟨u0, u1, u2⟩ := (hk5 _ _ _ _ hT4).cells
        obtain ⟨m0, m1, m2⟩ := hR5.cells
        obtain ⟨l0, l1, l2⟩ := (⟨hR5.thaw 0, hR5.thaw 1, hR5.thaw 2⟩ : _ ∧ _ ∧ _)
        have hw5 : Below w.heap.size w (w4.setCell ⟨g5, n, none⟩ (.int .i64 (now + 1))) := hw4b.setCell (show w.heap.size ≤ g5 by have := HS1.out; omega) _
        have HO5 : Hid (EOwn (w4.setCell ⟨g5, n, none⟩ (.int .i64 (now + 1))) w1.heap.size (.agg #[.int .i64 now, .slice (some ⟨g5, 0, none⟩) pins.length pc2, .slice g2 gone.length gc2]) ⟨now, pins.set n (now + 1), gone⟩) := ho5
        clear hok hin hz hp ho5
        go_wp2_with fail
        refine cI.mono ?_
        rintro e w5 ⟨rfl, rfl⟩
        clear cI
        go_wp2_with fail
        obtain ⟨q0, q1, q2⟩ := (hR5.put (.int .i64 now) (.slice (some ⟨g5, 0, none⟩) pins.length pc2) (.slice g2 gone.length gc2)).cells
        refine bodyPost_ret (v := .tuple #[.agg #[(.int .i64 now), (.slice (some ⟨g5, 0, none⟩) pins.length pc2), (.slice g2 gone.length gc2)], .bool true]) (by simp [results, Try.results33, go_sem, q0, q1, q2]) rfl ⟨_, by rw [HP.out], ?_, Below.put3 hw5 (by have := HS1.out; omega) _ _ _⟩
        rw [HP.out]
        exact ((HO5.out).put hR5 _ _ _).mono (by have := HS1.out; omega)
      case neg =>
        have HP : Hid (pinE ⟨now, pins, gone⟩ (n : Int) = (⟨now, pins, gone⟩, false)) := by show _ = _; rw [pinE_at hok hn, hp, if_neg hz]
        have hz' : (p != 0) = true := by simp [hz]
        clear hok hin hz hp
        go_wp2_with fail
        refine cI.mono ?_
        rintro e w5 ⟨rfl, rfl⟩
        clear cI
        go_wp2_with fail
        obtain ⟨q0, q1, q2⟩ := (hR4.put (.int .i64 now) (.slice (some ⟨g5, 0, none⟩) pins.length pc2) (.slice g2 gone.length gc2)).cells
        refine bodyPost_ret (v := .tuple #[.agg #[(.int .i64 now), (.slice (some ⟨g5, 0, none⟩) pins.length pc2), (.slice g2 gone.length gc2)], .bool false]) (by simp [results, Try.results33, go_sem, q0, q1, q2]) rfl ⟨_, by rw [HP.out], ?_, Below.put3 hw4b (by have := HS1.out; omega) _ _ _⟩
        rw [HP.out]
        exact ((ho4).put hR4 _ _ _).mono (by have := HS1.out; omega)
set_option maxRecDepth 100000 in
set_option maxHeartbeats 4000000 in
theorem specUnpinLook_any (w : World) (pa ga : Option Addr) (pc gc : Nat) (E : Ep) (who : Int) (hE : EAt w pa ga E w.heap.size) (hm : E.pins.length ≤ 1048576) (hm' : E.gone.length ≤ 1048576) :
    Calls Try.prog 34 #[.agg #[.int .i64 E.now, .slice pa E.pins.length pc, .slice ga E.gone.length gc], .int .i64 who] w fun e w' => ∃ v, e = .returned (.tuple #[v, .bool (unpinE E who).2]) ∧ EOwn w' w.heap.size v (unpinE E who).1 ∧ Below w.heap.size w w' := by
  obtain ⟨now, pins, gone⟩ := E
  dsimp only at hE hm hm' ⊢
  obtain ⟨w0, hw0⟩ : ∃ x, w.alloc (.cells #[.int .i64 now, .slice pa pins.length pc, .slice ga gone.length gc] 50) = x := ⟨_, rfl⟩
  obtain ⟨w1, hw1⟩ : ∃ x, w0.alloc (.cells #[.int .i64 0, .slice none 0 0, .slice none 0 0] 50) = x := ⟨_, rfl⟩
  have hb0 : Below w.heap.size w w0 := by rw [← hw0]; exact (Below.refl _ _).alloc (Nat.le_refl _) _
  have hb1 : Below w0.heap.size w0 w1 := by rw [← hw1]; exact (Below.refl _ _).alloc (Nat.le_refl _) _
  have s0 : w0.heap.size = w.heap.size + 1 := by rw [← hw0]; simp
  have s1 : w1.heap.size = w.heap.size + 2 := by rw [← hw1]; simp; omega
  have hB : EBox w1 w.heap.size (.int .i64 now) (.slice pa pins.length pc) (.slice ga gone.length gc) := by
    have h : EBox w0 w.heap.size (.int .i64 now) (.slice pa pins.length pc) (.slice ga gone.length gc) := by rw [← hw0]; exact EBox.new _ _ _ _
    exact h.on hb1
  have hR : EBox w1 (w.heap.size + 1) (.int .i64 0) (.slice none 0 0) (.slice none 0 0) := by rw [← hw1, ← s0]; exact EBox.new _ _ _ _
  have hBw : Below w.heap.size w w1 := hb0.trans (hb1.mono hb0.size)
  have HW : Hid ((w.alloc (.cells #[.int .i64 now, .slice pa pins.length pc, .slice ga gone.length gc] 50)).alloc (.cells #[.int .i64 0, .slice none 0 0, .slice none 0 0] 50) = w1) := by rw [hw0]; exact hw1
  have HX : Hid (∀ wi, Below w1.heap.size w1 wi → EBox wi w.heap.size (.int .i64 now) (.slice pa pins.length pc) (.slice ga gone.length gc) ∧ EBox wi (w.heap.size + 1) (.int .i64 0) (.slice none 0 0) (.slice none 0 0) ∧ EAt wi pa ga ⟨now, pins, gone⟩ wi.heap.size ∧ Below w.heap.size w wi) := fun wi hi => ⟨hB.on hi, hR.on hi, (hE.on hBw).on hi, hBw.trans (hi.mono hBw.size)⟩
  have HS1 : Hid (w1.heap.size = w.heap.size + 2) := s1
  have c0 := l08Copy_any w1 pa ga pc gc ⟨now, pins, gone⟩ (hE.on hBw) hm hm'
  obtain ⟨b0, b1, b2⟩ := hB.cells
  clear hw0 hw1 hb0 hb1 hB hR s0 s1 hE hBw
  go_enter Try.func34, Try.ntmps34
  go_wp2_with fail
  rw [HW.out]
  refine c0.mono ?_
  rintro e w2 ⟨v0, rfl, ho, hb2⟩
  obtain ⟨p2, pc2, g2, gc2, rfl, hA2⟩ := ho.at
  clear c0 b0 b1 b2
  dsimp only at hA2 ⊢
  obtain ⟨w3, hw3⟩ : ∃ x, w2.alloc (.cells #[.int .i64 now, .slice p2 pins.length pc2, .slice g2 gone.length gc2] 50) = x := ⟨_, rfl⟩
  have hb3 : Below w2.heap.size w2 w3 := by rw [← hw3]; exact (Below.refl _ _).alloc (Nat.le_refl _) _
  have hb23 : Below w1.heap.size w1 w3 := hb2.trans (hb3.mono hb2.size)
  have hT : EBox w3 w2.heap.size (.int .i64 now) (.slice p2 pins.length pc2) (.slice g2 gone.length gc2) := by rw [← hw3]; exact EBox.new _ _ _ _
  have ho3 := ho.below hb3 (Nat.le_refl _)
  have HW3 : Hid (w2.alloc (.cells #[.int .i64 now, .slice p2 pins.length pc2, .slice g2 gone.length gc2] 50) = w3) := hw3
  obtain ⟨hB3, hR3, hE3, hw3b⟩ := HX.out w3 hb23
  obtain ⟨b0, b1, b2⟩ := hB3.cells
  have hsz : w.heap.size + 2 ≤ w2.heap.size := by rw [← HS1.out]; exact hb2.size
  clear hw3
  have cO := specEpochsOk_any w3 pa ga pc gc ⟨now, pins, gone⟩ hE3 hm hm'
  rw [← HW3.out] at b0 b1 b2
  go_wp2_with fail
  rw [HW3.out] at b0 b1 b2 ⊢
  refine cO.mono ?_
  rintro e w4 ⟨rfl, hb4⟩
  clear cO
  have hb14 : Below w1.heap.size w1 w4 := hb23.trans (hb4.mono hb23.size)
  obtain ⟨hB4, hR4, hE4, hw4b⟩ := HX.out w4 hb14
  have hT4 := hT.on hb4
  have ho4 := ho3.below hb4 (Nat.le_refl _)
  clear b0 b1 b2 hB3 hR3 hE3 hw3b hT ho3 ho hA2 hb3 hb23 hb4 HW3 HW
  obtain ⟨t0, t1, t2⟩ := hT4.cells
  obtain ⟨r0, r1, r2⟩ := hR4.cells
  obtain ⟨f0, f1, f2⟩ := (⟨hR4.thaw 0, hR4.thaw 1, hR4.thaw 2⟩ : _ ∧ _ ∧ _)
  obtain ⟨b0, b1, b2⟩ := hB4.cells
  cases hok : okE ⟨now, pins, gone⟩ with
  | false =>
    have HP : Hid (unpinE ⟨now, pins, gone⟩ who = (⟨now, pins, gone⟩, false)) := by show _ = _; unfold unpinE; rw [hok]; rfl
    clear hok
    go_wp2_with fail
    obtain ⟨q0, q1, q2⟩ := (hR4.put (.int .i64 now) (.slice p2 pins.length pc2) (.slice g2 gone.length gc2)).cells
    refine bodyPost_ret (v := .tuple #[.agg #[(.int .i64 now), (.slice p2 pins.length pc2), (.slice g2 gone.length gc2)], .bool false]) (by simp [results, Try.results34, go_sem, q0, q1, q2]) rfl ⟨_, by rw [HP.out], ?_, Below.put3 hw4b (by have := HS1.out; omega) _ _ _⟩
    rw [HP.out]
    exact ((ho4).put hR4 _ _ _).mono (by have := HS1.out; omega)
  | true =>
    have hlen : pins.length ≤ 4 := (okE_len hok).1
    have hnow : 2 ≤ now ∧ now ≤ 1000000000 := (okE_len hok).2.2
    have cI := in_any who 0 ((pins.length : Int) - 1) w4
    have hwl : IntKind.i64.wrap ((pins.length : Int) - 1) = (pins.length : Int) - 1 := by rw [IntKind.wrap_i64]; omega
    by_cases hin : 0 ≤ who ∧ who < (pins.length : Int)
    case neg =>
      have HP : Hid (unpinE ⟨now, pins, gone⟩ who = (⟨now, pins, gone⟩, false)) := by show _ = _; unfold unpinE whoE; rw [hok, decide_eq_false hin]; rfl
      rw [show inN who 0 ((pins.length : Int) - 1) = false from decide_eq_false (by omega)] at cI
      clear hok hin
      go_wp2_with fail
      refine cI.mono ?_
      rintro e w5 ⟨rfl, rfl⟩
      clear cI
      go_wp2_with fail
      obtain ⟨q0, q1, q2⟩ := (hR4.put (.int .i64 now) (.slice p2 pins.length pc2) (.slice g2 gone.length gc2)).cells
      refine bodyPost_ret (v := .tuple #[.agg #[(.int .i64 now), (.slice p2 pins.length pc2), (.slice g2 gone.length gc2)], .bool false]) (by simp [results, Try.results34, go_sem, q0, q1, q2]) rfl ⟨_, by rw [HP.out], ?_, Below.put3 hw4b (by have := HS1.out; omega) _ _ _⟩
      rw [HP.out]
      exact ((ho4).put hR4 _ _ _).mono (by have := HS1.out; omega)
    case pos =>
      rw [show inN who 0 ((pins.length : Int) - 1) = true from decide_eq_true (by omega)] at cI
      obtain ⟨n, rfl⟩ : ∃ n : Nat, who = n := ⟨who.toNat, by omega⟩
      have hn : n < pins.length := by omega
      obtain ⟨gx, offx, hpa, _, hcx⟩ := hE4.1 n hn
      dsimp only at hpa hcx
      subst hpa
      obtain ⟨g5, hp5, hc5, hf5, hg5⟩ := ho4.pinCell n hn
      subst hp5
      obtain ⟨p, hp⟩ : ∃ p, pins[n] = p := ⟨_, rfl⟩
      rw [hp] at hcx
      have hi0 : (0 : Int) ≤ (n : Int) := by omega
      have hi1 : (n : Int) < (pins.length : Int) := by omega
      have hadd : IntKind.i64.wrap (now + 1) = now + 1 := by rw [IntKind.wrap_i64]; omega
      by_cases hz : p = 0
      case pos =>
        have HP : Hid (unpinE ⟨now, pins, gone⟩ (n : Int) = (⟨now, pins, gone⟩, false)) := by show _ = _; rw [unpinE_at hok hn, hp, if_pos hz]
        have hz' : (p == 0) = true := by simp [hz]
        clear hok hin hz hp
        go_wp2_with fail
        refine cI.mono ?_
        rintro e w5 ⟨rfl, rfl⟩
        clear cI
        go_wp2_with fail
        obtain ⟨q0, q1, q2⟩ := (hR4.put (.int .i64 now) (.slice (some ⟨g5, 0, none⟩) pins.length pc2) (.slice g2 gone.length gc2)).cells
        refine bodyPost_ret (v := .tuple #[.agg #[(.int .i64 now), (.slice (some ⟨g5, 0, none⟩) pins.length pc2), (.slice g2 gone.length gc2)], .bool false]) (by simp [results, Try.results34, go_sem, q0, q1, q2]) rfl ⟨_, by rw [HP.out], ?_, Below.put3 hw4b (by have := HS1.out; omega) _ _ _⟩
        rw [HP.out]
        exact ((ho4).put hR4 _ _ _).mono (by have := HS1.out; omega)
      case neg =>
        have HP : Hid (unpinE ⟨now, pins, gone⟩ (n : Int) = (⟨now, pins.set n 0, gone⟩, true)) := by show _ = _; rw [unpinE_at hok hn, hp, if_neg hz]
        have hz' : (p == 0) = false := by simp [hz]
        obtain ⟨ho5, hk5⟩ := ho4.pin n 0
        have hR5 := hk5 _ _ _ _ hR4
        obtain ⟨u0, u1, u2⟩ := (hk5 _ _ _ _ hT4).cells
        obtain ⟨m0, m1, m2⟩ := hR5.cells
        obtain ⟨l0, l1, l2⟩ := (⟨hR5.thaw 0, hR5.thaw 1, hR5.thaw 2⟩ : _ ∧ _ ∧ _)
        have hw5 : Below w.heap.size w (w4.setCell ⟨g5, n, none⟩ (.int .i64 0)) := hw4b.setCell (show w.heap.size ≤ g5 by have := HS1.out; omega) _
        have HO5 : Hid (EOwn (w4.setCell ⟨g5, n, none⟩ (.int .i64 0)) w1.heap.size (.agg #[.int .i64 now, .slice (some ⟨g5, 0, none⟩) pins.length pc2, .slice g2 gone.length gc2]) ⟨now, pins.set n 0, gone⟩) := ho5
        clear hok hin hz hp ho5
        go_wp2_with fail
        refine cI.mono ?_
        rintro e w5 ⟨rfl, rfl⟩
        clear cI
        go_wp2_with fail
        obtain ⟨q0, q1, q2⟩ := (hR5.put (.int .i64 now) (.slice (some ⟨g5, 0, none⟩) pins.length pc2) (.slice g2 gone.length gc2)).cells
        refine bodyPost_ret (v := .tuple #[.agg #[(.int .i64 now), (.slice (some ⟨g5, 0, none⟩) pins.length pc2), (.slice g2 gone.length gc2)], .bool true]) (by simp [results, Try.results34, go_sem, q0, q1, q2]) rfl ⟨_, by rw [HP.out], ?_, Below.put3 hw5 (by have := HS1.out; omega) _ _ _⟩
        rw [HP.out]
        exact ((HO5.out).put hR5 _ _ _).mono (by have := HS1.out; omega)
end Go.Proofs.Ytockgojdmaladac
