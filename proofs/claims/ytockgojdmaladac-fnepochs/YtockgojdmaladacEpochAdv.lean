/- The other text's AdvanceEpoch. Written by mkepoch.py. -/
import Derived.Test.YtockgojdmaladacEpochCopy2
import Derived.Test.YtockgojdmaladacEpochOkSpec
import Derived.Test.YtockgojdmaladacEpochMore
namespace Go.Proofs.Ytockgojdmaladac
open Go.RowKit Go.Sort
set_option maxRecDepth 100000 in
set_option maxHeartbeats 4000000 in
theorem specAdvanceEpoch_any (w : World) (pa ga : Option Addr) (pc gc : Nat) (E : Ep) (hE : EAt w pa ga E w.heap.size) (hm : E.pins.length ≤ 1048576) (hm' : E.gone.length ≤ 1048576) :
    Calls Try.prog 37 #[.agg #[.int .i64 E.now, .slice pa E.pins.length pc, .slice ga E.gone.length gc]] w fun e w' => ∃ v, e = .returned (.tuple #[v, .bool (advE E).2]) ∧ EOwn w' w.heap.size v (advE E).1 ∧ Below w.heap.size w w' := by
  obtain ⟨now, pins, gone⟩ := E
  dsimp only at hE hm hm' ⊢
  obtain ⟨w0, hw0⟩ : ∃ x, w.alloc (.cells #[.int .i64 now, .slice pa pins.length pc, .slice ga gone.length gc] 50) = x := ⟨_, rfl⟩
  obtain ⟨w1, hw1⟩ : ∃ x, w0.alloc (.cells #[.int .i64 0, .slice none 0 0, .slice none 0 0] 50) = x := ⟨_, rfl⟩
  have hb0 : Below w.heap.size w w0 := by rw [← hw0]; exact (Below.refl _ _).alloc (Nat.le_refl _) _
  have hb1 : Below w0.heap.size w0 w1 := by rw [← hw1]; exact (Below.refl _ _).alloc (Nat.le_refl _) _
  have s0 : w0.heap.size = w.heap.size + 1 := by rw [← hw0]; simp
  have s1 : w1.heap.size = w.heap.size + 2 := by rw [← hw1]; simp; omega
  have hB : EBox w1 w.heap.size (.int .i64 now) (.slice pa pins.length pc) (.slice ga gone.length gc) := by
    have h : EBox w0 w.heap.size (.int .i64 now) (.slice pa pins.length pc) (.slice ga gone.length gc) := by rw [← hw0]; exact EBox.new _ _ _ _
    exact h.on hb1
  have hR : EBox w1 (w.heap.size + 1) (.int .i64 0) (.slice none 0 0) (.slice none 0 0) := by rw [← hw1, ← s0]; exact EBox.new _ _ _ _
  have hBw : Below w.heap.size w w1 := hb0.trans (hb1.mono hb0.size)
  have HW : Hid ((w.alloc (.cells #[.int .i64 now, .slice pa pins.length pc, .slice ga gone.length gc] 50)).alloc (.cells #[.int .i64 0, .slice none 0 0, .slice none 0 0] 50) = w1) := by rw [hw0]; exact hw1
  have HX : Hid (∀ wi, Below w1.heap.size w1 wi → EBox wi w.heap.size (.int .i64 now) (.slice pa pins.length pc) (.slice ga gone.length gc) ∧ EBox wi (w.heap.size + 1) (.int .i64 0) (.slice none 0 0) (.slice none 0 0) ∧ EAt wi pa ga ⟨now, pins, gone⟩ wi.heap.size ∧ Below w.heap.size w wi) := fun wi hi => ⟨hB.on hi, hR.on hi, (hE.on hBw).on hi, hBw.trans (hi.mono hBw.size)⟩
  have HS1 : Hid (w1.heap.size = w.heap.size + 2) := s1
  have c0 := l08Copy_any w1 pa ga pc gc ⟨now, pins, gone⟩ (hE.on hBw) hm hm'
  obtain ⟨b0, b1, b2⟩ := hB.cells
  clear hw0 hw1 hb0 hb1 hB hR s0 s1 hE hBw
  go_enter Try.func37, Try.ntmps37
  go_wp2_with fail
  rw [HW.out]
  refine c0.mono ?_
  rintro e w2 ⟨v0, rfl, ho, hb2⟩
  obtain ⟨p2, pc2, g2, gc2, rfl, hA2⟩ := ho.at
  clear c0 b0 b1 b2
  dsimp only at hA2 ⊢
  obtain ⟨w3, hw3⟩ : ∃ x, w2.alloc (.cells #[.int .i64 now, .slice p2 pins.length pc2, .slice g2 gone.length gc2] 50) = x := ⟨_, rfl⟩
  have hb3 : Below w2.heap.size w2 w3 := by rw [← hw3]; exact (Below.refl _ _).alloc (Nat.le_refl _) _
  have hb23 : Below w1.heap.size w1 w3 := hb2.trans (hb3.mono hb2.size)
  have hT : EBox w3 w2.heap.size (.int .i64 now) (.slice p2 pins.length pc2) (.slice g2 gone.length gc2) := by rw [← hw3]; exact EBox.new _ _ _ _
  have ho3 := ho.below hb3 (Nat.le_refl _)
  have HW3 : Hid (w2.alloc (.cells #[.int .i64 now, .slice p2 pins.length pc2, .slice g2 gone.length gc2] 50) = w3) := hw3
  obtain ⟨hB3, hR3, hE3, hw3b⟩ := HX.out w3 hb23
  obtain ⟨b0, b1, b2⟩ := hB3.cells
  have hsz : w.heap.size + 2 ≤ w2.heap.size := by rw [← HS1.out]; exact hb2.size
  clear hw3
  have cO := specEpochsOk_any w3 pa ga pc gc ⟨now, pins, gone⟩ hE3 hm hm'
  rw [← HW3.out] at b0 b1 b2
  go_wp2_with fail
  rw [HW3.out] at b0 b1 b2 ⊢
  refine cO.mono ?_
  rintro e w4 ⟨rfl, hb4⟩
  clear cO
  have hb14 : Below w1.heap.size w1 w4 := hb23.trans (hb4.mono hb23.size)
  obtain ⟨hB4, hR4, hE4, hw4b⟩ := HX.out w4 hb14
  have hT4 := hT.on hb4
  have ho4 := ho3.below hb4 (Nat.le_refl _)
  clear b0 b1 b2 hB3 hR3 hE3 hw3b hT ho3 ho hA2 hb3 hb23 hb4 HW3 HW
  obtain ⟨t0, t1, t2⟩ := hT4.cells
  obtain ⟨r0, r1, r2⟩ := hR4.cells
  obtain ⟨f0, f1, f2⟩ := (⟨hR4.thaw 0, hR4.thaw 1, hR4.thaw 2⟩ : _ ∧ _ ∧ _)
  obtain ⟨b0, b1, b2⟩ := hB4.cells
  cases hok : okE ⟨now, pins, gone⟩ with
  | false =>
    have HP : Hid (advE ⟨now, pins, gone⟩ = (⟨now, pins, gone⟩, false)) := by show _ = _; unfold advE; rw [hok]; rfl
    clear hok
    go_wp2_with fail
    obtain ⟨q0, q1, q2⟩ := (hR4.put (.int .i64 now) (.slice p2 pins.length pc2) (.slice g2 gone.length gc2)).cells
    refine bodyPost_ret (v := .tuple #[.agg #[(.int .i64 now), (.slice p2 pins.length pc2), (.slice g2 gone.length gc2)], .bool false]) (by simp [results, Try.results37, go_sem, q0, q1, q2]) rfl ⟨_, by rw [HP.out], ?_, Below.put3 hw4b (by have := HS1.out; omega) _ _ _⟩
    rw [HP.out]
    exact ((ho4).put hR4 _ _ _).mono (by have := HS1.out; omega)
  | true =>
    have hl4 : pins.length ≤ 4 := (okE_len hok).1
    have hnow : 2 ≤ now ∧ now ≤ 1000000000 := (okE_len hok).2.2
    by_cases hmx : now = 1000000000
    case pos =>
      have HP : Hid (advE ⟨now, pins, gone⟩ = (⟨now, pins, gone⟩, false)) := by show _ = _; unfold advE; rw [show decide ((⟨now, pins, gone⟩ : Ep).now = 1000000000) = true from decide_eq_true hmx]; simp
      have hx1 : (now == 1000000000) = true := by simp [hmx]
      have hx2 : decide (now = 1000000000) = true := decide_eq_true hmx
      clear hok hmx
      go_wp2_with fail
      obtain ⟨q0, q1, q2⟩ := (hR4.put (.int .i64 now) (.slice p2 pins.length pc2) (.slice g2 gone.length gc2)).cells
      refine bodyPost_ret (v := .tuple #[.agg #[(.int .i64 now), (.slice p2 pins.length pc2), (.slice g2 gone.length gc2)], .bool false]) (by simp [results, Try.results37, go_sem, q0, q1, q2]) rfl ⟨_, by rw [HP.out], ?_, Below.put3 hw4b (by have := HS1.out; omega) _ _ _⟩
      rw [HP.out]
      exact ((ho4).put hR4 _ _ _).mono (by have := HS1.out; omega)
    case neg =>
      have HO : Hid (advE ⟨now, pins, gone⟩ = if (pins.any fun p => decide (p = now)) = true then (⟨now, pins, gone⟩, false) else (⟨now + 1, pins, gone⟩, true)) := by
        show _ = _
        unfold advE
        rw [hok, show decide ((⟨now, pins, gone⟩ : Ep).now = 1000000000) = false from decide_eq_false hmx]
        cases (pins.any fun p => decide (p = now)) <;> simp
      have hx1 : (now == 1000000000) = false := by simp [hmx]
      have hx2 : decide (now = 1000000000) = false := decide_eq_false hmx
      have hwr : IntKind.i64.wrap (now + 1) = now + 1 := by rw [IntKind.wrap_i64]; omega
      have HPI := hE4.1
      have hRT : ¬ (w.heap.size + 1 = w2.heap.size) := by omega
      have hTR : ¬ (w2.heap.size = w.heap.size + 1) := by omega
      have tf0 := hT4.thaw 0
      clear hok hmx
      go_wp2_with fail
      go_loopw [5] (fun i wr => Box (∃ k nq : Nat, k ≤ pins.length ∧ i = .int .i64 k ∧ (∀ q (hq : q < pins.length), q < k → pins[q] ≠ now) ∧ wr = w4.drewN nq))
        (fun i _ => pins.length - (intOf i).toNat)
      case atStart => exact ⟨⟨0, 0, by omega, rfl, fun q _ hq => absurd hq (Nat.not_lt_zero _), rfl⟩⟩
      case round =>
        obtain ⟨k, nq, hk, rfl, hno, hwr'⟩ := hrel.out
        have HN : Hid (∀ q (hq : q < pins.length), q < k → pins[q] ≠ now) := hno
        clear hno hrel
        rw [hwr']
        clear hwr'
        by_cases hlt : k < pins.length
        · obtain ⟨gp, offp, hpa, _, q0⟩ := HPI k hlt
          obtain ⟨p, hp⟩ : ∃ p, pins[k] = p := ⟨_, rfl⟩
          have HX2 : Hid (pins[k] = p ∧ (k : Int) < (pins.length : Int)) := ⟨hp, by omega⟩
          rw [show (⟨now, pins, gone⟩ : Ep).pins[k] = p from hp] at q0
          have hi1 : (0 : Int) ≤ (k : Int) := by omega
          have hi3 : (k : Int) < (pins.length : Int) := by omega
          subst hpa
          clear hp HPI
          by_cases he : p = now
          · have he' : (p == now) = true := by simp [he]
            have he'' : decide (p = now) = true := decide_eq_true he
            have HP : Hid (advE ⟨now, pins, gone⟩ = (⟨now, pins, gone⟩, false)) := by show _ = _; rw [HO.out, if_pos (by rw [List.any_eq_true]; exact ⟨pins[k], List.getElem_mem (by omega), by rw [HX2.out.1]; exact he''⟩)]
            clear he
            go_wp2_with fail
            go_quiet (fail)
            generalize hwq : (w4.drewN _).drewN nq = wq
            have hbq : Below w4.heap.size w4 wq := by rw [← hwq]; exact ⟨rfl, rfl, rfl, Nat.le_refl _, fun _ _ => rfl⟩
            have hRq := hR4.on hbq
            obtain ⟨y0, y1, y2⟩ := (hT4.on hbq).cells
            obtain ⟨z0, z1, z2⟩ := hRq.cells
            obtain ⟨zf0, zf1, zf2⟩ := (⟨hRq.thaw 0, hRq.thaw 1, hRq.thaw 2⟩ : _ ∧ _ ∧ _)
            have HOq : Hid (EOwn wq w1.heap.size (.agg #[.int .i64 now, .slice p2 pins.length pc2, .slice g2 gone.length gc2]) ⟨now, pins, gone⟩ ∧ Below w.heap.size w wq) := ⟨ho4.below hbq (Nat.le_refl _), hw4b.trans (hbq.mono hw4b.size)⟩
            clear hwq hbq b0 b1 b2 t0 t1 t2 r0 r1 r2 f0 f1 f2 hB4 hR4 hT4 HN tf0 ho4
            go_wp2_with fail
            obtain ⟨q0, q1, q2⟩ := (hRq.put (.int .i64 now) (.slice p2 pins.length pc2) (.slice g2 gone.length gc2)).cells
            refine bodyPost_ret (v := .tuple #[.agg #[(.int .i64 now), (.slice p2 pins.length pc2), (.slice g2 gone.length gc2)], .bool false]) (by simp [results, Try.results37, go_sem, q0, q1, q2]) rfl ⟨_, by rw [HP.out], ?_, Below.put3 HOq.out.2 (by have := HS1.out; omega) _ _ _⟩
            rw [HP.out]
            exact ((HOq.out.1).put hRq _ _ _).mono (by have := HS1.out; omega)
          · have he' : (p == now) = false := by simp [he]
            have he'' : decide (p = now) = false := decide_eq_false he
            have HE : Hid (¬ p = now) := he
            clear he
            go_wp2_with fail
            go_quiet (fail)
            go_wp2_with fail
            go_roundw
            case rel =>
              try ((repeat apply Exists.intro); refine ⟨?_, rfl⟩)
              refine ⟨⟨k + 1, _, by have := HX2.out.2; omega, by go_num, fun q hq hqk => ?_, by first | rfl | trivial⟩⟩
              by_cases e : q = k
              · subst e
                rw [HX2.out.1]; exact HE.out
              · exact HN.out q hq (by omega)
            case measure => have := HX2.out.2; simp [intOf]; omega
        · have hi3 : ¬ (k : Int) < (pins.length : Int) := by omega
          have HP : Hid (advE ⟨now, pins, gone⟩ = (⟨now + 1, pins, gone⟩, true)) := by
            show _ = _
            rw [HO.out, if_neg]
            intro e
            rw [List.any_eq_true] at e
            obtain ⟨x, hx, he⟩ := e
            obtain ⟨j, hj, rfl⟩ := List.getElem_of_mem hx
            exact HN.out j hj (by omega) (by simpa using he)
          obtain ⟨wq, hwq⟩ : ∃ wq, w4.drewN nq = wq := ⟨_, rfl⟩
          have hbq : Below w4.heap.size w4 wq := by rw [← hwq]; exact ⟨rfl, rfl, rfl, Nat.le_refl _, fun _ _ => rfl⟩
          have hTq := hT4.on hbq
          have hBq := hB4.on hbq
          have hRq := hR4.on hbq
          obtain ⟨y0, y1, y2⟩ := hTq.cells
          have yf := hTq.thaw 0
          obtain ⟨x0, x1, x2⟩ := hBq.cells
          obtain ⟨m0, m1, m2⟩ := (hTq.set0 (.int .i64 (now + 1))).cells
          have hRq' := hRq.far 0 (.int .i64 (now + 1)) hRT
          obtain ⟨z0, z1, z2⟩ := hRq'.cells
          obtain ⟨zf0, zf1, zf2⟩ := (⟨hRq'.thaw 0, hRq'.thaw 1, hRq'.thaw 2⟩ : _ ∧ _ ∧ _)
          obtain ⟨hoP, hoG⟩ := (ho4.below hbq (Nat.le_refl _)).parts
          have hw9' : Below w.heap.size w (wq.setCell ⟨w2.heap.size, 0, none⟩ (.int .i64 (now + 1))) := (hw4b.trans (hbq.mono hw4b.size)).setCell (show w.heap.size ≤ w2.heap.size by omega) _
          have HO9 : Hid (EOwn (wq.setCell ⟨w2.heap.size, 0, none⟩ (.int .i64 (now + 1))) w1.heap.size (.agg #[.int .i64 (now + 1), .slice p2 pins.length pc2, .slice g2 gone.length gc2]) ⟨now + 1, pins, gone⟩) := EOwn.mk (hoP.far hTq 0 _) (hoG.far hTq 0 _)
          rw [hwq]
          clear hwq hbq b0 b1 b2 t0 t1 t2 r0 r1 r2 f0 f1 f2 hB4 hR4 hT4 HPI HN tf0 hoP hoG ho4
          go_wp2_with fail
          obtain ⟨q0, q1, q2⟩ := (hRq'.put (.int .i64 (now + 1)) (.slice p2 pins.length pc2) (.slice g2 gone.length gc2)).cells
          refine bodyPost_ret (v := .tuple #[.agg #[(.int .i64 (now + 1)), (.slice p2 pins.length pc2), (.slice g2 gone.length gc2)], .bool true]) (by simp [results, Try.results37, go_sem, q0, q1, q2]) rfl ⟨_, by rw [HP.out], ?_, Below.put3 hw9' (by have := HS1.out; omega) _ _ _⟩
          rw [HP.out]
          exact ((HO9.out).put hRq' _ _ _).mono (by have := HS1.out; omega)
end Go.Proofs.Ytockgojdmaladac
