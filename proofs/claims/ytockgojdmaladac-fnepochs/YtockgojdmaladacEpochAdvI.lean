/- The program's AdvanceEpoch. Written by mkepoch.py. -/
import Derived.Test.YtockgojdmaladacEpochChange
import Derived.Test.YtockgojdmaladacEpochMore
import Derived.Test.YtockgojdmaladacShelf
namespace Go.Proofs.Ytockgojdmaladac
open Go.RowKit Go.Sort
theorem contains_any (l : List Int) (x : Int) : l.contains x = l.any fun p => decide (p = x) := by
  induction l with
  | nil => rfl
  | cons y r ih =>
    rw [List.contains_cons, List.any_cons, ih]
    by_cases e : x = y
    · subst e; simp
    · have e' : ¬ y = x := fun h => e h.symm
      simp [e, e']
theorem containsI_any (w : World) (pa : Option Addr) (pc : Nat) (l : List Int) (x : Int) (hP : IAt w pa l w.heap.size) (hm : l.length ≤ 1048576) :
    Calls Try.prog 77 #[.slice pa l.length pc, .int .i64 x] w fun e w' => e = .returned (.bool (l.any fun p => decide (p = x))) ∧ w' = w := by
  rw [← contains_any]
  cases l with
  | nil => exact Try.slices_Contains_int_empty pa pc x w
  | cons y r =>
    obtain ⟨b, off, ha, _, _⟩ := hP 0 (by simp)
    subst ha
    have h := Try.slices_Contains_int b off (y :: r).length pc (y :: r) x w (Nat.le_refl _) (by omega) (fun j hj => by
      obtain ⟨g', off', ha', _, hc⟩ := hP j hj
      simp only [Option.some.injEq, Addr.mk.injEq, and_true] at ha'
      obtain ⟨rfl, rfl⟩ := ha'
      rw [hc, List.getD_eq_getElem?_getD, List.getElem?_eq_getElem hj]
      rfl)
    rw [List.take_length] at h
    exact h
set_option maxRecDepth 100000 in
set_option maxHeartbeats 4000000 in
theorem implAdvanceEpoch_any (w : World) (pa ga : Option Addr) (pc gc : Nat) (E : Ep) (hE : EAt w pa ga E w.heap.size) (hm : E.pins.length ≤ 1048576) (hm' : E.gone.length ≤ 1048576) :
    Calls Try.prog 29 #[.agg #[.int .i64 E.now, .slice pa E.pins.length pc, .slice ga E.gone.length gc]] w fun e w' => ∃ v, e = .returned (.tuple #[v, .bool (advE E).2]) ∧ EOwn w' w.heap.size v (advE E).1 ∧ Below w.heap.size w w' := by
  obtain ⟨now, pins, gone⟩ := E
  dsimp only at hE hm hm' ⊢
  obtain ⟨w0, hw0⟩ : ∃ x, w.alloc (.cells #[.int .i64 now, .slice pa pins.length pc, .slice ga gone.length gc] 50) = x := ⟨_, rfl⟩
  obtain ⟨w1, hw1⟩ : ∃ x, w0.alloc (.cells #[.int .i64 0, .slice none 0 0, .slice none 0 0] 50) = x := ⟨_, rfl⟩
  have hb0 : Below w.heap.size w w0 := by rw [← hw0]; exact (Below.refl _ _).alloc (Nat.le_refl _) _
  have hb1 : Below w0.heap.size w0 w1 := by rw [← hw1]; exact (Below.refl _ _).alloc (Nat.le_refl _) _
  have s0 : w0.heap.size = w.heap.size + 1 := by rw [← hw0]; simp
  have s1 : w1.heap.size = w.heap.size + 2 := by rw [← hw1]; simp; omega
  have hB : EBox w1 w.heap.size (.int .i64 now) (.slice pa pins.length pc) (.slice ga gone.length gc) := by
    have h : EBox w0 w.heap.size (.int .i64 now) (.slice pa pins.length pc) (.slice ga gone.length gc) := by rw [← hw0]; exact EBox.new _ _ _ _
    exact h.on hb1
  have hR : EBox w1 (w.heap.size + 1) (.int .i64 0) (.slice none 0 0) (.slice none 0 0) := by rw [← hw1, ← s0]; exact EBox.new _ _ _ _
  have hBw : Below w.heap.size w w1 := hb0.trans (hb1.mono hb0.size)
  have HW : Hid ((w.alloc (.cells #[.int .i64 now, .slice pa pins.length pc, .slice ga gone.length gc] 50)).alloc (.cells #[.int .i64 0, .slice none 0 0, .slice none 0 0] 50) = w1) := by rw [hw0]; exact hw1
  have HX : Hid (∀ wi, Below w1.heap.size w1 wi → EBox wi w.heap.size (.int .i64 now) (.slice pa pins.length pc) (.slice ga gone.length gc) ∧ EBox wi (w.heap.size + 1) (.int .i64 0) (.slice none 0 0) (.slice none 0 0) ∧ EAt wi pa ga ⟨now, pins, gone⟩ wi.heap.size ∧ Below w.heap.size w wi) := fun wi hi => ⟨hB.on hi, hR.on hi, (hE.on hBw).on hi, hBw.trans (hi.mono hBw.size)⟩
  have HS1 : Hid (w1.heap.size = w.heap.size + 2) := s1
  have c0 := epochsCopy_any w1 pa ga pc gc ⟨now, pins, gone⟩ (hE.on hBw) hm hm'
  obtain ⟨b0, b1, b2⟩ := hB.cells
  clear hw0 hw1 hb0 hb1 hB hR s0 s1 hE hBw
  go_enter Try.func29, Try.ntmps29
  go_wp2_with fail
  rw [HW.out]
  refine c0.mono ?_
  rintro e w2 ⟨v0, rfl, ho, hb2⟩
  obtain ⟨p2, pc2, g2, gc2, rfl, hA2⟩ := ho.at
  clear c0 b0 b1 b2
  dsimp only at hA2 ⊢
  obtain ⟨w3, hw3⟩ : ∃ x, w2.alloc (.cells #[.int .i64 now, .slice p2 pins.length pc2, .slice g2 gone.length gc2] 50) = x := ⟨_, rfl⟩
  have hb3 : Below w2.heap.size w2 w3 := by rw [← hw3]; exact (Below.refl _ _).alloc (Nat.le_refl _) _
  have hb23 : Below w1.heap.size w1 w3 := hb2.trans (hb3.mono hb2.size)
  have hT : EBox w3 w2.heap.size (.int .i64 now) (.slice p2 pins.length pc2) (.slice g2 gone.length gc2) := by rw [← hw3]; exact EBox.new _ _ _ _
  have ho3 := ho.below hb3 (Nat.le_refl _)
  have HW3 : Hid (w2.alloc (.cells #[.int .i64 now, .slice p2 pins.length pc2, .slice g2 gone.length gc2] 50) = w3) := hw3
  obtain ⟨hB3, hR3, hE3, hw3b⟩ := HX.out w3 hb23
  obtain ⟨b0, b1, b2⟩ := hB3.cells
  have hsz : w.heap.size + 2 ≤ w2.heap.size := by rw [← HS1.out]; exact hb2.size
  clear hw3
  have z0 := cell_regrown b0
  have z1 := cell_regrown b1
  have z2 := cell_regrown b2
  clear b0 b1 b2
  obtain ⟨R, hR⟩ : ∃ R, okE ⟨now, pins, gone⟩ = R := ⟨_, rfl⟩
  have cO : ∀ d os, Calls Try.prog 28 #[.agg #[.int .i64 now, .slice pa pins.length pc, .slice ga gone.length gc]] (grow (redrawn w3 d) os) fun e w'' => e = .returned (.bool R) ∧ ∃ p : Regrown, w'' = grow (redrawn w3 p.d) p.os := fun d os => Calls.regrown_of (by
    have h := implEpochsOk_any (grow (redrawn w3 d) os) pa ga pc gc ⟨now, pins, gone⟩ (hE3.on (below_regrown w3 d os)) hm hm'
    rw [hR] at h
    simpa using h)
  obtain ⟨A, hA⟩ : ∃ A, (pins.any fun p => decide (p = now)) = A := ⟨_, rfl⟩
  have cC : ∀ d os, Calls Try.prog 77 #[.slice pa pins.length pc, .int .i64 now] (grow (redrawn w3 d) os) fun e w'' => e = .returned (.bool A) ∧ ∃ p : Regrown, w'' = grow (redrawn w3 p.d) p.os := fun d os => Calls.regrown_of (by
    have h := containsI_any (grow (redrawn w3 d) os) pa pc pins now (hE3.1.on (below_regrown w3 d os)) hm
    rw [hA] at h
    exact h.mono (by rintro e w'' ⟨rfl, rfl⟩; exact ⟨rfl, Below.refl _ _⟩))
  have HA : Hid ((pins.any fun p => decide (p = now)) = A) := hA
  have HR0 : Hid (okE ⟨now, pins, gone⟩ = R) := hR
  clear hR hA hA2 ho
  cases R with
  | false =>
      have HP : Hid (advE ⟨now, pins, gone⟩ = (⟨now, pins, gone⟩, false)) := by show _ = _; unfold advE; rw [HR0.out]; rfl
      have cF : ∀ d os, Calls Try.prog 71 #[.int .i64 (-1)] (grow (redrawn w3 d) os) fun e w'' => e = .returned (.int .i64 (IntKind.i64.wrap (-1 + 1))) ∧ ∃ p : Regrown, w'' = grow (redrawn w3 p.d) p.os := fun d os => Calls.regrown_of ((pinFromW_any _ _).mono (by rintro e w'' ⟨rfl, rfl⟩; exact ⟨rfl, Below.refl _ _⟩))
      go_wp2_with fail
      rw [HW3.out]
      refine wp_region_quiet_below (by kernel_rfl) (by kernel_rfl) ?_
      repeat (first | go_big_quiet_step (first | with_reducible exact cO _ _ | with_reducible exact cF _ _ | with_reducible exact cC _ _) | quiet_step (first | with_reducible exact cO _ _ | with_reducible exact cF _ _ | with_reducible exact cC _ _))
      refine wpQuiet_nil ?_
      intro _ hw'
      obtain ⟨⟨dq, osq⟩, hw''⟩ := hw'
      subst hw''
      obtain ⟨w4, hw4⟩ : ∃ x, grow (redrawn w3 dq) osq = x := ⟨_, rfl⟩
      have hb4 : Below w3.heap.size w3 w4 := by rw [← hw4]; exact below_regrown w3 dq osq
      rw [hw4]
      have hb14 : Below w1.heap.size w1 w4 := hb23.trans (hb4.mono hb23.size)
      obtain ⟨hB4, hR4, hE4, hw4b⟩ := HX.out w4 hb14
      have hT4 := hT.on hb4
      have ho4 := ho3.below hb4 (Nat.le_refl _)
      clear hw4 cO cF cC z0 z1 z2 hE3 hw3b hT ho3 hb3 hb23 HW3 HW hB3 hR3 hb4
      obtain ⟨t0, t1, t2⟩ := hT4.cells
      obtain ⟨r0, r1, r2⟩ := hR4.cells
      obtain ⟨f0, f1, f2⟩ := (⟨hR4.thaw 0, hR4.thaw 1, hR4.thaw 2⟩ : _ ∧ _ ∧ _)
      obtain ⟨b0, b1, b2⟩ := hB4.cells
      go_wp2_with fail
      obtain ⟨q0, q1, q2⟩ := (hR4.put (.int .i64 now) (.slice p2 pins.length pc2) (.slice g2 gone.length gc2)).cells
      refine bodyPost_ret (v := .tuple #[.agg #[(.int .i64 now), (.slice p2 pins.length pc2), (.slice g2 gone.length gc2)], .bool false]) (by simp [results, Try.results29, go_sem, q0, q1, q2]) rfl ⟨_, by rw [HP.out], ?_, Below.put3 hw4b (by have := HS1.out; omega) _ _ _⟩
      rw [HP.out]
      exact ((ho4).put hR4 _ _ _).mono (by have := HS1.out; omega)
  | true =>
    have hl4 : pins.length ≤ 4 := (okE_len HR0.out).1
    have hnow : 2 ≤ now ∧ now ≤ 1000000000 := (okE_len HR0.out).2.2
    have hsub : IntKind.i64.wrap (now - 1) = now - 1 := by rw [IntKind.wrap_i64]; omega
    have cF : ∀ d os, Calls Try.prog 71 #[.int .i64 (now - 1)] (grow (redrawn w3 d) os) fun e w'' => e = .returned (.int .i64 now) ∧ ∃ p : Regrown, w'' = grow (redrawn w3 p.d) p.os := fun d os => Calls.regrown_of (by
      have h := pinFrom_any (now - 1) (grow (redrawn w3 d) os) (by omega) (by omega)
      rw [show now - 1 + 1 = now by omega] at h
      exact h.mono (by rintro e w'' ⟨rfl, rfl⟩; exact ⟨rfl, Below.refl _ _⟩))
    by_cases hmx : now = 1000000000
    case pos =>
      have HP : Hid (advE ⟨now, pins, gone⟩ = (⟨now, pins, gone⟩, false)) := by show _ = _; unfold advE; rw [show decide ((⟨now, pins, gone⟩ : Ep).now = 1000000000) = true from decide_eq_true hmx]; simp
      have hx1 : (now == 1000000000) = true := by simp [hmx]
      have hx2 : decide (now = 1000000000) = true := decide_eq_true hmx
      clear hmx
      go_wp2_with fail
      rw [HW3.out]
      refine wp_region_quiet_below (by kernel_rfl) (by kernel_rfl) ?_
      repeat (first | go_big_quiet_step (first | with_reducible exact cO _ _ | with_reducible exact cF _ _ | with_reducible exact cC _ _) | quiet_step (first | with_reducible exact cO _ _ | with_reducible exact cF _ _ | with_reducible exact cC _ _))
      refine wpQuiet_nil ?_
      intro _ hw'
      obtain ⟨⟨dq, osq⟩, hw''⟩ := hw'
      subst hw''
      obtain ⟨w4, hw4⟩ : ∃ x, grow (redrawn w3 dq) osq = x := ⟨_, rfl⟩
      have hb4 : Below w3.heap.size w3 w4 := by rw [← hw4]; exact below_regrown w3 dq osq
      rw [hw4]
      have hb14 : Below w1.heap.size w1 w4 := hb23.trans (hb4.mono hb23.size)
      obtain ⟨hB4, hR4, hE4, hw4b⟩ := HX.out w4 hb14
      have hT4 := hT.on hb4
      have ho4 := ho3.below hb4 (Nat.le_refl _)
      clear hw4 cO cF cC z0 z1 z2 hE3 hw3b hT ho3 hb3 hb23 HW3 HW hB3 hR3 hb4
      obtain ⟨t0, t1, t2⟩ := hT4.cells
      obtain ⟨r0, r1, r2⟩ := hR4.cells
      obtain ⟨f0, f1, f2⟩ := (⟨hR4.thaw 0, hR4.thaw 1, hR4.thaw 2⟩ : _ ∧ _ ∧ _)
      obtain ⟨b0, b1, b2⟩ := hB4.cells
      go_wp2_with fail
      obtain ⟨q0, q1, q2⟩ := (hR4.put (.int .i64 now) (.slice p2 pins.length pc2) (.slice g2 gone.length gc2)).cells
      refine bodyPost_ret (v := .tuple #[.agg #[(.int .i64 now), (.slice p2 pins.length pc2), (.slice g2 gone.length gc2)], .bool false]) (by simp [results, Try.results29, go_sem, q0, q1, q2]) rfl ⟨_, by rw [HP.out], ?_, Below.put3 hw4b (by have := HS1.out; omega) _ _ _⟩
      rw [HP.out]
      exact ((ho4).put hR4 _ _ _).mono (by have := HS1.out; omega)
    case neg =>
    have hx1 : (now == 1000000000) = false := by simp [hmx]
    have hx2 : decide (now = 1000000000) = false := decide_eq_false hmx
    have HO : Hid (advE ⟨now, pins, gone⟩ = if A = true then (⟨now, pins, gone⟩, false) else (⟨now + 1, pins, gone⟩, true)) := by
      show _ = _
      unfold advE
      rw [HR0.out, show decide ((⟨now, pins, gone⟩ : Ep).now = 1000000000) = false from decide_eq_false hmx]
      dsimp only
      rw [HA.out]
      cases A <;> simp
    have hwr : IntKind.i64.wrap (now + 1) = now + 1 := by rw [IntKind.wrap_i64]; omega
    clear hmx
    cases A with
    | true =>
      have HP : Hid (advE ⟨now, pins, gone⟩ = (⟨now, pins, gone⟩, false)) := by show _ = _; rw [HO.out]; rfl
      go_wp2_with fail
      rw [HW3.out]
      refine wp_region_quiet_below (by kernel_rfl) (by kernel_rfl) ?_
      repeat (first | go_big_quiet_step (first | with_reducible exact cO _ _ | with_reducible exact cF _ _ | with_reducible exact cC _ _) | quiet_step (first | with_reducible exact cO _ _ | with_reducible exact cF _ _ | with_reducible exact cC _ _))
      refine wpQuiet_nil ?_
      intro _ hw'
      obtain ⟨⟨dq, osq⟩, hw''⟩ := hw'
      subst hw''
      obtain ⟨w4, hw4⟩ : ∃ x, grow (redrawn w3 dq) osq = x := ⟨_, rfl⟩
      have hb4 : Below w3.heap.size w3 w4 := by rw [← hw4]; exact below_regrown w3 dq osq
      rw [hw4]
      have hb14 : Below w1.heap.size w1 w4 := hb23.trans (hb4.mono hb23.size)
      obtain ⟨hB4, hR4, hE4, hw4b⟩ := HX.out w4 hb14
      have hT4 := hT.on hb4
      have ho4 := ho3.below hb4 (Nat.le_refl _)
      clear hw4 cO cF cC z0 z1 z2 hE3 hw3b hT ho3 hb3 hb23 HW3 HW hB3 hR3 hb4
      obtain ⟨t0, t1, t2⟩ := hT4.cells
      obtain ⟨r0, r1, r2⟩ := hR4.cells
      obtain ⟨f0, f1, f2⟩ := (⟨hR4.thaw 0, hR4.thaw 1, hR4.thaw 2⟩ : _ ∧ _ ∧ _)
      obtain ⟨b0, b1, b2⟩ := hB4.cells
      go_wp2_with fail
      obtain ⟨q0, q1, q2⟩ := (hR4.put (.int .i64 now) (.slice p2 pins.length pc2) (.slice g2 gone.length gc2)).cells
      refine bodyPost_ret (v := .tuple #[.agg #[(.int .i64 now), (.slice p2 pins.length pc2), (.slice g2 gone.length gc2)], .bool false]) (by simp [results, Try.results29, go_sem, q0, q1, q2]) rfl ⟨_, by rw [HP.out], ?_, Below.put3 hw4b (by have := HS1.out; omega) _ _ _⟩
      rw [HP.out]
      exact ((ho4).put hR4 _ _ _).mono (by have := HS1.out; omega)
    | false =>
      have HP : Hid (advE ⟨now, pins, gone⟩ = (⟨now + 1, pins, gone⟩, true)) := by show _ = _; rw [HO.out]; rfl
      have hRT : ¬ (w.heap.size + 1 = w2.heap.size) := by omega
      have hTR : ¬ (w2.heap.size = w.heap.size + 1) := by omega
      go_wp2_with fail
      rw [HW3.out]
      refine wp_region_quiet_below (by kernel_rfl) (by kernel_rfl) ?_
      repeat (first | go_big_quiet_step (first | with_reducible exact cO _ _ | with_reducible exact cF _ _ | with_reducible exact cC _ _) | quiet_step (first | with_reducible exact cO _ _ | with_reducible exact cF _ _ | with_reducible exact cC _ _))
      refine wpQuiet_nil ?_
      intro _ hw'
      obtain ⟨⟨dq, osq⟩, hw''⟩ := hw'
      subst hw''
      obtain ⟨w4, hw4⟩ : ∃ x, grow (redrawn w3 dq) osq = x := ⟨_, rfl⟩
      have hb4 : Below w3.heap.size w3 w4 := by rw [← hw4]; exact below_regrown w3 dq osq
      rw [hw4]
      have hb14 : Below w1.heap.size w1 w4 := hb23.trans (hb4.mono hb23.size)
      obtain ⟨hB4, hR4, hE4, hw4b⟩ := HX.out w4 hb14
      have hT4 := hT.on hb4
      have ho4 := ho3.below hb4 (Nat.le_refl _)
      clear hw4 cO cF cC z0 z1 z2 hE3 hw3b hT ho3 hb3 hb23 HW3 HW hB3 hR3 hb4
      obtain ⟨t0, t1, t2⟩ := hT4.cells
      obtain ⟨r0, r1, r2⟩ := hR4.cells
      obtain ⟨f0, f1, f2⟩ := (⟨hR4.thaw 0, hR4.thaw 1, hR4.thaw 2⟩ : _ ∧ _ ∧ _)
      obtain ⟨b0, b1, b2⟩ := hB4.cells
      have yf := hT4.thaw 0
      obtain ⟨m0, m1, m2⟩ := (hT4.set0 (.int .i64 (now + 1))).cells
      have hRq' := hR4.far 0 (.int .i64 (now + 1)) hRT
      obtain ⟨z0, z1, z2⟩ := hRq'.cells
      obtain ⟨zf0, zf1, zf2⟩ := (⟨hRq'.thaw 0, hRq'.thaw 1, hRq'.thaw 2⟩ : _ ∧ _ ∧ _)
      obtain ⟨hoP, hoG⟩ := ho4.parts
      have hw9' : Below w.heap.size w (w4.setCell ⟨w2.heap.size, 0, none⟩ (.int .i64 (now + 1))) := hw4b.setCell (show w.heap.size ≤ w2.heap.size by omega) _
      have HO9 : Hid (EOwn (w4.setCell ⟨w2.heap.size, 0, none⟩ (.int .i64 (now + 1))) w1.heap.size (.agg #[.int .i64 (now + 1), .slice p2 pins.length pc2, .slice g2 gone.length gc2]) ⟨now + 1, pins, gone⟩) := EOwn.mk (hoP.far hT4 0 _) (hoG.far hT4 0 _)
      clear hoP hoG ho4
      go_wp2_with fail
      obtain ⟨q0, q1, q2⟩ := (hRq'.put (.int .i64 (now + 1)) (.slice p2 pins.length pc2) (.slice g2 gone.length gc2)).cells
      refine bodyPost_ret (v := .tuple #[.agg #[(.int .i64 (now + 1)), (.slice p2 pins.length pc2), (.slice g2 gone.length gc2)], .bool true]) (by simp [results, Try.results29, go_sem, q0, q1, q2]) rfl ⟨_, by rw [HP.out], ?_, Below.put3 hw9' (by have := HS1.out; omega) _ _ _⟩
      rw [HP.out]
      exact ((HO9.out).put hRq' _ _ _).mono (by have := HS1.out; omega)
end Go.Proofs.Ytockgojdmaladac
