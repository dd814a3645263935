/- The other text's FreeNodes. Written by mkepoch.py. -/
import Derived.Test.YtockgojdmaladacEpochCopy2
import Derived.Test.YtockgojdmaladacEpochOkSpec
import Derived.Test.YtockgojdmaladacEpochFree
namespace Go.Proofs.Ytockgojdmaladac
open Go.RowKit Go.Sort
set_option maxRecDepth 100000 in
set_option maxHeartbeats 8000000 in
theorem specFreeNodes_any (w : World) (pa ga : Option Addr) (pc gc : Nat) (E : Ep) (hE : EAt w pa ga E w.heap.size) (hm : E.pins.length ≤ 1048576) (hm' : E.gone.length ≤ 1048576) :
    Calls Try.prog 38 #[.agg #[.int .i64 E.now, .slice pa E.pins.length pc, .slice ga E.gone.length gc]] w fun e w' => ∃ v vf, e = .returned (.tuple #[v, vf]) ∧ EOwn w' w.heap.size v (freeE E).1 ∧ OwnV w' w.heap.size 3 vf (ints (freeE E).2) ∧ (∀ k, vf.ownBlock = some k → ∀ a v1 v2, v = .agg #[a, v1, v2] → v1.ownBlock ≠ some k) ∧ Below w.heap.size w w' := by
  obtain ⟨now, pins, gone⟩ := E
  dsimp only at hE hm hm' ⊢
  obtain ⟨w0, hw0⟩ : ∃ x, w.alloc (.cells #[.int .i64 now, .slice pa pins.length pc, .slice ga gone.length gc] 50) = x := ⟨_, rfl⟩
  obtain ⟨w1, hw1⟩ : ∃ x, w0.alloc (.cells #[.int .i64 0, .slice none 0 0, .slice none 0 0] 50) = x := ⟨_, rfl⟩
  have hb0 : Below w.heap.size w w0 := by rw [← hw0]; exact (Below.refl _ _).alloc (Nat.le_refl _) _
  have hb1 : Below w0.heap.size w0 w1 := by rw [← hw1]; exact (Below.refl _ _).alloc (Nat.le_refl _) _
  have s0 : w0.heap.size = w.heap.size + 1 := by rw [← hw0]; simp
  have s1 : w1.heap.size = w.heap.size + 2 := by rw [← hw1]; simp; omega
  have hB : EBox w1 w.heap.size (.int .i64 now) (.slice pa pins.length pc) (.slice ga gone.length gc) := by
    have h : EBox w0 w.heap.size (.int .i64 now) (.slice pa pins.length pc) (.slice ga gone.length gc) := by rw [← hw0]; exact EBox.new _ _ _ _
    exact h.on hb1
  have hR : EBox w1 (w.heap.size + 1) (.int .i64 0) (.slice none 0 0) (.slice none 0 0) := by rw [← hw1, ← s0]; exact EBox.new _ _ _ _
  have hBw : Below w.heap.size w w1 := hb0.trans (hb1.mono hb0.size)
  have HW : Hid ((w.alloc (.cells #[.int .i64 now, .slice pa pins.length pc, .slice ga gone.length gc] 50)).alloc (.cells #[.int .i64 0, .slice none 0 0, .slice none 0 0] 50) = w1) := by rw [hw0]; exact hw1
  have HX : Hid (∀ wi, Below w1.heap.size w1 wi → EBox wi w.heap.size (.int .i64 now) (.slice pa pins.length pc) (.slice ga gone.length gc) ∧ EBox wi (w.heap.size + 1) (.int .i64 0) (.slice none 0 0) (.slice none 0 0) ∧ EAt wi pa ga ⟨now, pins, gone⟩ wi.heap.size ∧ Below w.heap.size w wi) := fun wi hi => ⟨hB.on hi, hR.on hi, (hE.on hBw).on hi, hBw.trans (hi.mono hBw.size)⟩
  have HS1 : Hid (w1.heap.size = w.heap.size + 2) := s1
  have c0 := l08Copy_any w1 pa ga pc gc ⟨now, pins, gone⟩ (hE.on hBw) hm hm'
  obtain ⟨b0, b1, b2⟩ := hB.cells
  clear hw0 hw1 hb0 hb1 hB hR s0 s1 hE hBw
  go_enter Try.func38, Try.ntmps38
  go_wp2_with fail
  rw [HW.out]
  refine c0.mono ?_
  rintro e w2 ⟨v0, rfl, ho, hb2⟩
  obtain ⟨p2, pc2, g2, gc2, rfl, hA2⟩ := ho.at
  clear c0 b0 b1 b2
  dsimp only at hA2 ⊢
  obtain ⟨w3, hw3⟩ : ∃ x, w2.alloc (.cells #[.int .i64 now, .slice p2 pins.length pc2, .slice g2 gone.length gc2] 50) = x := ⟨_, rfl⟩
  have hb3 : Below w2.heap.size w2 w3 := by rw [← hw3]; exact (Below.refl _ _).alloc (Nat.le_refl _) _
  have hb23 : Below w1.heap.size w1 w3 := hb2.trans (hb3.mono hb2.size)
  have hT : EBox w3 w2.heap.size (.int .i64 now) (.slice p2 pins.length pc2) (.slice g2 gone.length gc2) := by rw [← hw3]; exact EBox.new _ _ _ _
  have ho3 := ho.below hb3 (Nat.le_refl _)
  have HW3 : Hid (w2.alloc (.cells #[.int .i64 now, .slice p2 pins.length pc2, .slice g2 gone.length gc2] 50) = w3) := hw3
  obtain ⟨hB3, hR3, hE3, hw3b⟩ := HX.out w3 hb23
  obtain ⟨b0, b1, b2⟩ := hB3.cells
  have hsz : w.heap.size + 2 ≤ w2.heap.size := by rw [← HS1.out]; exact hb2.size
  clear hw3
  have HOP : Hid (OwnV w2 w1.heap.size 3 (.slice p2 pins.length pc2) (ints pins) ∧ OwnP w2 w1.heap.size 101 (.slice g2 gone.length gc2) gone) := ho.parts
  have s3 : w3.heap.size = w2.heap.size + 1 := by rw [← HW3.out]; simp
  obtain ⟨w3b, hw3b'⟩ : ∃ x, w3.alloc (.cells #[] 3) = x := ⟨_, rfl⟩
  have hb3b : Below w3.heap.size w3 w3b := by rw [← hw3b']; exact (Below.refl _ _).alloc (Nat.le_refl _) _
  have hb13 : Below w1.heap.size w1 w3b := hb23.trans (hb3b.mono hb23.size)
  have hT3 := hT.on hb3b
  have hF3 : OwnV w3b (w2.heap.size + 1) 3 (.slice (some ⟨w2.heap.size + 1, 0, none⟩) 0 0) (ints []) := by rw [← hw3b', ← s3]; exact OwnV.empty w3 3
  have hb2b : Below w2.heap.size w2 w3b := hb3.trans (hb3b.mono hb3.size)
  have HW4 : Hid ((w2.alloc (.cells #[.int .i64 now, .slice p2 pins.length pc2, .slice g2 gone.length gc2] 50)).alloc (.cells #[] 3) = w3b) := by rw [HW3.out]; exact hw3b'
  obtain ⟨hB3', hR3', hE3', hw3b''⟩ := HX.out w3b hb13
  have cO := specEpochsOk_any w3b pa ga pc gc ⟨now, pins, gone⟩ hE3' hm hm'
  obtain ⟨b0, b1, b2⟩ := hB3'.cells
  clear hw3b' hB3 hR3 hE3 hw3b hT ho hA2 hb3 hb23 HW3 HW
  rw [← HW4.out] at b0 b1 b2
  go_wp2_with fail
  rw [HW4.out] at b0 b1 b2 ⊢
  refine cO.mono ?_
  rintro e w4 ⟨rfl, hb4⟩
  clear cO b0 b1 b2
  have hb14 : Below w1.heap.size w1 w4 := hb13.trans (hb4.mono hb13.size)
  obtain ⟨hB4, hR4, hE4, hw4b⟩ := HX.out w4 hb14
  have hb24 : Below w2.heap.size w2 w4 := hb2b.trans (hb4.mono hb2b.size)
  have hT4 := hT3.on hb4
  have hF4 := hF3.below hb4 (Nat.le_refl _)
  have hoP4 := HOP.out.1.below hb24 (Nat.le_refl _)
  have hoG4 := HOP.out.2.below hb24 (Nat.le_refl _)
  have HOP0 : Hid (OwnV w2 w1.heap.size 3 (.slice p2 pins.length pc2) (ints pins)) := HOP.out.1
  have HPB : Hid (∀ k, (Value.slice p2 pins.length pc2).ownBlock = some k → k < w2.heap.size) := fun k hk => (HOP.out.1.lt k hk).2
  clear hb3b hb13 hT3 hF3 hb2b HW4 hB3' hR3' hE3' hw3b'' hb4 HOP
  obtain ⟨t0, t1, t2⟩ := hT4.cells
  obtain ⟨r0, r1, r2⟩ := hR4.cells
  obtain ⟨f0, f1, f2⟩ := (⟨hR4.thaw 0, hR4.thaw 1, hR4.thaw 2⟩ : _ ∧ _ ∧ _)
  obtain ⟨b0, b1, b2⟩ := hB4.cells
  cases hok : okE ⟨now, pins, gone⟩ with
  | false =>
    have HP : Hid (freeE ⟨now, pins, gone⟩ = (⟨now, pins, gone⟩, [])) := by show _ = _; unfold freeE; rw [hok]; rfl
    have HF : Hid (OwnV w4 w2.heap.size 3 (.slice (some ⟨w2.heap.size + 1, 0, none⟩) 0 0) (ints [])) := hF4.mono (Nat.le_succ _)
    have HD : Hid (∀ k, ((.slice (some ⟨w2.heap.size + 1, 0, none⟩) 0 0) : Value).ownBlock = some k → (Value.slice p2 pins.length pc2).ownBlock = some k → False) := fun k hk he => by have := HPB.out k he; have := (HF.out.lt k hk).1; omega
    clear hok
    go_wp2_with fail
    obtain ⟨q0, q1, q2⟩ := (hR4.put (.int .i64 now) (.slice p2 pins.length pc2) (.slice g2 gone.length gc2)).cells
    refine bodyPost_ret (v := .tuple #[.agg #[(.int .i64 now), (.slice p2 pins.length pc2), (.slice g2 gone.length gc2)], (.slice (some ⟨w2.heap.size + 1, 0, none⟩) 0 0)]) (by simp [results, Try.results38, go_sem, q0, q1, q2]) rfl ⟨_, _, rfl, ?_, ?_, ?_, Below.put3 hw4b (by have := HS1.out; omega) _ _ _⟩
    · rw [HP.out]
      exact ((EOwn.mk hoP4 hoG4).put hR4 _ _ _).mono (by have := HS1.out; omega)
    · rw [HP.out]
      exact ((HF.out).kept fun k hk => put3_other _ _ _ _ _ k (hR4.neV (HF.out) k hk)).mono (by have := HS1.out; omega)
    · intro k hk a v1 v2 hv he
      simp only [Value.agg.injEq, Array.mk.injEq, List.cons.injEq, and_true] at hv
      obtain ⟨_, rfl, rfl⟩ := hv
      exact HD.out k hk he
  | true =>
    have hl40 : gone.length ≤ 40 := (okE_len hok).2.1
    have hnow : 2 ≤ now ∧ now ≤ 1000000000 := (okE_len hok).2.2
    have HP : Hid (freeE ⟨now, pins, gone⟩ = (⟨now, pins, stayG now gone⟩, freeF now gone)) := by show _ = _; unfold freeE; rw [if_pos hok]; rfl
    have hwr2 : IntKind.i64.wrap (now - 2) = now - 2 := by rw [IntKind.wrap_i64]; omega
    have hal : Below w4.heap.size w4 (w4.alloc (.cells #[] 101)) := (Below.refl _ _).alloc (Nat.le_refl _) _
    have hT5 := hT4.on hal
    obtain ⟨_, _, x2⟩ := hT5.cells
    have xf := hT5.thaw 2
    have HI0 : Hid (FrInv w2 w2.heap.size w2.heap.size (.int .i64 now) (.slice p2 pins.length pc2) (.slice (some ⟨w2.heap.size + 1, 0, none⟩) 0 0) [] [] ((w4.alloc (.cells #[] 101)).setCell ⟨w2.heap.size, 2, none⟩ (.slice (some ⟨w4.heap.size, 0, none⟩) 0 0))) := by
      have hsz4 := hb24.size
      refine ⟨by omega, (hb24.trans (hal.mono hsz4)).setCell (show w2.heap.size ≤ w2.heap.size by omega) _, ⟨_, _, hT5.set2 _, ?_⟩, ⟨_, _, rfl, ?_⟩⟩
      · exact ((OwnP.empty w4 101).mono hsz4).far hT5 2 _
      · exact ((hF4.mono (Nat.le_succ _)).below hal (Nat.le_refl _)).far hT5 2 _
    have HOP2 : Hid (∀ wi, Below w2.heap.size w2 wi → OwnV wi w1.heap.size 3 (.slice p2 pins.length pc2) (ints pins) ∧ Below w1.heap.size w1 wi) := fun wi hi => ⟨HOP0.out.below hi (Nat.le_refl _), hb2.trans (hi.mono hb2.size)⟩
    have hRT : ¬ (w.heap.size + 1 = w2.heap.size) := by omega
    have hTR : ¬ (w2.heap.size = w.heap.size + 1) := by omega
    clear hok hal hT5 hT4 hF4 hoP4 hoG4 hE4 hR4 r0 r1 r2 f0 f1 f2 t0 t1 t2 hB4 hw4b hb14 hb24 HOP0
    go_wp2_with fail
    go_loopw [5, 6] (fun vf i wr => Box (∃ k : Nat, k ≤ gone.length ∧ i = .int .i64 k ∧ FrInv w2 w2.heap.size w2.heap.size (.int .i64 now) (.slice p2 pins.length pc2) vf (stayG now (gone.take k)) (freeF now (gone.take k)) wr))
      (fun _ i _ => gone.length - (intOf i).toNat)
    case atStart => exact ⟨⟨0, by omega, rfl, HI0.out⟩⟩
    case round =>
      obtain ⟨k, hk, rfl, hinv⟩ := hrel.out
      obtain ⟨wo, hwo⟩ : ∃ wo, wo = wr := ⟨_, rfl⟩
      subst hwo
      clear hrel HI0
      obtain ⟨hoPr, hb1r⟩ := HOP2.out wo hinv.below
      obtain ⟨hBr, hRr, hEr, hwr⟩ := HX.out wo hb1r
      obtain ⟨b0, b1, b2⟩ := hBr.cells
      obtain ⟨vfa, vfc, rfl, hVF⟩ := hinv.fr
      obtain ⟨ga2, gc3, hTr, hGr⟩ := hinv.box
      have hlF := freeF_len now (gone.take k)
      have hlG := stayG_len now (gone.take k)
      rw [List.length_take] at hlF hlG
      by_cases hlt : k < gone.length
      · obtain ⟨gg, offg, hga, hgs, q0, q1⟩ := hEr.2 k hlt
        obtain ⟨f, hf⟩ : ∃ f, gone[k] = f := ⟨_, rfl⟩
        have HX2 : Hid (gone[k] = f ∧ (k : Int) < (gone.length : Int)) := ⟨hf, by omega⟩
        rw [show (⟨now, pins, gone⟩ : Ep).gone[k] = f from hf] at q0 q1
        have hi1 : (0 : Int) ≤ (k : Int) := by omega
        have hi3 : (k : Int) < (gone.length : Int) := by omega
        subst hga
        clear hf
        by_cases hfr : f.2 ≤ now - 2
        · have hd : decide (f.2 ≤ now - 2) = true := decide_eq_true hfr
          have HN : Hid (freeF now (gone.take (k + 1)) = freeF now (gone.take k) ++ [f.1] ∧ stayG now (gone.take (k + 1)) = stayG now (gone.take k)) := by
            have h := free_yes (now := now) (k := k) (L := gone) (by omega) (by rw [HX2.out.1]; exact hfr)
            rw [HX2.out.1] at h
            exact h
          go_wp2_with fail
          go_quiet (fail)
          generalize hwq : wo.drewN nq = wq
          have hbq : Below wo.heap.size wo wq := by rw [← hwq]; exact ⟨rfl, rfl, rfl, Nat.le_refl _, fun _ _ => rfl⟩
          have hinv2 := hinv.on hbq
          obtain ⟨y0, y1, y2⟩ := (hBr.on hbq).cells
          have z0 := cell_on2 q0 hbq
          have z1 := cell_on2 q1 hbq
          have hVF2 := hVF.below hbq (Nat.le_refl _)
          have hlf : (freeF now (gone.take k)).length < 10000000 := by omega
          have hbs : w2.heap.size ≤ wq.heap.size := hinv2.below.size
          have HI2 : Hid (FrInv w2 w2.heap.size w2.heap.size (.int .i64 now) (.slice p2 pins.length pc2) (.slice vfa (freeF now (gone.take k)).length vfc) (stayG now (gone.take k)) (freeF now (gone.take k)) wq ∧ OwnV wq w2.heap.size 3 (.slice vfa (freeF now (gone.take k)).length vfc) (ints (freeF now (gone.take k)))) := ⟨hinv2, hVF2⟩
          clear hwq hbq b0 b1 b2 q0 q1 hBr hRr hEr hTr hGr hVF hVF2 hinv hinv2 hoPr hb1r hwr hfr
          go_wp2_with (at_builtin; refine wpList_snocI rfl (.tmp 34) (.tmp 41) 27 rfl w2.heap.size Try.underlying27 Try.infoInt _ (freeF now (gone.take k)) rfl HI2.out.2 f.1 _ rfl rfl hlf hbs ?_; intro v9 w9 hown9 hgr9)
          have hinv9 := (HI2.out.1.on (wr := wq) ((Below.refl _ _).alloc (Nat.le_refl _) (.cells #[.int .i64 f.1] 3))).free hgr9 hown9
          rw [← HN.out.1, ← HN.out.2] at hinv9
          go_roundw
          case rel =>
            try ((repeat apply Exists.intro); refine ⟨?_, rfl⟩)
            exact ⟨⟨k + 1, by have := HX2.out.2; omega, by go_num, hinv9⟩⟩
          case measure => have := HX2.out.2; simp [intOf]; omega
        · have hd : decide (f.2 ≤ now - 2) = false := decide_eq_false hfr
          have HN : Hid (freeF now (gone.take (k + 1)) = freeF now (gone.take k) ∧ stayG now (gone.take (k + 1)) = stayG now (gone.take k) ++ [f]) := by
            have h := free_no (now := now) (k := k) (L := gone) (by omega) (by rw [HX2.out.1]; exact hfr)
            rw [HX2.out.1] at h
            exact h
          go_wp2_with fail
          go_quiet (fail)
          generalize hwq : wo.drewN nq = wq
          have hbq : Below wo.heap.size wo wq := by rw [← hwq]; exact ⟨rfl, rfl, rfl, Nat.le_refl _, fun _ _ => rfl⟩
          have hinv2 := hinv.on hbq
          obtain ⟨y0, y1, y2⟩ := (hBr.on hbq).cells
          have z0 := cell_on2 q0 hbq
          have z1 := cell_on2 q1 hbq
          have hTq := hTr.on hbq
          have hGq := hGr.below hbq (Nat.le_refl _)
          obtain ⟨u0, u1, u2⟩ := hTq.cells
          have uf := hTq.thaw 2
          have u2b := (hTq.on ((Below.refl _ _).alloc (Nat.le_refl _) (.cells #[.int .i64 f.1, .int .i64 f.2] 101))).cells.2.2
          have hlg : (stayG now (gone.take k)).length < 10000000 := by omega
          have hbs : w2.heap.size ≤ wq.heap.size := hinv2.below.size
          obtain ⟨Gk, hGk⟩ : ∃ G, stayG now (gone.take k) = G := ⟨_, rfl⟩
          obtain ⟨Fk, hFk⟩ : ∃ F, freeF now (gone.take k) = F := ⟨_, rfl⟩
          rw [hGk, hFk] at HN
          rw [hGk] at hTq hGq u2 u2b hlg
          rw [hGk, hFk] at hinv2
          rw [hFk]
          have hbA : Below wq.heap.size wq (wq.drew.alloc (.cells #[.int .i64 f.1, .int .i64 f.2] 101)) := (Below.drew (Below.refl _ _)).alloc (Nat.le_refl _) _
          have HI2 : Hid (FrInv w2 w2.heap.size w2.heap.size (.int .i64 now) (.slice p2 pins.length pc2) (.slice vfa Fk.length vfc) Gk Fk (wq.drew.alloc (.cells #[.int .i64 f.1, .int .i64 f.2] 101)) ∧ OwnP (wq.drew.alloc (.cells #[.int .i64 f.1, .int .i64 f.2] 101)) w2.heap.size 101 (.slice ga2 Gk.length gc3) Gk ∧ EBox (wq.drew.alloc (.cells #[.int .i64 f.1, .int .i64 f.2] 101)) w2.heap.size (.int .i64 now) (.slice p2 pins.length pc2) (.slice ga2 Gk.length gc3)) := ⟨hinv2.on hbA, hGq.below hbA (Nat.le_refl _), hTq.on hbA⟩
          clear hwq hbq b0 b1 b2 q0 q1 hBr hRr hEr hTr hGr hVF hinv hinv2 hoPr hb1r hwr hfr hGk hFk hTq hGq hbA
          go_wp2_with fail
          go_region_law (refine step_snocG (by rfl) _ _ 48 (by rfl) w2.heap.size 101 Try.underlying48 Try.infoGo _ Gk (by rfl) (by exact HI2.out.2.1) wq.heap.size f (0, 0) (by rfl) (by exact heap_alloc_new wq.drew _) hlg (by first | exact Nat.le_succ_of_le hbs | (simp; omega)) ?_; intro g9 c9 w9 hown9 hgr9; obtain ⟨hT9, hinv9⟩ := HI2.out.1.stay HI2.out.2.2 HI2.out.2.1 hgr9 hown9; have x2 := hT9.cells.2.2; have xf := hT9.thaw 2)
          all_goals (
            rw [← HN.out.2, ← HN.out.1] at hinv9
            have HINV : Hid (FrInv w2 w2.heap.size w2.heap.size (.int .i64 now) (.slice p2 pins.length pc2) (.slice vfa (freeF now (gone.take (k + 1))).length vfc) (stayG now (gone.take (k + 1))) (freeF now (gone.take (k + 1))) (w9.setCell ⟨w2.heap.size, 2, none⟩ (.slice (some ⟨g9, 0, none⟩) (Gk.length + 1) c9))) := by rw [HN.out.1] at hinv9 ⊢; exact hinv9
            clear hinv9 hgr9 hown9 hT9
            go_wp2_with fail
            refine ⟨?_, ?_⟩
            · refine ⟨⟨k + 1, by have := HX2.out.2; omega, by go_num, ?_⟩⟩
              have h := HINV.out
              rw [HN.out.1] at h ⊢
              exact h
            · have := HX2.out.2; simp [intOf]; omega)
      · have hi3 : ¬ (k : Int) < (gone.length : Int) := by omega
        have hke : gone.take k = gone := List.take_of_length_le (by omega)
        rw [hke] at hVF hTr hGr
        obtain ⟨t0, t1, t2⟩ := hTr.cells
        obtain ⟨r0, r1, r2⟩ := hRr.cells
        obtain ⟨f0, f1, f2⟩ := (⟨hRr.thaw 0, hRr.thaw 1, hRr.thaw 2⟩ : _ ∧ _ ∧ _)
        have HD : Hid (∀ k', (Value.slice vfa (freeF now gone).length vfc).ownBlock = some k' → (Value.slice p2 pins.length pc2).ownBlock = some k' → False) := fun k' hk' he => by have := HPB.out k' he; have := (hVF.lt k' hk').1; omega
        have HO9 : Hid (EOwn wo w1.heap.size (.agg #[.int .i64 now, .slice p2 pins.length pc2, .slice ga2 (stayG now gone).length gc3]) ⟨now, pins, stayG now gone⟩ ∧ OwnV wo w1.heap.size 3 (.slice vfa (freeF now gone).length vfc) (ints (freeF now gone))) := ⟨EOwn.mk hoPr (hGr.mono hb2.size), hVF.mono hb2.size⟩
        rw [hke]
        clear hke hVF hGr hoPr hEr hBr hinv hlF hlG
        go_wp2_with fail
        obtain ⟨q0, q1, q2⟩ := (hRr.put (.int .i64 now) (.slice p2 pins.length pc2) (.slice ga2 (stayG now gone).length gc3)).cells
        refine bodyPost_ret (v := .tuple #[.agg #[(.int .i64 now), (.slice p2 pins.length pc2), (.slice ga2 (stayG now gone).length gc3)], (.slice vfa (freeF now gone).length vfc)]) (by simp [results, Try.results38, go_sem, q0, q1, q2]) rfl ⟨_, _, rfl, ?_, ?_, ?_, Below.put3 hwr (by have := HS1.out; omega) _ _ _⟩
        · rw [HP.out]
          exact ((HO9.out.1).put hRr _ _ _).mono (by have := HS1.out; omega)
        · rw [HP.out]
          exact ((HO9.out.2).kept fun k hk => put3_other _ _ _ _ _ k (hRr.neV (HO9.out.2) k hk)).mono (by have := HS1.out; omega)
        · intro k hk a v1 v2 hv he
          simp only [Value.agg.injEq, Array.mk.injEq, List.cons.injEq, and_true] at hv
          obtain ⟨_, rfl, rfl⟩ := hv
          exact HD.out k hk he
end Go.Proofs.Ytockgojdmaladac
