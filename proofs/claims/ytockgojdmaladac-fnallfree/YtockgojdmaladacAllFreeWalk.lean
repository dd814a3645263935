/- The law on all that is free in the end, walked. -/
import Derived.Test.YtockgojdmaladacEpochHand
import Derived.Test.YtockgojdmaladacEpochDraw
import Derived.Test.YtockgojdmaladacEpochChange
import Derived.Test.YtockgojdmaladacEpochAdvI
import Derived.Test.YtockgojdmaladacEpochFreeI
import Derived.Test.YtockgojdmaladacBig
namespace Go.Proofs.Ytockgojdmaladac
open Go.RowKit Go.Sort

set_option maxRecDepth 100000 in
set_option maxHeartbeats 8000000 in
theorem allFree_walk (ca : Option Addr) (n cap : Nat) (w : World) (hcode : CodeAt w ca n w.heap.size) (hn : n ≤ maxLen) :
    Calls Try.prog 7 #[.slice ca n cap] w fun e w' => e = .returned (.bool true) ∧ Below w.heap.size w w' := by
  unfold maxLen at hn
  have c0 := big_any ca n cap w (by omega)
  by_cases hbig : 1048576 < n
  · rw [decide_eq_true hbig] at c0
    go_enter Try.func7, Try.ntmps7
    go_wp2_with fail
    refine c0.mono ?_
    rintro e w1 ⟨rfl, rfl⟩
    go_wp2_with fail
    go_ret
    exact ⟨rfl, Below.refl _ _⟩
  · rw [decide_eq_false hbig] at c0
    have hn' : n ≤ 1048576 := by omega
    have c1 := drawEpochs_any w ca n cap hcode hn'
    clear hcode hbig
    go_enter Try.func7, Try.ntmps7
    go_wp2_with fail
    refine c0.mono ?_
    rintro e w1 ⟨rfl, hw1⟩
    rw [← hw1]
    clear hw1 c0
    go_wp2_with fail
    refine c1.mono ?_
    rintro e w2 ⟨v2, E0, rfl, hD, ho2, hb2⟩
    obtain ⟨a2, k2, d2, l2, rfl, _⟩ := ho2.at
    have H3 := Ew.new hb2 ho2 (Nat.le_refl _)
    obtain ⟨T, hT⟩ : ∃ T, w2.heap.size = T := ⟨_, rfl⟩
    rw [hT] at H3
    have HH3 : Hid (Ew w T a2 k2 d2 l2 E0 (w2.alloc (.cells #[.int .i64 E0.now, .slice a2 E0.pins.length k2, .slice d2 E0.gone.length l2] 50))) := H3
    clear c1 hb2 ho2 H3
    go_wp2_with fail
    clear hT
    go_loopw [4] (fun i wr => Box (∃ (k : Nat) (a1 : Option Addr) (c1 : Nat) (a2 : Option Addr) (c2 : Nat) (E : Ep), k ≤ E.pins.length ∧ i = .int .i64 k ∧ UnE E0 k E ∧ Ew w T a1 c1 a2 c2 E wr))
      (fun i _ => E0.pins.length - (intOf i).toNat)
    case atStart => exact ⟨⟨0, _, _, _, _, E0, by omega, rfl, ⟨hD.right, rfl, rfl, rfl, fun q _ hq => absurd hq (Nat.not_lt_zero _)⟩, HH3.out⟩⟩
    case round =>
      obtain ⟨k, a1, c1, a2, c2, E, hk, rfl, hU, H⟩ := hrel.out
      clear hrel HH3
      obtain ⟨t0, t1, t2⟩ := H.box.cells
      have hln := hU.right.2.1
      have hl2 := hU.right.lens
      by_cases hlt : k < E.pins.length
      · have hi : (k : Int) < (E.pins.length : Int) := by omega
        have cU := implUnpinLook_any wr a1 a2 c1 c2 E (k : Int) H.at hl2.1 hl2.2
        have hUn := hU.step hlt
        obtain ⟨RES, hRES⟩ : ∃ R, unpinE E (k : Int) = R := ⟨_, rfl⟩
        rw [hRES] at cU hUn
        have HK : Hid (k < E.pins.length ∧ RES.1.pins.length = E.pins.length ∧ E.pins.length = E0.pins.length) := ⟨hlt, hUn.len.trans hU.len.symm, hU.len⟩
        have hk4 : k ≤ 4 := by omega
        clear hRES hU
        go_wp2_with fail
        refine cU.mono ?_
        rintro e w7 ⟨vn, rfl, hon, hbn⟩
        obtain ⟨e1, f1, e2, f2, rfl, _⟩ := hon.at
        have H7 := H.next hbn
        have HS := H7.store hon H.below.size
        obtain ⟨y0, y1, y2⟩ := H7.box.cells
        obtain ⟨tf0, tf1, tf2⟩ := (⟨H7.box.thaw 0, H7.box.thaw 1, H7.box.thaw 2⟩ : _ ∧ _ ∧ _)
        have HH : Hid _ := HS
        clear cU t0 t1 t2 H H7 HS hon hbn hln hl2
        go_wp2_with fail
        go_roundw
        case rel =>
          try ((repeat apply Exists.intro); refine ⟨?_, rfl⟩)
          exact ⟨⟨k + 1, _, _, _, _, RES.1, by have := HK.out; omega, by go_num, hUn, HH.out⟩⟩
        case measure => have := HK.out; simp [intOf]; omega
      · have hi : ¬ (k : Int) < (E.pins.length : Int) := by omega
        have hNb := hU.nobody (by omega)
        have HU : Hid (RightE E ∧ Nobody E ∧ E.now ≤ 22 ∧ ∀ g ∈ E.gone, g.2 ≤ E.now) := ⟨hU.right, hNb, by rw [hU.now]; have := hD.now; omega, fun g hg => (hU.right.2.2.2.2 g hg).2.2⟩
        have HHr : Hid (Ew w T a1 c1 a2 c2 E wr) := H
        obtain ⟨wq, hwq⟩ : ∃ x, x = wr := ⟨_, rfl⟩
        subst hwq
        clear hU hNb hD H hln hl2 hlt
        go_wp2_with fail
        go_loopw [6] (fun i wr => Box (∃ (k : Nat) (a1 : Option Addr) (c1 : Nat) (a2 : Option Addr) (c2 : Nat) (F : Ep), k ≤ 2 ∧ i = .int .i64 k ∧ RightE F ∧ Nobody F ∧ F.now = E.now + k ∧ F.gone = E.gone ∧ Ew w T a1 c1 a2 c2 F wr))
          (fun i _ => 2 - (intOf i).toNat)
        case atStart => exact ⟨⟨0, _, _, _, _, E, by omega, rfl, HU.out.1, HU.out.2.1, by simp, rfl, HHr.out⟩⟩
        case round =>
          obtain ⟨j, b1, e1, b2, e2, F, hj, rfl, hR, hNb, hFn, hFg, H⟩ := hrel.out
          clear hrel HHr t0 t1 t2
          obtain ⟨t0, t1, t2⟩ := H.box.cells
          have hl2 := hR.lens
          have hE22 := HU.out.2.2.1
          by_cases hlt : j < 2
          · have hi : (j : Int) < 2 := by omega
            have cA := implAdvanceEpoch_any wr b1 b2 e1 e2 F H.at hl2.1 hl2.2
            have hadv := hNb.adv hR (by omega)
            have hRn := hR.adv
            rw [hadv] at cA hRn
            dsimp only at cA hRn
            obtain ⟨F', hF'⟩ : ∃ F' : Ep, (⟨F.now + 1, F.pins, F.gone⟩ : Ep) = F' := ⟨_, rfl⟩
            have HF : Hid (RightE F' ∧ Nobody F' ∧ F'.now = E.now + ((j + 1 : Nat) : Int) ∧ F'.gone = E.gone) := by
              rw [← hF']
              exact ⟨hRn, hNb, by show F.now + 1 = _; omega, hFg⟩
            rw [hF'] at cA
            clear hF' hadv hRn hNb hR hFn hFg hE22
            go_wp2_with fail
            refine cA.mono ?_
            rintro e w7 ⟨vn, rfl, hon, hbn⟩
            obtain ⟨g1, f1, g2, f2, rfl, _⟩ := hon.at
            have H7 := H.next hbn
            obtain ⟨w8, hw8⟩ : ∃ x, w7.alloc (.cells #[.int .i64 F'.now, .slice g1 F'.pins.length f1, .slice g2 F'.gone.length f2] 50) = x := ⟨_, rfl⟩
            have hb8 : Below w7.heap.size w7 w8 := by rw [← hw8]; exact (Below.refl _ _).alloc (Nat.le_refl _) _
            have hX8 : EBox w8 w7.heap.size (.int .i64 F'.now) (.slice g1 F'.pins.length f1) (.slice g2 F'.gone.length f2) := by rw [← hw8]; exact EBox.new _ _ _ _
            have H8 := H7.next hb8
            have HS := H8.store (hon.below hb8 (Nat.le_refl _)) H.below.size
            obtain ⟨x0, x1, x2⟩ := hX8.cells
            obtain ⟨y0, y1, y2⟩ := H8.box.cells
            obtain ⟨tf0, tf1, tf2⟩ := (⟨H8.box.thaw 0, H8.box.thaw 1, H8.box.thaw 2⟩ : _ ∧ _ ∧ _)
            have HW8 : Hid (w7.alloc (.cells #[.int .i64 F'.now, .slice g1 F'.pins.length f1, .slice g2 F'.gone.length f2] 50) = w8) := hw8
            have HH : Hid _ := HS
            rw [← hw8] at x0 x1 x2 y0 y1 y2 tf0 tf1 tf2
            clear cA t0 t1 t2 H H7 H8 HS hon hbn hb8 hw8 hX8 hl2
            go_wp2_with fail
            rw [HW8.out]
            go_roundw
            case rel =>
              try ((repeat apply Exists.intro); refine ⟨?_, rfl⟩)
              exact ⟨⟨j + 1, _, _, _, _, F', by omega, by go_num, HF.out.1, HF.out.2.1, HF.out.2.2.1, HF.out.2.2.2, HH.out⟩⟩
            case measure => simp [intOf]; omega
          · have hi : ¬ (j : Int) < 2 := by omega
            have cF := implFreeNodes_any wr b1 b2 e1 e2 F H.at hl2.1 hl2.2
            have hfree := free_all hR (fun g hg => by rw [hFg] at hg; have := HU.out.2.2.2 g hg; omega)
            rw [hfree] at cF
            have hRn := hR.free
            rw [hfree] at hRn
            dsimp only at cF hRn
            have hlen : (F.gone.map (·.1)).length = E.gone.length := by rw [List.length_map, hFg]
            have HFX : Hid (F.now = E.now + (j : Int) ∧ F.gone = E.gone) := ⟨hFn, hFg⟩
            have HL : Hid ((F.gone.map (·.1)).length = E.gone.length ∧ E.gone.length = F.gone.length) := ⟨hlen, by rw [hFg]⟩
            clear hfree hlen hFn hFg
            go_wp2_with fail
            refine cF.mono ?_
            rintro e w7 ⟨vn, vf, rfl, hon, hof, _, hbn⟩
            obtain ⟨g1, f1, g2, f2, rfl, _⟩ := hon.at
            obtain ⟨h1, k1, hvf, _⟩ := hof.ints
            rw [HL.out.1] at hvf
            subst hvf
            have H7 := H.next hbn
            dsimp only at *
            obtain ⟨w8, hw8⟩ : ∃ x, w7.alloc (.cells #[.int .i64 F.now, .slice g1 F.pins.length f1, .slice g2 0 f2] 50) = x := ⟨_, rfl⟩
            have hb8 : Below w7.heap.size w7 w8 := by rw [← hw8]; exact (Below.refl _ _).alloc (Nat.le_refl _) _
            have hX8 : EBox w8 w7.heap.size (.int .i64 F.now) (.slice g1 F.pins.length f1) (.slice g2 0 f2) := by rw [← hw8]; exact EBox.new _ _ _ _
            obtain ⟨p1, q1, p2, q2, hv, hA⟩ := (hon.below hb8 (Nat.le_refl _)).at
            simp only [Value.agg.injEq, Array.mk.injEq, List.cons.injEq, and_true, Value.slice.injEq, true_and, List.length_nil] at hv
            obtain ⟨⟨rfl, rfl⟩, rfl, rfl⟩ := hv
            have cK := implEpochsOk_any w8 g1 g2 f1 f2 ⟨F.now, F.pins, []⟩ hA hl2.1 (by simp)
            rw [(okE_iff _).2 hRn] at cK
            dsimp only [List.length_nil] at cK
            obtain ⟨x0, x1, x2⟩ := hX8.cells
            have HW8 : Hid (w7.alloc (.cells #[.int .i64 F.now, .slice g1 F.pins.length f1, .slice g2 0 f2] 50) = w8) := hw8
            have HB8 : Hid (Below w.heap.size w w8) := H7.below.trans (hb8.mono H7.below.size)
            have hee : ((E.gone.length : Int) == (E.gone.length : Int)) = true := by simp
            rw [← hw8] at x0 x1 x2
            clear cF t0 t1 t2 H H7 hon hof hbn hb8 hw8 hX8 hl2 hA hRn hR hNb hE22
            go_wp2_with fail
            rw [HW8.out]
            refine cK.mono ?_
            rintro e w9 ⟨rfl, hb9⟩
            go_wp2_with fail
            go_ret
            exact ⟨rfl, HB8.out.trans (hb9.mono HB8.out.size)⟩
end Go.Proofs.Ytockgojdmaladac
