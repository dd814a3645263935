/- The law on those who look, walked. Written by mklooks.py. -/
import Derived.Test.YtockgojdmaladacLooksPlain
import Derived.Test.YtockgojdmaladacEpochDraw
import Derived.Test.YtockgojdmaladacEpochChange
import Derived.Test.YtockgojdmaladacEpochAdvI
import Derived.Test.YtockgojdmaladacEpochFreeI
import Derived.Test.YtockgojdmaladacEpochRetireI
import Derived.Test.YtockgojdmaladacDrawTurn
import Derived.Test.YtockgojdmaladacInList
import Derived.Test.YtockgojdmaladacBig
namespace Go.Proofs.Ytockgojdmaladac
open Go.RowKit Go.Sort

/-- Epochs in the variable T, and twelve numbers beside them. -/
structure Ex (w0 : World) (T : Nat) (pp : Option Addr) (pc : Nat) (l : List Int) (a1 : Option Addr) (c1 : Nat) (a2 : Option Addr) (c2 : Nat) (E : Ep) (wi : World) : Prop where
  ew : Ew w0 T a1 c1 a2 c2 E wi
  pl : OwnV wi w0.heap.size 3 (.slice pp l.length pc) (ints l)
theorem Ex.next {w0 : World} {T : Nat} {pp : Option Addr} {pc : Nat} {l : List Int} {a1 a2 : Option Addr} {c1 c2 : Nat} {E : Ep} {wi wj : World} (h : Ex w0 T pp pc l a1 c1 a2 c2 E wi) (hb : Below wi.heap.size wi wj) : Ex w0 T pp pc l a1 c1 a2 c2 E wj := ⟨h.ew.next hb, h.pl.below hb (Nat.le_refl _)⟩
theorem Ex.store {w0 : World} {T : Nat} {pp : Option Addr} {pc : Nat} {l : List Int} {a1 a2 b1 b2 : Option Addr} {c1 c2 d1 d2 : Nat} {E E' : Ep} {wi : World} {base : Nat} (h : Ex w0 T pp pc l a1 c1 a2 c2 E wi) (ho : EOwn wi base (.agg #[.int .i64 E'.now, .slice b1 E'.pins.length d1, .slice b2 E'.gone.length d2]) E') (hb : w0.heap.size ≤ base) :
    Ex w0 T pp pc l b1 d1 b2 d2 E' (((wi.setCell ⟨T, 0, none⟩ (.int .i64 E'.now)).setCell ⟨T, 1, none⟩ (.slice b1 E'.pins.length d1)).setCell ⟨T, 2, none⟩ (.slice b2 E'.gone.length d2)) :=
  ⟨h.ew.store ho hb, h.pl.kept fun k hk => put3_other _ _ _ _ _ k (h.ew.box.neV h.pl k hk)⟩

set_option maxRecDepth 100000 in
set_option maxHeartbeats 8000000 in
theorem looks_walk (ca : Option Addr) (n cap : Nat) (w : World) (hcode : CodeAt w ca n w.heap.size) (hn : n ≤ maxLen) :
    Calls Try.prog 5 #[.slice ca n cap] w fun e w' => e = .returned (.bool true) ∧ Below w.heap.size w w' := by
  unfold maxLen at hn
  have c0 := big_any ca n cap w (by omega)
  by_cases hbig : 1048576 < n
  · rw [decide_eq_true hbig] at c0
    go_enter Try.func5, Try.ntmps5
    go_wp2_with fail
    refine c0.mono ?_
    rintro e w1 ⟨rfl, rfl⟩
    go_wp2_with fail
    go_ret
    exact ⟨rfl, Below.refl _ _⟩
  · rw [decide_eq_false hbig] at c0
    have hn' : n ≤ 1048576 := by omega
    have c1 := drawEpochs_any w ca n cap hcode hn'
    have HCODE : Hid (CodeAt w ca n w.heap.size) := hcode
    clear hcode hbig
    go_enter Try.func5, Try.ntmps5
    go_wp2_with fail
    refine c0.mono ?_
    rintro e w1 ⟨rfl, hw1⟩
    rw [← hw1]
    clear hw1 c0
    go_wp2_with fail
    refine c1.mono ?_
    rintro e w2 ⟨v2, E0, rfl, hD, ho2, hb2⟩
    obtain ⟨a2, k2, d2, l2, rfl, _⟩ := ho2.at
    have H3 := Ew.new hb2 ho2 (Nat.le_refl _)
    obtain ⟨T, hT⟩ : ∃ T, w2.heap.size = T := ⟨_, rfl⟩
    rw [hT] at H3
    obtain ⟨w3, hw3⟩ : ∃ x, w2.alloc (.cells #[.int .i64 E0.now, .slice a2 E0.pins.length k2, .slice d2 E0.gone.length l2] 50) = x := ⟨_, rfl⟩
    rw [hw3] at H3
    have hcode3 : CodeAt w3 ca n w3.heap.size := by
      intro j hj
      obtain ⟨b, off, z, h1, h2, h3, h4⟩ := HCODE.out j hj
      exact ⟨b, off, z, h1, Nat.lt_of_lt_of_le h2 H3.below.size, (H3.below.cell h2).trans h3, h4⟩
    have cP := drawPlaces_any w3 ca n cap hcode3 hn'
    have HW3 : Hid (w2.alloc (.cells #[.int .i64 E0.now, .slice a2 E0.pins.length k2, .slice d2 E0.gone.length l2] 50) = w3) := hw3
    clear c1 hb2 ho2 hw3 hcode3
    go_wp2_with fail
    rw [HW3.out]
    refine cP.mono ?_
    rintro e w4 ⟨v4, l, rfl, hl12, hlz, ho4, hb4⟩
    obtain ⟨pp, pc, rfl, _⟩ := ho4.ints
    have H4 : Ex w T pp pc l a2 k2 d2 l2 E0 w4 := ⟨H3.next hb4, ho4.mono H3.below.size⟩
    have HH3 : Hid (Ex w T pp pc l a2 k2 d2 l2 E0 w4) := H4
    have HL : Hid (l.length = 12 ∧ ∀ z ∈ l, 0 ≤ z ∧ z < 10000) := ⟨hl12, hlz⟩
    clear cP HW3 H3 H4 ho4 hb4 hT hl12 hlz
    go_wp2_with fail
    go_loopw [5] (fun i wr => Box (∃ (k : Nat) (a1 : Option Addr) (c1 : Nat) (a2 : Option Addr) (c2 : Nat) (E : Ep), k ≤ E.pins.length ∧ i = .int .i64 k ∧ UnE E0 k E ∧ Ex w T pp pc l a1 c1 a2 c2 E wr))
      (fun i _ => E0.pins.length - (intOf i).toNat)
    case atStart => exact ⟨⟨0, _, _, _, _, E0, by omega, rfl, ⟨hD.right, rfl, rfl, rfl, fun q _ hq => absurd hq (Nat.not_lt_zero _)⟩, HH3.out⟩⟩
    case round =>
      obtain ⟨k, a1, c1, a2, c2, E, hk, rfl, hU, H⟩ := hrel.out
      clear hrel HH3
      obtain ⟨t0, t1, t2⟩ := H.ew.box.cells
      have hln := hU.right.2.1
      have hl2 := hU.right.lens
      by_cases hlt : k < E.pins.length
      · have hi : (k : Int) < (E.pins.length : Int) := by omega
        have cU := implUnpinLook_any wr a1 a2 c1 c2 E (k : Int) H.ew.at hl2.1 hl2.2
        have hUn := hU.step hlt
        obtain ⟨RES, hRES⟩ : ∃ R, unpinE E (k : Int) = R := ⟨_, rfl⟩
        rw [hRES] at cU hUn
        have HK : Hid (k < E.pins.length ∧ RES.1.pins.length = E.pins.length ∧ E.pins.length = E0.pins.length) := ⟨hlt, hUn.len.trans hU.len.symm, hU.len⟩
        have hk4 : k ≤ 4 := by omega
        clear hRES hU
        go_wp2_with fail
        refine cU.mono ?_
        rintro e w7 ⟨vn, rfl, hon, hbn⟩
        obtain ⟨e1, f1, e2, f2, rfl, _⟩ := hon.at
        have H7 := H.next hbn
        have HS := H7.store hon H.ew.below.size
        obtain ⟨y0, y1, y2⟩ := H7.ew.box.cells
        obtain ⟨tf0, tf1, tf2⟩ := (⟨H7.ew.box.thaw 0, H7.ew.box.thaw 1, H7.ew.box.thaw 2⟩ : _ ∧ _ ∧ _)
        have HH : Hid _ := HS
        clear cU t0 t1 t2 H H7 HS hon hbn hln hl2
        go_wp2_with fail
        go_roundw
        case rel =>
          try ((repeat apply Exists.intro); refine ⟨?_, rfl⟩)
          exact ⟨⟨k + 1, _, _, _, _, RES.1, by have := HK.out; omega, by go_num, hUn, HH.out⟩⟩
        case measure => have := HK.out; simp [intOf]; omega
      · have hi : ¬ (k : Int) < (E.pins.length : Int) := by omega
        have hNb := hU.nobody (by omega)
        have hbeg := look_begins (k := 20) hU.right hNb (by rw [hU.now]; have := hD.now; omega) (by rw [hU.gone]; exact hD.nine) (by rw [hU.gone]; exact hD.few) (by omega)
        obtain ⟨NN, hNN⟩ : ∃ N, E.now = N := ⟨_, rfl⟩
        rw [hNN] at hbeg
        obtain ⟨R1, hR1⟩ : ∃ R, pinE E 0 = R := ⟨_, rfl⟩
        rw [hR1] at hbeg
        obtain ⟨R2, hR2⟩ : ∃ R, retireE R1.1 20 = R := ⟨_, rfl⟩
        rw [hR2] at hbeg
        have hRR1 : RightE R1.1 := by rw [← hR1]; exact hU.right.pin 0
        obtain ⟨wq, hwq⟩ : ∃ x, x = wr := ⟨_, rfl⟩
        subst hwq
        have cP := implPinLook_any wq a1 a2 c1 c2 E 0 H.ew.at hl2.1 hl2.2
        rw [hR1, hbeg.1] at cP
        have HR2 : Hid (retireE R1.1 20 = R2 ∧ R2.2 = true ∧ RightE R1.1) := ⟨hR2, hbeg.2.1, hRR1⟩
        have HLk : Hid (LkE NN R2.1) := hbeg.2.2
        clear hU hNb hD hln hlt hbeg hNN hR1 hR2 hRR1
        go_wp2_with fail
        refine cP.mono ?_
        rintro e w11 ⟨vn, rfl, hon, hbn⟩
        obtain ⟨eaA, ebA, ecA, edA, rfl, _⟩ := hon.at
        have Hn := H.next hbn
        have HS := Hn.store hon H.ew.below.size
        clear t0 t1 t2
        obtain ⟨y0, y1, y2⟩ := Hn.ew.box.cells
        obtain ⟨tf0, tf1, tf2⟩ := (⟨Hn.ew.box.thaw 0, Hn.ew.box.thaw 1, Hn.ew.box.thaw 2⟩ : _ ∧ _ ∧ _)
        obtain ⟨wzA, hwz⟩ : ∃ x, ((w11.setCell ⟨T, 0, none⟩ (.int .i64 R1.1.now)).setCell ⟨T, 1, none⟩ (.slice eaA R1.1.pins.length ebA)).setCell ⟨T, 2, none⟩ (.slice ecA R1.1.gone.length edA) = x := ⟨_, rfl⟩
        have HA : Ex w T pp pc l eaA ebA ecA edA R1.1 wzA := by rw [← hwz]; exact HS
        have HWZA : Hid (((w11.setCell ⟨T, 0, none⟩ (.int .i64 R1.1.now)).setCell ⟨T, 1, none⟩ (.slice eaA R1.1.pins.length ebA)).setCell ⟨T, 2, none⟩ (.slice ecA R1.1.gone.length edA) = wzA) := hwz
        obtain ⟨t0, t1, t2⟩ := HA.ew.box.cells
        rw [← hwz] at t0 t1 t2
        clear cP hon hbn Hn HS hwz H
        have cR := implRetireNode_any wzA eaA ecA ebA edA R1.1 20 HA.ew.at HR2.out.2.2.lens.1 HR2.out.2.2.lens.2
        rw [HR2.out.1, HR2.out.2.1] at cR
        clear HR2 hl2
        go_wp2_with fail
        rw [HWZA.out] at t0 t1 t2 ⊢
        clear y0 y1 y2 tf0 tf1 tf2 HWZA
        refine cR.mono ?_
        rintro e w12 ⟨vn, rfl, hon, hbn⟩
        obtain ⟨eaB, ebB, ecB, edB, rfl, _⟩ := hon.at
        have Hn := HA.next hbn
        have HS := Hn.store hon HA.ew.below.size
        clear t0 t1 t2
        obtain ⟨y0, y1, y2⟩ := Hn.ew.box.cells
        obtain ⟨tf0, tf1, tf2⟩ := (⟨Hn.ew.box.thaw 0, Hn.ew.box.thaw 1, Hn.ew.box.thaw 2⟩ : _ ∧ _ ∧ _)
        obtain ⟨wzB, hwz⟩ : ∃ x, ((w12.setCell ⟨T, 0, none⟩ (.int .i64 R2.1.now)).setCell ⟨T, 1, none⟩ (.slice eaB R2.1.pins.length ebB)).setCell ⟨T, 2, none⟩ (.slice ecB R2.1.gone.length edB) = x := ⟨_, rfl⟩
        have HB : Ex w T pp pc l eaB ebB ecB edB R2.1 wzB := by rw [← hwz]; exact HS
        have HWZB : Hid (((w12.setCell ⟨T, 0, none⟩ (.int .i64 R2.1.now)).setCell ⟨T, 1, none⟩ (.slice eaB R2.1.pins.length ebB)).setCell ⟨T, 2, none⟩ (.slice ecB R2.1.gone.length edB) = wzB) := hwz
        obtain ⟨t0, t1, t2⟩ := HB.ew.box.cells
        rw [← hwz] at t0 t1 t2
        clear cR hon hbn Hn HS hwz HA
        have HHB : Hid (Ex w T pp pc l eaB ebB ecB edB R2.1 wzB) := HB
        obtain ⟨P0, hP0⟩ : ∃ P0, l[0]'(by have := HL.out.1; omega) = P0 := ⟨_, rfl⟩
        have hP0b : 0 ≤ P0 ∧ P0 < 10000 := by rw [← hP0]; exact HL.out.2 _ (List.getElem_mem _)
        have HCell : Hid (∀ wi, OwnV wi w.heap.size 3 (.slice pp l.length pc) (ints l) → ∃ g, pp = some ⟨g, 0, none⟩ ∧ wi.cell? ⟨g, 0, none⟩ = some (.int .i64 P0)) := by
          intro wi h
          obtain ⟨a, cp, hv, hc⟩ := h.shape
          simp only [Value.slice.injEq] at hv
          obtain ⟨rfl, _, rfl⟩ := hv
          obtain ⟨g, hg, hcell, _⟩ := hc 0 (by rw [ints_length]; have := HL.out.1; omega)
          rw [ints_at (by have := HL.out.1; omega), hP0] at hcell
          exact ⟨g, hg, hcell⟩
        obtain ⟨M, hM, hM9⟩ : ∃ M : Nat, 1 + P0.tmod 9 = (M : Int) ∧ M ≤ 9 := ⟨(1 + P0.tmod 9).toNat, by rw [Int.tmod_eq_emod_of_nonneg hP0b.1]; omega, by rw [Int.tmod_eq_emod_of_nonneg hP0b.1]; omega⟩
        clear hP0 HB
        go_wp2_with fail
        rw [HWZB.out]
        clear t0 t1 t2 y0 y1 y2 tf0 tf1 tf2 HWZB
        have hl12 : (0 : Int) < (l.length : Int) := by have := HL.out.1; omega
        go_loopw [8] (fun i wr => Box (∃ (k : Nat) (a1 : Option Addr) (c1 : Nat) (a2 : Option Addr) (c2 : Nat) (F : Ep), k ≤ M ∧ i = .int .i64 k ∧ LkE NN F ∧ Ex w T pp pc l a1 c1 a2 c2 F wr))
          (fun i _ => M - (intOf i).toNat)
        case atStart => exact ⟨⟨0, _, _, _, _, R2.1, by omega, rfl, HLk.out, HHB.out⟩⟩
        case round =>
          obtain ⟨j, b1, e1, b2, e2, F, hj, rfl, hLk, H⟩ := hrel.out
          clear hrel HHB HLk
          obtain ⟨gp, hgp, hcp⟩ := HCell.out wr H.pl
          subst hgp
          obtain ⟨t0, t1, t2⟩ := H.ew.box.cells
          have hlF := hLk.right.lens
          have hmod : P0.tmod 9 = (M : Int) - 1 := by omega
          obtain ⟨wo, hwo⟩ : ∃ x, x = wr := ⟨_, rfl⟩
          subst hwo
          have hwr9 : IntKind.i64.wrap (1 + ((M : Int) - 1)) = (M : Int) := by rw [IntKind.wrap_i64]; omega
          have hw0 : IntKind.i64.wrap ((M : Int) - 1) = (M : Int) - 1 := by rw [IntKind.wrap_i64]; omega
          by_cases hlt : j < M
          · have hi : (j : Int) < (M : Int) := by omega
            have cA := implAdvanceEpoch_any wo b1 b2 e1 e2 F H.ew.at hlF.1 hlF.2
            have hLk2 := hLk.adv
            obtain ⟨R3, hR3⟩ : ∃ R, advE F = R := ⟨_, rfl⟩
            rw [hR3] at cA hLk2
            clear hR3 hLk
            go_wp2_with fail
            refine cA.mono ?_
            rintro e w13 ⟨vn, rfl, hon, hbn⟩
            obtain ⟨eaD, ebD, ecD, edD, rfl, _⟩ := hon.at
            have Hn := H.next hbn
            have HS := Hn.store hon H.ew.below.size
            clear t0 t1 t2
            obtain ⟨y0, y1, y2⟩ := Hn.ew.box.cells
            obtain ⟨tf0, tf1, tf2⟩ := (⟨Hn.ew.box.thaw 0, Hn.ew.box.thaw 1, Hn.ew.box.thaw 2⟩ : _ ∧ _ ∧ _)
            obtain ⟨wzD, hwz⟩ : ∃ x, ((w13.setCell ⟨T, 0, none⟩ (.int .i64 R3.1.now)).setCell ⟨T, 1, none⟩ (.slice eaD R3.1.pins.length ebD)).setCell ⟨T, 2, none⟩ (.slice ecD R3.1.gone.length edD) = x := ⟨_, rfl⟩
            have HD : Ex w T (some ⟨gp, 0, none⟩) pc l eaD ebD ecD edD R3.1 wzD := by rw [← hwz]; exact HS
            have HWZD : Hid (((w13.setCell ⟨T, 0, none⟩ (.int .i64 R3.1.now)).setCell ⟨T, 1, none⟩ (.slice eaD R3.1.pins.length ebD)).setCell ⟨T, 2, none⟩ (.slice ecD R3.1.gone.length edD) = wzD) := hwz
            obtain ⟨t0, t1, t2⟩ := HD.ew.box.cells
            rw [← hwz] at t0 t1 t2
            clear cA hon hbn Hn HS hwz H
            have hlF2 := hLk2.right.lens
            have cF := implFreeNodes_any wzD eaD ecD ebD edD R3.1 HD.ew.at hlF2.1 hlF2.2
            have hLk3 := hLk2.free
            obtain ⟨R4, hR4⟩ : ∃ R, freeE R3.1 = R := ⟨_, rfl⟩
            rw [hR4] at cF hLk3
            have HL4 : Hid (R4.2.length ≤ 1048576) := by show _ ≤ _; rw [← hR4]; exact Nat.le_trans (by unfold freeE; split <;> simp <;> exact List.length_filter_le _ _) hlF2.2
            clear hR4 hLk2 hcp
            go_wp2_with fail
            rw [HWZD.out] at t0 t1 t2 ⊢
            clear y0 y1 y2 tf0 tf1 tf2 HWZD
            refine cF.mono ?_
            rintro e w14 ⟨vn, vf, rfl, hon, hof, _, hbn⟩
            obtain ⟨ga, gb, gc, gd, rfl, hAn⟩ := hon.at
            obtain ⟨fa, fb, rfl, hIf⟩ := hof.ints
            have Hn := HD.next hbn
            obtain ⟨w15, hw15⟩ : ∃ x, w14.alloc (.cells #[.int .i64 R4.1.now, .slice ga R4.1.pins.length gb, .slice gc R4.1.gone.length gd] 50) = x := ⟨_, rfl⟩
            have hb15 : Below w14.heap.size w14 w15 := by rw [← hw15]; exact (Below.refl _ _).alloc (Nat.le_refl _) _
            have hX15 : EBox w15 w14.heap.size (.int .i64 R4.1.now) (.slice ga R4.1.pins.length gb) (.slice gc R4.1.gone.length gd) := by rw [← hw15]; exact EBox.new _ _ _ _
            have H15 := Hn.next hb15
            have cI := in_list w15 fa fb R4.2 20 (hIf.on hb15) (by have := HL4.out; omega)
            rw [hLk3.2] at cI
            have cK := implEpochsOk_any w15 ga gc gb gd R4.1 (hAn.on hb15) hLk3.1.right.lens.1 hLk3.1.right.lens.2
            rw [(okE_iff _).2 hLk3.1.right] at cK
            have HON : Hid (EOwn w15 wzD.heap.size (.agg #[.int .i64 R4.1.now, .slice ga R4.1.pins.length gb, .slice gc R4.1.gone.length gd]) R4.1 ∧ w.heap.size ≤ wzD.heap.size) := ⟨hon.below hb15 (Nat.le_refl _), HD.ew.below.size⟩
            have HW15 : Hid (w14.alloc (.cells #[.int .i64 R4.1.now, .slice ga R4.1.pins.length gb, .slice gc R4.1.gone.length gd] 50) = w15) := hw15
            obtain ⟨x0, x1, x2⟩ := hX15.cells
            clear t0 t1 t2 cF
            rw [← hw15] at x0 x1 x2
            clear hw15 hon hof hbn hIf hAn HD Hn hb15
            go_wp2_with fail
            rw [HW15.out] at x0 x1 x2 ⊢
            refine cI.mono ?_
            rintro e wy ⟨rfl, hwy⟩
            rw [hwy]
            clear cI hwy
            go_wp2_with fail
            refine cK.mono ?_
            rintro e w16 ⟨rfl, hb16⟩
            have H16 := H15.next hb16
            have hS := H16.store (HON.out.1.below hb16 (Nat.le_refl _)) HON.out.2
            clear x0 x1 x2
            obtain ⟨x0, x1, x2⟩ := (hX15.on hb16).cells
            obtain ⟨y0, y1, y2⟩ := H16.ew.box.cells
            obtain ⟨tf0, tf1, tf2⟩ := (⟨H16.ew.box.thaw 0, H16.ew.box.thaw 1, H16.ew.box.thaw 2⟩ : _ ∧ _ ∧ _)
            have HH : Hid _ := hS
            have HLK : Hid (LkE NN R4.1) := hLk3.1
            clear cK H15 H16 hS hb16 hX15 hLk3 HON HW15 hlF hlF2 HL4
            go_wp2_with fail
            go_roundw
            case rel =>
              try ((repeat apply Exists.intro); refine ⟨?_, rfl⟩)
              exact ⟨⟨j + 1, _, _, _, _, R4.1, by omega, by go_num, HLK.out, HH.out⟩⟩
            case measure => simp [intOf]; omega
          · have hi : ¬ (j : Int) < (M : Int) := by omega
            have cU := implUnpinLook_any wo b1 b2 e1 e2 F 0 H.ew.at hlF.1 hlF.2
            have hEnd := hLk.ends
            obtain ⟨R5, hR5⟩ : ∃ R, unpinE F 0 = R := ⟨_, rfl⟩
            rw [hR5] at cU hEnd
            rw [hEnd.1] at cU
            have HE5 : Hid (RightE R5.1 ∧ Nobody R5.1 ∧ R5.1.now ≤ 1001 ∧ (∀ g ∈ R5.1.gone, g.2 ≤ R5.1.now) ∧ (20, NN) ∈ R5.1.gone) := ⟨hEnd.2.1, hEnd.2.2.1, by rw [hEnd.2.2.2.1]; have := hLk.small; rcases hLk.now with e | e <;> omega, fun g hg => (hEnd.2.1.2.2.2.2 g hg).2.2, by rw [hEnd.2.2.2.2]; exact hLk.has⟩
            clear hR5 hEnd hLk hlF hlt
            go_wp2_with fail
            refine cU.mono ?_
            rintro e w21 ⟨vn, rfl, hon, hbn⟩
            obtain ⟨eaG, ebG, ecG, edG, rfl, _⟩ := hon.at
            have Hn := H.next hbn
            have HS := Hn.store hon H.ew.below.size
            clear t0 t1 t2
            obtain ⟨y0, y1, y2⟩ := Hn.ew.box.cells
            obtain ⟨tf0, tf1, tf2⟩ := (⟨Hn.ew.box.thaw 0, Hn.ew.box.thaw 1, Hn.ew.box.thaw 2⟩ : _ ∧ _ ∧ _)
            obtain ⟨wzG, hwz⟩ : ∃ x, ((w21.setCell ⟨T, 0, none⟩ (.int .i64 R5.1.now)).setCell ⟨T, 1, none⟩ (.slice eaG R5.1.pins.length ebG)).setCell ⟨T, 2, none⟩ (.slice ecG R5.1.gone.length edG) = x := ⟨_, rfl⟩
            have HG : Ex w T (some ⟨gp, 0, none⟩) pc l eaG ebG ecG edG R5.1 wzG := by rw [← hwz]; exact HS
            have HWZG : Hid (((w21.setCell ⟨T, 0, none⟩ (.int .i64 R5.1.now)).setCell ⟨T, 1, none⟩ (.slice eaG R5.1.pins.length ebG)).setCell ⟨T, 2, none⟩ (.slice ecG R5.1.gone.length edG) = wzG) := hwz
            obtain ⟨t0, t1, t2⟩ := HG.ew.box.cells
            rw [← hwz] at t0 t1 t2
            clear cU hon hbn Hn HS hwz H
            have HHG : Hid (Ex w T (some ⟨gp, 0, none⟩) pc l eaG ebG ecG edG R5.1 wzG) := HG
            clear HG
            go_wp2_with fail
            rw [HWZG.out]
            clear t0 t1 t2 y0 y1 y2 tf0 tf1 tf2 HWZG hcp hmod hwr9 hw0
            go_loopw [12] (fun i wr => Box (∃ (k : Nat) (a1 : Option Addr) (c1 : Nat) (a2 : Option Addr) (c2 : Nat) (F : Ep), k ≤ 2 ∧ i = .int .i64 k ∧ RightE F ∧ Nobody F ∧ F.now = R5.1.now + k ∧ F.gone = R5.1.gone ∧ Ex w T (some ⟨gp, 0, none⟩) pc l a1 c1 a2 c2 F wr))
              (fun i _ => 2 - (intOf i).toNat)
            case atStart => exact ⟨⟨0, _, _, _, _, R5.1, by omega, rfl, HE5.out.1, HE5.out.2.1, by simp, rfl, HHG.out⟩⟩
            case round =>
              obtain ⟨s, b1, e1, b2, e2, F2, hj, rfl, hR, hNb, hFn, hFg, H⟩ := hrel.out
              clear hrel HHG
              obtain ⟨t0, t1, t2⟩ := H.ew.box.cells
              have hl2 := hR.lens
              have hE22 := HE5.out.2.2.1
              obtain ⟨wp, hwp⟩ : ∃ x, x = wr := ⟨_, rfl⟩
              subst hwp
              by_cases hlt : s < 2
              · have hi : (s : Int) < 2 := by omega
                have cA := implAdvanceEpoch_any wp b1 b2 e1 e2 F2 H.ew.at hl2.1 hl2.2
                have hadv := hNb.adv hR (by omega)
                have hRn := hR.adv
                rw [hadv] at cA hRn
                dsimp only at cA hRn
                obtain ⟨F3, hF3⟩ : ∃ F3 : Ep, (⟨F2.now + 1, F2.pins, F2.gone⟩ : Ep) = F3 := ⟨_, rfl⟩
                have HF : Hid (RightE F3 ∧ Nobody F3 ∧ F3.now = R5.1.now + ((s + 1 : Nat) : Int) ∧ F3.gone = R5.1.gone) := by
                  rw [← hF3]
                  exact ⟨hRn, hNb, by show F2.now + 1 = _; omega, hFg⟩
                rw [hF3] at cA
                clear hF3 hadv hRn hNb hR hFn hFg hE22
                go_wp2_with fail
                refine cA.mono ?_
                rintro e w7 ⟨vn, rfl, hon, hbn⟩
                obtain ⟨g1, f1, g2, f2, rfl, _⟩ := hon.at
                have H7 := H.next hbn
                have HS := H7.store hon H.ew.below.size
                clear t0 t1 t2
                obtain ⟨y0, y1, y2⟩ := H7.ew.box.cells
                obtain ⟨tf0, tf1, tf2⟩ := (⟨H7.ew.box.thaw 0, H7.ew.box.thaw 1, H7.ew.box.thaw 2⟩ : _ ∧ _ ∧ _)
                have HH : Hid _ := HS
                clear cA H H7 HS hon hbn hl2
                go_wp2_with fail
                go_roundw
                case rel =>
                  try ((repeat apply Exists.intro); refine ⟨?_, rfl⟩)
                  exact ⟨⟨s + 1, _, _, _, _, F3, by omega, by go_num, HF.out.1, HF.out.2.1, HF.out.2.2.1, HF.out.2.2.2, HH.out⟩⟩
                case measure => simp [intOf]; omega
              · have hi : ¬ (s : Int) < 2 := by omega
                have cF := implFreeNodes_any wp b1 b2 e1 e2 F2 H.ew.at hl2.1 hl2.2
                have hfree := free_all hR (fun g hg => by rw [hFg] at hg; have := HE5.out.2.2.2.1 g hg; omega)
                have hRn := hR.free
                rw [hfree] at cF hRn
                dsimp only at cF hRn
                obtain ⟨F4, hF4⟩ : ∃ F4 : Ep, (⟨F2.now, F2.pins, []⟩ : Ep) = F4 := ⟨_, rfl⟩
                have hG4 : F4.gone = [] := by rw [← hF4]
                obtain ⟨fl, hfl⟩ : ∃ fl, F2.gone.map (·.1) = fl := ⟨_, rfl⟩
                have h20 : (fl.any fun y => decide (y = 20)) = true := by
                  rw [← hfl, List.any_eq_true]
                  exact ⟨20, List.mem_map.2 ⟨(20, NN), by rw [hFg]; exact HE5.out.2.2.2.2, rfl⟩, by simp⟩
                have hfll : fl.length ≤ 1048576 := by rw [← hfl, List.length_map]; exact hl2.2
                rw [hF4] at cF hRn
                rw [hfl] at cF
                have hfree2 := free_all hRn (fun g hg => by rw [hG4] at hg; simp at hg)
                have HG4 : Hid (F4.gone = []) := hG4
                clear hF4 hfl hfree hFn hFg hR hNb hE22 hG4
                go_wp2_with fail
                refine cF.mono ?_
                rintro e w31 ⟨vn, vf, rfl, hon, hof, _, hbn⟩
                obtain ⟨ga, gb, gc, gd, rfl, hAn⟩ := hon.at
                obtain ⟨fa, fb, rfl, hIf⟩ := hof.ints
                have Hn := H.next hbn
                obtain ⟨w32, hw32⟩ : ∃ x, w31.alloc (.cells #[.int .i64 F4.now, .slice ga F4.pins.length gb, .slice gc F4.gone.length gd] 50) = x := ⟨_, rfl⟩
                have hb32 : Below w31.heap.size w31 w32 := by rw [← hw32]; exact (Below.refl _ _).alloc (Nat.le_refl _) _
                have hX32 : EBox w32 w31.heap.size (.int .i64 F4.now) (.slice ga F4.pins.length gb) (.slice gc F4.gone.length gd) := by rw [← hw32]; exact EBox.new _ _ _ _
                have HB32 : Below w.heap.size w w32 := Hn.ew.below.trans (hb32.mono Hn.ew.below.size)
                have cF2 := implFreeNodes_any w32 ga gc gb gd F4 (hAn.on hb32) hRn.lens.1 hRn.lens.2
                rw [hfree2, HG4.out] at cF2
                dsimp only [List.map_nil] at cF2
                have hI32 := hIf.on hb32
                have HW32 : Hid (w31.alloc (.cells #[.int .i64 F4.now, .slice ga F4.pins.length gb, .slice gc F4.gone.length gd] 50) = w32) := hw32
                obtain ⟨x0, x1, x2⟩ := hX32.cells
                clear t0 t1 t2 cF
                rw [← hw32] at x0 x1 x2
                clear hw32 hon hof hbn hIf hAn H Hn hb32 hfree2 hRn hl2
                rw [HG4.out] at x2 x1 x0 HW32 hX32 ⊢
                dsimp only [List.length_nil] at x0 x1 x2 HW32 hX32 ⊢
                go_wp2_with fail
                rw [HW32.out] at x0 x1 x2 ⊢
                refine cF2.mono ?_
                rintro e w33 ⟨vn, vf, rfl, hon, hof, _, hb33⟩
                obtain ⟨ka, kb, kc, kd, rfl, _⟩ := hon.at
                obtain ⟨ma, mb, rfl, hIm⟩ := hof.ints
                dsimp only [List.length_nil] at *
                obtain ⟨w34, hw34⟩ : ∃ x, w33.alloc (.cells #[.int .i64 F4.now, .slice ka F4.pins.length kb, .slice kc 0 kd] 50) = x := ⟨_, rfl⟩
                have hb34 : Below w33.heap.size w33 w34 := by rw [← hw34]; exact (Below.refl _ _).alloc (Nat.le_refl _) _
                have hb324 : Below w32.heap.size w32 w34 := hb33.trans (hb34.mono hb33.size)
                have c20 := in_list w34 fa fb fl 20 (hI32.on hb324) (by omega)
                rw [h20] at c20
                have cNo := in_list w34 ma mb [] 20 (hIm.on hb34) (by simp)
                dsimp only [List.length_nil, List.any_nil] at cNo
                have HW34 : Hid (w33.alloc (.cells #[.int .i64 F4.now, .slice ka F4.pins.length kb, .slice kc 0 kd] 50) = w34) := hw34
                clear x0 x1 x2
                obtain ⟨x0, x1, x2⟩ := (hX32.on hb324).cells
                rw [← hw34] at x0 x1 x2
                have HBe : Hid (Below w.heap.size w w34) := HB32.trans (hb324.mono HB32.size)
                clear hw34 hon hof hb33 hb34 hb324 hIm hI32 cF2 hX32 HB32 h20
                go_wp2_with fail
                rw [HW34.out] at x0 x1 x2 ⊢
                refine c20.mono ?_
                rintro e wy ⟨rfl, hwy⟩
                rw [hwy]
                clear c20 hwy
                go_wp2_with fail
                refine cNo.mono ?_
                rintro e wx ⟨rfl, hwx⟩
                rw [hwx]
                clear cNo hwx
                go_wp2_with fail
                go_ret
                exact ⟨rfl, HBe.out⟩
end Go.Proofs.Ytockgojdmaladac
