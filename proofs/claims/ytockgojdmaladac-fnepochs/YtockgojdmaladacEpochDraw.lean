/- Epochs, drawn. Written by mkedraw.py. -/
import Derived.Test.YtockgojdmaladacDraws
import Derived.Test.YtockgojdmaladacEpochRight
import Derived.Test.YtockgojdmaladacEpochLens
import Derived.Test.YtockgojdmaladacEpochPin
import Derived.Test.YtockgojdmaladacEpochRetire
import Derived.Test.YtockgojdmaladacEpochAdv
import Derived.Test.YtockgojdmaladacEpochFreeS
import Derived.Test.YtockgojdmaladacEpochNew
import Derived.Deep.RegionLaw
namespace Go.Proofs.Ytockgojdmaladac
open Go.RowKit Go.Sort

/-- What stands while epochs are drawn: they lie in the variable T, the answer's variable is R. -/
structure Le (w0 : World) (p : Nat) (ca : Option Addr) (n cap : Nat) (R T : Nat) (a1 : Option Addr) (c1 : Nat) (a2 : Option Addr) (c2 : Nat) (E : Ep) (wi : World) : Prop where
  left : Left w0 wi p ca n cap
  hp : p < w0.heap.size
  hR : w0.heap.size ≤ R
  hT : w0.heap.size ≤ T
  ne : R ≠ T
  res : EBox wi R (.int .i64 0) (.slice none 0 0) (.slice none 0 0)
  box : EBox wi T (.int .i64 E.now) (.slice a1 E.pins.length c1) (.slice a2 E.gone.length c2)
  own : EOwn wi w0.heap.size (.agg #[.int .i64 E.now, .slice a1 E.pins.length c1, .slice a2 E.gone.length c2]) E
theorem EBox.grownE {w w' : World} {T p : Nat} {a b c : Value} (h : EBox w T a b c) (hg : w.grownBy w' (some p)) (hn : T ≠ p) : EBox w' T a b c := h.kept (hg.block T h.lt (fun e => hn (by cases e; rfl)))
theorem EOwn.grownE {w w' : World} {base p : Nat} {v : Value} {E : Ep} (h : EOwn w base v E) (hg : w.grownBy w' (some p)) (hn : p < base) : EOwn w' base v E := by
  obtain ⟨v1, v2, rfl, h1, h2, h3⟩ := h
  exact ⟨v1, v2, rfl, h1.grown hg (fun k hk e => by have := (h1.lt k hk).1; cases e; omega), h2.grown hg (fun k hk e => by have := (h2.lt k hk).1; cases e; omega), h3⟩
theorem Le.go {w0 : World} {p : Nat} {ca : Option Addr} {n cap R T : Nat} {a1 a2 : Option Addr} {c1 c2 : Nat} {E : Ep} {wi wj : World} (h : Le w0 p ca n cap R T a1 c1 a2 c2 E wi) (hl : Left wi wj p ca n cap) : Le w0 p ca n cap R T a1 c1 a2 c2 E wj :=
  have hp := h.hp
  have hR := h.hR
  have hT := h.hT
  ⟨h.left.trans hl, hp, hR, hT, h.ne, h.res.grownE hl.2.2 (by omega), h.box.grownE hl.2.2 (by omega), h.own.grownE hl.2.2 hp⟩
theorem Le.next {w0 : World} {p : Nat} {ca : Option Addr} {n cap R T : Nat} {a1 a2 : Option Addr} {c1 c2 : Nat} {E : Ep} {wi wj : World} (h : Le w0 p ca n cap R T a1 c1 a2 c2 E wi) (hb : Below wi.heap.size wi wj) : Le w0 p ca n cap R T a1 c1 a2 c2 E wj :=
  ⟨h.left.below (hb.mono h.left.2.2.size) h.hp, h.hp, h.hR, h.hT, h.ne, h.res.on hb, h.box.on hb, h.own.below hb (Nat.le_refl _)⟩
theorem Le.at {w0 : World} {p : Nat} {ca : Option Addr} {n cap R T : Nat} {a1 a2 : Option Addr} {c1 c2 : Nat} {E : Ep} {wi : World} (h : Le w0 p ca n cap R T a1 c1 a2 c2 E wi) : EAt wi a1 a2 E wi.heap.size := by
  obtain ⟨q, q', r, s, hv, hA⟩ := h.own.at
  simp only [Value.agg.injEq, Array.mk.injEq, List.cons.injEq, and_true, Value.slice.injEq, true_and] at hv
  obtain ⟨⟨rfl, rfl⟩, rfl, rfl⟩ := hv
  exact hA
/-- Others are stored in the variable. -/
theorem Le.store {w0 : World} {p : Nat} {ca : Option Addr} {n cap R T : Nat} {a1 a2 b1 b2 : Option Addr} {c1 c2 d1 d2 : Nat} {E E' : Ep} {wi : World} {base : Nat} (h : Le w0 p ca n cap R T a1 c1 a2 c2 E wi) (ho : EOwn wi base (.agg #[.int .i64 E'.now, .slice b1 E'.pins.length d1, .slice b2 E'.gone.length d2]) E') (hb : w0.heap.size ≤ base) :
    Le w0 p ca n cap R T b1 d1 b2 d2 E' (((wi.setCell ⟨T, 0, none⟩ (.int .i64 E'.now)).setCell ⟨T, 1, none⟩ (.slice b1 E'.pins.length d1)).setCell ⟨T, 2, none⟩ (.slice b2 E'.gone.length d2)) :=
  ⟨((h.left.set h.hp h.hT _).set h.hp h.hT _).set h.hp h.hT _, h.hp, h.hR, h.hT, h.ne, h.res.kept (put3_other _ _ _ _ _ _ h.ne), h.box.put _ _ _, (ho.put h.box _ _ _).mono hb⟩

set_option maxRecDepth 100000 in
set_option maxHeartbeats 8000000 in
theorem l08Epochs_any (w : World) (p : Nat) (ca : Option Addr) (n cap : Nat) (hc : Cur w p ca n cap) (hcode : CodeAt w ca n p) (hn : n ≤ 1048576) :
    Calls Try.prog 69 #[.pointer (some ⟨p, 0, none⟩)] w fun e w' => ∃ (v : Value) (E : Ep), e = .returned v ∧ DrE 20 E ∧ EOwn w' w.heap.size v E ∧ Left w w' p ca n cap := by
  have hp := hc.lt
  obtain ⟨w1, hw1⟩ : ∃ x, w.alloc (.cells #[.int .i64 0, .slice none 0 0, .slice none 0 0] 50) = x := ⟨_, rfl⟩
  have hL1 : Left w w1 p ca n cap := by rw [← hw1]; exact (Left.refl hc hcode).plus hp _
  have hR1 : EBox w1 w.heap.size (.int .i64 0) (.slice none 0 0) (.slice none 0 0) := by rw [← hw1]; exact EBox.new _ _ _ _
  have c1 := below_any w1 p ca n cap 4 hL1.1 hL1.2.1 hn (by omega) (by omega)
  have HW : Hid (w.alloc (.cells #[.int .i64 0, .slice none 0 0, .slice none 0 0] 50) = w1) := hw1
  clear hw1 hc hcode
  go_enter Try.func69, Try.ntmps69
  go_wp2_with fail
  rw [HW.out]
  refine c1.mono ?_
  rintro e w2 ⟨x, hx, _, rfl, hl2⟩
  have hx2 := hx (by omega)
  have hL2 := hL1.trans hl2
  have hR2 := hR1.grownE hl2.2.2 (by omega)
  have hax : IntKind.i64.wrap (1 + (x : Int)) = 1 + (x : Int) := by rw [IntKind.wrap_i64]; omega
  have c2 := specEpochsNew_any w2 (1 + (x : Int))
  have hD0 := DrE.new (1 + (x : Int))
  obtain ⟨E0, hE0⟩ : ∃ E, newE (1 + (x : Int)) = E := ⟨_, rfl⟩
  rw [hE0] at c2 hD0
  clear c1 hx hl2 hE0 hR1 HW
  go_wp2_with fail
  refine c2.mono ?_
  rintro e w3 ⟨v3, rfl, ho3, hb3⟩
  obtain ⟨a3, k3, d3, l3, rfl, _⟩ := ho3.at
  have hL3 := hL2.below (hb3.mono hL2.2.2.size) hp
  have hR3 := hR2.on hb3
  obtain ⟨w4, hw4⟩ : ∃ x, w3.alloc (.cells #[.int .i64 E0.now, .slice a3 E0.pins.length k3, .slice d3 E0.gone.length l3] 50) = x := ⟨_, rfl⟩
  have hb4 : Below w3.heap.size w3 w4 := by rw [← hw4]; exact (Below.refl _ _).alloc (Nat.le_refl _) _
  have H4 : Le w p ca n cap w.heap.size w3.heap.size a3 k3 d3 l3 E0 w4 := by
    have hlt := hR3.lt
    refine ⟨hL3.below (hb4.mono hL3.2.2.size) hp, hp, Nat.le_refl _, by omega, by omega, hR3.on hb4, ?_, (ho3.mono hL2.2.2.size).below hb4 (Nat.le_refl _)⟩
    rw [← hw4]; exact EBox.new _ _ _ _
  have HW4 : Hid (w3.alloc (.cells #[.int .i64 E0.now, .slice a3 E0.pins.length k3, .slice d3 E0.gone.length l3] 50) = w4) := hw4
  have HH4 : Hid (Le w p ca n cap w.heap.size w3.heap.size a3 k3 d3 l3 E0 w4) := H4
  clear c2 hw4 hb4 hb3 hL1 hL2 hL3 hR2 hR3 ho3 H4 hx2 hax
  obtain ⟨T, hT⟩ : ∃ T, w3.heap.size = T := ⟨_, rfl⟩
  rw [hT] at HH4
  go_wp2_with fail
  rw [HW4.out]
  clear hT HW4
  go_loopw [4] (fun i wr => Box (∃ (k : Nat) (a1 : Option Addr) (c1 : Nat) (a2 : Option Addr) (c2 : Nat) (E : Ep), k ≤ 20 ∧ i = .int .i64 k ∧ DrE k E ∧ Le w p ca n cap w.heap.size T a1 c1 a2 c2 E wr))
    (fun i _ => 20 - (intOf i).toNat)
  case atStart => exact ⟨⟨0, _, _, _, _, E0, by omega, rfl, hD0, HH4.out⟩⟩
  case round =>
    obtain ⟨k, a1, c1, a2, c2, E, hk, rfl, hDr, H⟩ := hrel.out
    clear hrel HH4 hD0
    have c5 := below_any wr p ca n cap 20 H.left.1 H.left.2.1 hn (by omega) (by omega)
    go_wp2_with fail
    refine c5.mono ?_
    rintro e w4' ⟨x, hx, _, rfl, hl4⟩
    have hx2 := hx (by omega)
    have H4 := H.go hl4
    clear c5 H hx hl4
    by_cases hlt : (k : Int) < (x : Int)
    · have c6 := below_any w4' p ca n cap 4 H4.left.1 H4.left.2.1 hn (by omega) (by omega)
      go_wp2_with fail
      refine c6.mono ?_
      rintro e w5 ⟨q, hq, _, rfl, hl5⟩
      have hq2 := hq (by omega)
      have H5 := H4.go hl5
      clear c6 H4 hq hl5
      have c7 := below_any w5 p ca n cap 5 H5.left.1 H5.left.2.1 hn (by omega) (by omega)
      go_wp2_with fail
      refine c7.mono ?_
      rintro e w6 ⟨s, hs, _, rfl, hl6⟩
      have hs2 := hs (by omega)
      have H6 := H5.go hl6
      have hlE : E.pins.length ≤ 1048576 ∧ E.gone.length ≤ 1048576 := ⟨by have := hDr.right.2.1; omega, by have := hDr.right.2.2.1; omega⟩
      obtain ⟨y0, y1, y2⟩ := H6.box.cells
      have hdr : True := trivial
      clear c7 H5 hs hl6
      rcases (show s = 0 ∨ s = 1 ∨ s = 2 ∨ s = 3 ∨ s = 4 by omega) with rfl | rfl | rfl | rfl | rfl
      · skip
        have cC := specPinLook_any w6 a1 a2 c1 c2 E (q : Int) H6.at hlE.1 hlE.2
        obtain ⟨RES, hRES⟩ : ∃ R, pinE E (q : Int) = R := ⟨_, rfl⟩
        have hD : DrE (k + 1) RES.1 := by rw [← hRES]; exact hDr.pin _
        rw [hRES] at cC
        clear hRES
        go_wp2_with fail
        refine cC.mono ?_
        rintro e w7 ⟨vn, rfl, hon, hbn⟩
        obtain ⟨e1, f1, e2, f2, rfl, _⟩ := hon.at
        have H7 := H6.next hbn
        have HS := H7.store hon H6.left.2.2.size
        obtain ⟨t0, t1, t2⟩ := H7.box.cells
        obtain ⟨tf0, tf1, tf2⟩ := (⟨H7.box.thaw 0, H7.box.thaw 1, H7.box.thaw 2⟩ : _ ∧ _ ∧ _)
        have HH : Hid _ := HS
        clear cC y0 y1 y2 H6 H7 HS hon hbn hdr
        go_wp2_with fail
        go_roundw
        case rel =>
          try ((repeat apply Exists.intro); refine ⟨?_, rfl⟩)
          exact ⟨⟨k + 1, _, _, _, _, _, by omega, by go_num, hD, HH.out⟩⟩
        case measure => simp [intOf]; omega
      · skip
        have cC := specUnpinLook_any w6 a1 a2 c1 c2 E (q : Int) H6.at hlE.1 hlE.2
        obtain ⟨RES, hRES⟩ : ∃ R, unpinE E (q : Int) = R := ⟨_, rfl⟩
        have hD : DrE (k + 1) RES.1 := by rw [← hRES]; exact hDr.unpin _
        rw [hRES] at cC
        clear hRES
        go_wp2_with fail
        refine cC.mono ?_
        rintro e w7 ⟨vn, rfl, hon, hbn⟩
        obtain ⟨e1, f1, e2, f2, rfl, _⟩ := hon.at
        have H7 := H6.next hbn
        have HS := H7.store hon H6.left.2.2.size
        obtain ⟨t0, t1, t2⟩ := H7.box.cells
        obtain ⟨tf0, tf1, tf2⟩ := (⟨H7.box.thaw 0, H7.box.thaw 1, H7.box.thaw 2⟩ : _ ∧ _ ∧ _)
        have HH : Hid _ := HS
        clear cC y0 y1 y2 H6 H7 HS hon hbn hdr
        go_wp2_with fail
        go_roundw
        case rel =>
          try ((repeat apply Exists.intro); refine ⟨?_, rfl⟩)
          exact ⟨⟨k + 1, _, _, _, _, _, by omega, by go_num, hD, HH.out⟩⟩
        case measure => simp [intOf]; omega
      · have hdf : Left w6 w6.drew p ca n cap := ⟨H6.left.1.kept rfl, H6.left.2.1.kept (fun _ _ => rfl), ⟨rfl, rfl, rfl, Nat.le_refl _, fun _ _ _ => rfl⟩⟩
        have H6d := H6.go hdf
        have HC : Hid (∀ wj, Left w6 wj p ca n cap → Le w p ca n cap w.heap.size T a1 c1 a2 c2 E wj) := fun wj hl => H6.go hl
        clear y0 y1 y2
        obtain ⟨y0, y1, y2⟩ := H6d.box.cells
        go_wp2_with fail
        go_region_law (first
          | (go_simp; go_at_call 43; refine (below_any _ p ca n cap 9 H6d.left.1 H6d.left.2.1 hn (by omega) (by omega)).mono ?_; rintro e w7 ⟨z, hz, _, rfl, hl7⟩; have hz2 := hz (by omega); have H7 := H6d.go hl7; obtain ⟨z0, z1, z2⟩ := H7.box.cells; have haz : IntKind.i64.wrap (1 + (z : Int)) = 1 + (z : Int) := (by rw [IntKind.wrap_i64]; omega))
          | (go_simp; go_at_call 36; refine (specRetireNode_any _ a1 a2 c1 c2 E (1 + (z : Int)) H7.at hlE.1 hlE.2).mono ?_; rintro e w8 ⟨v8, rfl, ho8, hb8⟩; obtain ⟨e1, f1, e2, f2, rfl, _⟩ := ho8.at; have H8 := H7.next hb8; have H9 := H8.store ho8 H7.left.2.2.size; obtain ⟨t0, t1, t2⟩ := H8.box.cells; have tf0 := H8.box.thaw 0; have tf1 := H8.box.thaw 1; have tf2 := H8.box.thaw 2))
        all_goals (
          have hD : DrE (k + 1) (retireE E (1 + (z : Int))).1 := hDr.retire _ (by omega)
          have HH : Hid _ := H9
          clear H9 H8 H7 H6 H6d ho8 hb8 hl7 hz HC y0 y1 y2
          go_wp2_with fail
          refine ⟨?_, ?_⟩
          · exact ⟨⟨k + 1, _, _, _, _, _, by omega, by go_num, hD, HH.out⟩⟩
          · simp [intOf]; omega)
      · skip
        have cC := specAdvanceEpoch_any w6 a1 a2 c1 c2 E H6.at hlE.1 hlE.2
        obtain ⟨RES, hRES⟩ : ∃ R, advE E = R := ⟨_, rfl⟩
        have hD : DrE (k + 1) RES.1 := by rw [← hRES]; exact hDr.adv
        rw [hRES] at cC
        clear hRES
        go_wp2_with fail
        refine cC.mono ?_
        rintro e w7 ⟨vn, rfl, hon, hbn⟩
        obtain ⟨e1, f1, e2, f2, rfl, _⟩ := hon.at
        have H7 := H6.next hbn
        have HS := H7.store hon H6.left.2.2.size
        obtain ⟨t0, t1, t2⟩ := H7.box.cells
        obtain ⟨tf0, tf1, tf2⟩ := (⟨H7.box.thaw 0, H7.box.thaw 1, H7.box.thaw 2⟩ : _ ∧ _ ∧ _)
        have HH : Hid _ := HS
        clear cC y0 y1 y2 H6 H7 HS hon hbn hdr
        go_wp2_with fail
        go_roundw
        case rel =>
          try ((repeat apply Exists.intro); refine ⟨?_, rfl⟩)
          exact ⟨⟨k + 1, _, _, _, _, _, by omega, by go_num, hD, HH.out⟩⟩
        case measure => simp [intOf]; omega
      · skip
        have cC := specFreeNodes_any w6 a1 a2 c1 c2 E H6.at hlE.1 hlE.2
        obtain ⟨RES, hRES⟩ : ∃ R, freeE E = R := ⟨_, rfl⟩
        have hD : DrE (k + 1) RES.1 := by rw [← hRES]; exact hDr.free
        rw [hRES] at cC
        clear hRES
        go_wp2_with fail
        refine cC.mono ?_
        rintro e w7 ⟨vn, vf, rfl, hon, _, _, hbn⟩
        obtain ⟨e1, f1, e2, f2, rfl, _⟩ := hon.at
        have H7 := H6.next hbn
        have HS := H7.store hon H6.left.2.2.size
        obtain ⟨t0, t1, t2⟩ := H7.box.cells
        obtain ⟨tf0, tf1, tf2⟩ := (⟨H7.box.thaw 0, H7.box.thaw 1, H7.box.thaw 2⟩ : _ ∧ _ ∧ _)
        have HH : Hid _ := HS
        clear cC y0 y1 y2 H6 H7 HS hon hbn hdr
        go_wp2_with fail
        go_roundw
        case rel =>
          try ((repeat apply Exists.intro); refine ⟨?_, rfl⟩)
          exact ⟨⟨k + 1, _, _, _, _, _, by omega, by go_num, hD, HH.out⟩⟩
        case measure => simp [intOf]; omega
    · have HD : Hid (DrE 20 E) := ⟨hDr.right, by have := hDr.now; omega, hDr.nine, by have := hDr.few; omega⟩
      obtain ⟨t0, t1, t2⟩ := H4.box.cells
      obtain ⟨r0, r1, r2⟩ := H4.res.cells
      obtain ⟨f0, f1, f2⟩ := (⟨H4.res.thaw 0, H4.res.thaw 1, H4.res.thaw 2⟩ : _ ∧ _ ∧ _)
      have HH : Hid (Le w p ca n cap w.heap.size T a1 c1 a2 c2 E w4') := H4
      clear hDr H4
      go_wp2_with fail
      have H4 := HH.out
      obtain ⟨q0, q1, q2⟩ := (H4.res.put (.int .i64 E.now) (.slice a1 E.pins.length c1) (.slice a2 E.gone.length c2)).cells
      refine bodyPost_ret (v := .agg #[.int .i64 E.now, .slice a1 E.pins.length c1, .slice a2 E.gone.length c2]) (by simp [results, Try.results69, go_sem, q0, q1, q2]) rfl ⟨_, E, rfl, HD.out, H4.own.put H4.res _ _ _, ((H4.left.set H4.hp H4.hR _).set H4.hp H4.hR _).set H4.hp H4.hR _⟩
set_option maxHeartbeats 2000000 in
theorem drawEpochs_any (w : World) (ca : Option Addr) (n cap : Nat) (hcode : CodeAt w ca n w.heap.size) (hn : n ≤ 1048576) :
    Calls Try.prog 24 #[.slice ca n cap] w fun e w' => ∃ (v : Value) (E : Ep), e = .returned v ∧ DrE 20 E ∧ EOwn w' w.heap.size v E ∧ Below w.heap.size w w' := by
  obtain ⟨w1, hw1⟩ : ∃ x, w.alloc (.cells #[.int .i64 0, .slice none 0 0, .slice none 0 0] 50) = x := ⟨_, rfl⟩
  have hb1 : Below w.heap.size w w1 := by rw [← hw1]; exact (Below.refl _ _).alloc (Nat.le_refl _) _
  have hR1 : EBox w1 w.heap.size (.int .i64 0) (.slice none 0 0) (.slice none 0 0) := by rw [← hw1]; exact EBox.new _ _ _ _
  have hcode1 : CodeAt w1 ca n w1.heap.size := by
    intro j hj
    obtain ⟨b, off, z, h1, h2, h3, h4⟩ := hcode j hj
    exact ⟨b, off, z, h1, Nat.lt_of_lt_of_le h2 hb1.size, (hb1.cell h2).trans h3, h4⟩
  have c1 := new_any w1 ca n cap hcode1 hn
  have HW : Hid (w.alloc (.cells #[.int .i64 0, .slice none 0 0, .slice none 0 0] 50) = w1) := hw1
  clear hcode hcode1 hw1
  go_enter Try.func24, Try.ntmps24
  go_wp2_with fail
  rw [HW.out]
  refine c1.mono ?_
  rintro e w2 ⟨p, rfl, hp1, hp2, hcur, hcd, hb2⟩
  have c2 := l08Epochs_any w2 p ca n cap hcur hcd hn
  clear c1 hcur hcd
  go_wp2_with fail
  refine c2.mono ?_
  rintro e w3 ⟨v, E, rfl, hD, hown, hl3⟩
  obtain ⟨a1, c1, a2, c2', rfl, _⟩ := hown.at
  have hb12 : Below w.heap.size w w2 := hb1.trans (hb2.mono hb1.size)
  have hb13 : Below w.heap.size w w3 := below_of_left hb12 (by have := hb1.size; omega) hl3
  have hR3 : EBox w3 w.heap.size (.int .i64 0) (.slice none 0 0) (.slice none 0 0) := (hR1.on hb2).grownE hl3.2.2 (by have := hR1.lt; omega)
  obtain ⟨r0, r1, r2⟩ := hR3.cells
  obtain ⟨f0, f1, f2⟩ := (⟨hR3.thaw 0, hR3.thaw 1, hR3.thaw 2⟩ : _ ∧ _ ∧ _)
  have HO : Hid (DrE 20 E ∧ EOwn w3 w.heap.size (.agg #[.int .i64 E.now, .slice a1 E.pins.length c1, .slice a2 E.gone.length c2']) E ∧ Below w.heap.size w w3) := ⟨hD, hown.mono hb12.size, hb13⟩
  clear c2 hD hown hl3 hb12 hb13 hb1 hb2 hR1
  go_wp2_with fail
  obtain ⟨q0, q1, q2⟩ := (hR3.put (.int .i64 E.now) (.slice a1 E.pins.length c1) (.slice a2 E.gone.length c2')).cells
  refine bodyPost_ret (v := .agg #[.int .i64 E.now, .slice a1 E.pins.length c1, .slice a2 E.gone.length c2']) (by simp [results, Try.results24, go_sem, q0, q1, q2]) rfl ⟨_, E, rfl, HO.out.1, HO.out.2.1.put hR3 _ _ _, Below.put3 HO.out.2.2 (Nat.le_refl _) _ _ _⟩
end Go.Proofs.Ytockgojdmaladac
