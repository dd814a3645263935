/- The law: drawn acts, done one by one, leave what they leave all at once. -/
import Derived.Test.YtiddmmmgmoofnaaOneKit
import Derived.Test.YtiddmmmgmoofnaaActsTold
import Derived.Test.YtiddmmmgmoofnaaRunImpl
import Derived.Test.YtiddmmmgmoofnaaActImpl
import Derived.Test.YtiddmmmgmoofnaaRunSpec
import Derived.Test.YtiddmmmgmoofnaaCutImpl
import Derived.Test.YtiddmmmgmoofnaaCutSpec
import Derived.Test.YtiddmmmgmoofnaaAtImpl
import Derived.Test.YtiddmmmgmoofnaaBig
import Derived.Deep.RegionHeld3
import Derived.Deep.DeepCutAuto
import Derived.Deep.RegionLaw
namespace Go.Proofs.Ytiddmmmgmoofnaa
open Go.RowKit Go.Sort

theorem fil_wgt : ∀ {L : List Fil} {f : Fil}, f ∈ L → f.tx.size ≤ wgt L
  | [], _, h => by simp at h
  | g :: L, f, h => by
    rcases List.mem_cons.1 h with rfl | h
    · simp only [wgt]; omega
    · have := fil_wgt h
      simp only [wgt]; omega
theorem fileAt_le (L : List Fil) (nm : ByteArray) : (fileAt L nm).1.size ≤ wgt L := by
  unfold fileAt
  cases h : L.find? (fun f => eqS f.nm nm) with
  | none => exact Nat.zero_le _
  | some f => exact fil_wgt (List.mem_of_find?_eq_some h)

/-- What the law has at hand in its loop. -/
structure On (w0 : World) (ON : Nat) (y : Option Addr) (cy : Nat) (Lk : List Fil) (wi : World) : Prop where
  box : DBox wi ON (.slice y Lk.length cy)
  own : OwnF wi 0 36 (.slice y Lk.length cy) Lk
  bel : Below w0.heap.size w0 wi
theorem On.fat {w0 : World} {ON : Nat} {y : Option Addr} {cy : Nat} {Lk : List Fil} {wi : World} (h : On w0 ON y cy Lk wi) : FAt wi y Lk wi.heap.size := by
  obtain ⟨y', cy', e, hA'⟩ := h.own.at
  simp at e
  rw [e.1]
  exact hA'
theorem On.next {w0 : World} {ON : Nat} {y : Option Addr} {cy : Nat} {Lk : List Fil} {wi wj : World} (h : On w0 ON y cy Lk wi) (hb : Below wi.heap.size wi wj) : On w0 ON y cy Lk wj := ⟨h.box.on hb, h.own.below hb (Nat.le_refl _), bthen h.bel hb⟩

set_option maxRecDepth 100000 in
set_option maxHeartbeats 4000000 in
theorem acts_walk (ca : Option Addr) (n cap : Nat) (w : World) (hcode : CodeAt w ca n w.heap.size) (hlen : n ≤ maxLen) :
    Calls Try.prog 4 #[.slice ca n cap] w fun e w' => e = .returned (.bool true) ∧ Below w.heap.size w w' := by
  unfold maxLen at hlen
  by_cases hn : n ≤ 1048576
  case neg =>
    have hbig : decide (1048576 < n) = true := by simp; omega
    clear hcode
    go_enter Try.func4, Try.ntmps4
    go_wp2_with fail
    refine (big_any ca n cap w hlen).mono ?_
    rintro e w' ⟨rfl, rfl⟩
    rw [hbig]
    go_wp2
    go_ret
    exact ⟨rfl, Below.refl _ _⟩
  have c1 := drawCutActs_any w ca n cap hcode hn
  have hbig : decide (1048576 < n) = false := by simp; omega
  clear hcode
  go_enter Try.func4, Try.ntmps4
  go_wp2_with fail
  refine (big_any ca n cap w hlen).mono ?_
  rintro e w' ⟨rfl, rfl⟩
  rw [hbig]
  clear hbig
  go_wp2_with fail
  refine c1.mono ?_
  rintro e w1 ⟨v, L, u, As, z, x, l, rfl, hL31, hSm, hA8, hsm, hz, hl5, hoF, hoA, hoV, hb1⟩
  obtain ⟨a, c, rfl, hF⟩ := hoF.at
  obtain ⟨b, cb, rfl, hA⟩ := hoA.at
  obtain ⟨xa, xc, rfl, hI⟩ := hoV.ints
  have hcuts := hoA.cuts
  have hwg : L.length + wgt L ≤ 1048576 := by have := hSm.wgt; omega
  have haw : awg As ≤ 1048576 := by have := small_awg hsm; omega
  have HSA : Hid (SizedA As) := small_sized hsm
  have hD := Dsk.new (c := c) hF rfl
  have hbx : Below w1.heap.size w1 (w1.alloc (.cells #[.slice a L.length c] 26)) := (Below.refl _ _).alloc (Nat.le_refl _) _
  obtain ⟨D, hDe⟩ : ∃ D, w1.heap.size = D := ⟨_, rfl⟩
  rw [hDe] at hD
  obtain ⟨w2, hw2⟩ : ∃ w2, w1.alloc (.cells #[.slice a L.length c] 26) = w2 := ⟨_, rfl⟩
  rw [hw2] at hD hbx
  have HW2 : Hid (w1.alloc (.cells #[.slice a L.length c] 26) = w2) := hw2
  have H2 : Hn w D a L.length c L b As xa l w2 := ⟨hD, hA.on hbx, hI.on hbx, bthen hb1 hbx⟩
  have hoF2 : OwnF w2 0 36 (.slice a L.length c) L := (hoF.below hbx (Nat.le_refl _)).mono (Nat.zero_le _)
  obtain ⟨R, hR⟩ : ∃ R, (runL L As).1 = R := ⟨_, rfl⟩
  obtain ⟨nn, hnn⟩ : ∃ nn, (runL L As).2 = nn := ⟨_, rfl⟩
  have hRw : R.length + wgt R ≤ 1048576 := by rw [← hR]; exact runL_wgt As L hwg
  have hnA : nn ≤ As.length := by rw [← hnn]; exact runL_le As L
  have HR : Hid ((runL L As).1 = R) := hR
  have HN : Hid ((runL L As).2 = nn) := hnn
  have c2 := implDoActs_any w2 a c L b cb As H2.d.fat H2.acts hwg HSA.out (by omega)
  have C3 : Hid (∀ wi, FAt wi a L wi.heap.size → AAt wi b As wi.heap.size → Calls Try.prog 16 #[.agg #[.slice a L.length c], .slice b As.length cb] wi fun e w' => ∃ v, e = .returned (.tuple #[.agg #[v], .int .i64 (nn : Int)]) ∧ OwnF w' wi.heap.size 36 v R ∧ Below wi.heap.size wi w') := by
    intro wi h1 h2
    have := specDoActs_any wi a c L b cb As h1 h2 (by omega) haw (by omega)
    rw [hR, hnn] at this
    exact this
  rw [hR, hnn] at c2
  have hq2 := H2.d.box.cell
  clear hw2 hR hnn hoF hoA hoV hF hA hI hD hbx hSm hsm c1 hb1
  go_wp2_with fail
  rw [HW2.out]
  refine c2.mono ?_
  rintro e w3 ⟨v3, rfl, ho3, hb3⟩
  obtain ⟨a3, c3, rfl, hF3⟩ := ho3.at
  have H3 := H2.next hb3
  have hoF3 := hoF2.below hb3 (Nat.le_refl _)
  have hbx4 : Below w3.heap.size w3 (w3.alloc (.cells #[.slice a3 R.length c3] 26)) := (Below.refl _ _).alloc (Nat.le_refl _) _
  have hN4 := Dsk.new (c := c3) hF3 rfl
  obtain ⟨NW, hNe⟩ : ∃ NW, w3.heap.size = NW := ⟨_, rfl⟩
  rw [hNe] at hN4
  obtain ⟨w4, hw4⟩ : ∃ w4, w3.alloc (.cells #[.slice a3 R.length c3] 26) = w4 := ⟨_, rfl⟩
  rw [hw4] at hN4 hbx4
  have H4 := H3.next hbx4
  have hoF4 := hoF3.below hbx4 (Nat.le_refl _)
  have hq4 := H4.d.box.cell
  rw [← hw4] at hq4
  have HW4 : Hid (w3.alloc (.cells #[.slice a3 R.length c3] 26) = w4) := hw4
  have c4 := C3.out w4 H4.d.fat H4.acts
  clear hw4 c2 hq2 H2 H3 hoF2 hoF3 hF3 ho3 hb3 hbx4
  go_wp2_with fail
  rw [HW4.out]
  refine c4.mono ?_
  rintro e w5 ⟨v5, rfl, ho5, hb5⟩
  obtain ⟨a5, c5, rfl, hF5⟩ := ho5.at
  have H5 := H4.next hb5
  have hN5 := hN4.next hb5
  have hoF5 := hoF4.below hb5 (Nat.le_refl _)
  have hbx6 : Below w5.heap.size w5 (w5.alloc (.cells #[.slice a5 R.length c5] 26)) := (Below.refl _ _).alloc (Nat.le_refl _) _
  have hM6 := Dsk.new (c := c5) hF5 rfl
  obtain ⟨WN, hWe⟩ : ∃ WN, w5.heap.size = WN := ⟨_, rfl⟩
  rw [hWe] at hM6
  obtain ⟨w6, hw6⟩ : ∃ w6, w5.alloc (.cells #[.slice a5 R.length c5] 26) = w6 := ⟨_, rfl⟩
  rw [hw6] at hM6 hbx6
  have H6 := H5.next hbx6
  have hN6 := hN5.next hbx6
  have hoF6 := hoF5.below hbx6 (Nat.le_refl _)
  have hq6 := hN6.box.cell
  have hq6b := hM6.box.cell
  rw [← hw6] at hq6 hq6b
  have HW6 : Hid (w5.alloc (.cells #[.slice a5 R.length c5] 26) = w6) := hw6
  have c6 := sameDisk_same w6 a3 a5 c3 c5 R hN6.fat hM6.fat (by omega)
  clear hw6 c4 hq4 H4 H5 hoF4 hoF5 hF5 ho5 hb5 hbx6 hN4 hN5 C3
  go_wp2_with fail
  rw [HW6.out]
  refine c6.mono ?_
  rintro e w7 ⟨rfl, hb7⟩
  have H7 := H6.next hb7
  have hN7 := hN6.next hb7
  have hoF7 := hoF6.below hb7 (Nat.le_refl _)
  have hq7 := H7.d.box.cell
  obtain ⟨w8, hw8⟩ : ∃ w8, w7.alloc (.cells #[.slice a L.length c] 26) = w8 := ⟨_, rfl⟩
  have hbx8 : Below w7.heap.size w7 w8 := by rw [← hw8]; exact (Below.refl _ _).alloc (Nat.le_refl _) _
  obtain ⟨ON, hOe⟩ : ∃ ON, w7.heap.size = ON := ⟨_, rfl⟩
  have hO8 : On w7 ON a c L w8 := ⟨by rw [← hw8, ← hOe]; exact DBox.new _ _, hoF7.below hbx8 (Nat.le_refl _), hbx8⟩
  have HW8 : Hid (w7.alloc (.cells #[.slice a L.length c] 26) = w8) := hw8
  clear hw8 c6 hq6 hq6b H6 hN6 hM6 hoF6 hoF7 hb7 hbx8
  go_wp2
  rw [HW8.out]
  clear hq7
  go_loopw [12] (fun i wr => Box (∃ (k : Nat) (Lk : List Fil) (y : Option Addr) (cy : Nat), k ≤ nn ∧ i = .int .i64 k ∧ Hid (Went L As k Lk) ∧ Lk.length + wgt Lk ≤ 1048576 ∧ On w7 ON y cy Lk wr))
    (fun i _ => nn - (intOf i).toNat)
  case atStart => exact ⟨⟨0, L, a, c, by omega, rfl, Went.start L As, hwg, hO8⟩⟩
  case round =>
    obtain ⟨k, Lk, y, cy, hk, rfl, HWt, hLk, hO⟩ := hrel.out
    clear hrel hO8
    have HX := H7.next hO.bel
    by_cases hlt : k < nn
    · obtain ⟨hkA, X, hac⟩ := HWt.out.more (by rw [HN.out]; exact hlt)
      have HST : Hid (Went L As (k + 1) X) := HWt.out.step hkA hac
      have hXd := ac_dOk hac
      have hXw := dOk_wgt hXd
      obtain ⟨g, off, rfl, hg, hc0, hc1, hc2, hc3⟩ := HX.acts k hkA
      have HSk := HSA.out k hkA
      obtain ⟨⟨kd, nm, tx, tw⟩, hAk⟩ : ∃ A, As[k] = A := ⟨_, rfl⟩
      have HAk : Hid (As[k] = ⟨kd, nm, tx, tw⟩) := hAk
      have HAC : Hid (ac Lk ⟨kd, nm, tx, tw⟩ = some X) := by show _ = _; rw [← hAk]; exact hac
      rw [hAk] at hc0 hc1 hc2 hc3 HSk
      have hnm : nm.size ≤ maxLen := HSk.1
      have HTX : Hid (tx.size ≤ 1048576) := by
        show _ ≤ _
        have h1 := awg_mem hkA
        rw [hAk] at h1
        have h2 : (⟨kd, nm, tx, tw⟩ : Ac).wg = nm.size + tx.size + tw.size := rfl
        omega
      have hFk := hO.fat
      have CS : Hid (∀ wi : World, Below wr.heap.size wr wi → Calls Try.prog 17 #[.agg #[.slice y Lk.length cy], .agg #[.int .i64 kd, .string nm, .string tx, .string tw]] wi fun e w' => ∃ u cu, e = .returned (.tuple #[.agg #[.slice u X.length cu], .bool true]) ∧ OwnF w' 0 36 (.slice u X.length cu) X ∧ Below wi.heap.size wi w') := by
        intro wi hi
        refine (implDoAct_any wi y cy Lk kd nm tx tw (hFk.on hi) (by omega) hnm).mono ?_
        rintro e w' ⟨v, he, ho', hb'⟩
        rw [HAC.out] at he ho'
        obtain ⟨u, cu, rfl, _⟩ := ho'.shape
        exact ⟨u, cu, he, ho'.mono (Nat.zero_le _), hb'⟩
      have hi1 : (0 : Int) ≤ (k : Int) := by omega
      have hi2 : (k : Int) < (As.length : Int) := by omega
      have cO := hO.box.cell
      have cOz := kept_x_new cO (.cells #[.slice none 0 0] 26)
      have hz0 := kept_x_new hc0 (.cells #[.slice none 0 0] 26)
      have hz1 := kept_x_new hc1 (.cells #[.slice none 0 0] 26)
      have hz2 := kept_x_new hc2 (.cells #[.slice none 0 0] 26)
      have hz3 := kept_x_new hc3 (.cells #[.slice none 0 0] 26)
      have hdr : Below wr.heap.size wr wr.drew := ⟨rfl, rfl, rfl, Nat.le_refl _, fun _ _ => rfl⟩
      clear hAk hac hXd HSk hFk HWt hnm
      go_wp2_with fail
      go_cut [13, 14] from 54 to 122 (fun p okv wc => ∃ (N0 : Nat) (u : Option Addr) (cu : Nat), p = .pointer (some ⟨N0, 0, none⟩) ∧ okv = .bool true ∧ DBox wc N0 (.slice u X.length cu) ∧ OwnF wc 0 36 (.slice u X.length cu) X ∧ Below wr.heap.size wr wc)
      case first =>
        clear HX H7 hN7 hO HST HAC HSA HR HN
        go_region_law (go_simp; go_at_call 17; first
          | (refine (CS.out wr.drew hdr).mono ?_; rintro e wC ⟨u, cu, rfl, hoC, hbC⟩; have hC1 := bthen hdr hbC; clear hbC)
          | (refine (CS.out (wr.drew.alloc (.cells #[.slice none 0 0] 26)) (bplus hdr _)).mono ?_; rintro e wC ⟨u, cu, rfl, hoC, hbC⟩; have hz : DBox wC wr.heap.size (.slice none 0 0) := (DBox.new wr.drew (.slice none 0 0)).on hbC; have hC1 := bthen (bplus hdr _) hbC; have qz := hz.cell; have zz := hz.thaw; clear hbC))
        all_goals go_wp2_with fail
        all_goals go_meet
        all_goals first
          | exact ⟨_, u, cu, rfl, rfl, hz.set _, hoC.setBox hz, hC1.setCell (by simp) _⟩
          | exact ⟨_, u, cu, rfl, rfl, DBox.new _ _, hoC.alloc _, bplus hC1 _⟩
          | trace_state
      case rest =>
        obtain ⟨N0, u, cu, rfl, rfl, hN, hoN, hbN⟩ := hcut
        have hOc := hO.next hbN
        have HXc := HX.next hbN
        have hgc := Nat.lt_of_lt_of_le hg hbN.size
        have d1 := (hbN.cell (p := ⟨g, off + k * 4 + 1, none⟩) hg).trans hc1
        have hp1 : ON < wc.heap.size := hOc.box.lt
        have hS1 : Below wc.heap.size wc wc.drew ∧ wc.drew.cell? ⟨ON, 0, none⟩ = some (.slice y Lk.length cy) ∧ wc.drew.cell? ⟨g, off + k * 4 + 1, none⟩ = some (.string nm) := ⟨⟨rfl, rfl, rfl, Nat.le_refl _, fun _ _ => rfl⟩, hOc.box.cell, d1⟩
        obtain ⟨fx, fb, hfx⟩ : ∃ fx fb, fileAt Lk nm = (fx, fb) := ⟨_, _, rfl⟩
        have hfl : fx.size ≤ 1048576 := by have := fileAt_le Lk nm; rw [hfx] at this; dsimp only at this; omega
        have CF : Hid (∀ wi, Below wc.heap.size wc wi → Calls Try.prog 18 #[.agg #[.slice y Lk.length cy], .string nm] wi fun e w' => e = .returned (.tuple #[.string fx, .bool fb]) ∧ Below wi.heap.size wi w') := by
          intro wi hi
          have := implFileAt_any wi y cy Lk nm (hOc.fat.on hi) hLk
          rw [hfx] at this
          exact this
        clear cO cOz hc0 hc1 hc2 hc3 hz0 hz1 hz2 hz3 hdr hO HX CS d1
        go_wp2
        go_region_held3 (fun w' => Below wc.heap.size wc w' ∧ w'.cell? ⟨ON, 0, none⟩ = some (.slice y Lk.length cy) ∧ w'.cell? ⟨g, off + k * 4 + 1, none⟩ = some (.string nm)) (first | exact hS1 | (refine kept2 (by assumption) hp1 hgc ?_; assumption))
          ((go_at_call 18; refine (CF.out _ (And.left (by assumption))).mono ?_; rintro e w9 ⟨rfl, hb9⟩))
        have h9 : Below wc.heap.size wc w9 := And.left (by assumption)
        have hO9 := hOc.next h9
        have HX9 := HXc.next h9
        have hN9 := hN.on h9
        have hoN9 := hoN.below h9 (Nat.le_refl _)
        have hg9 := Nat.lt_of_lt_of_le hgc h9.size
        obtain ⟨g9, off9, ha9, _, e0, e1, e2, e3⟩ := HX9.acts k hkA
        simp only [Option.some.injEq, Addr.mk.injEq, and_true] at ha9
        obtain ⟨rfl, rfl⟩ := ha9
        rw [HAk.out] at e0 e1 e2 e3
        have hp2 : N0 < w9.heap.size := hN9.lt
        have hS2 : Below w9.heap.size w9 w9.drew ∧ w9.drew.cell? ⟨N0, 0, none⟩ = some (.slice u X.length cu) ∧ w9.drew.cell? ⟨g, off + k * 4 + 1, none⟩ = some (.string nm) := ⟨⟨rfl, rfl, rfl, Nat.le_refl _, fun _ _ => rfl⟩, hN9.cell, e1⟩
        obtain ⟨gx, gb, hgx⟩ : ∃ gx gb, fileAt X nm = (gx, gb) := ⟨_, _, rfl⟩
        have hFX : FAt w9 u X w9.heap.size := by
          obtain ⟨y', cy', e, hA'⟩ := hoN9.at
          simp at e
          rw [e.1]
          exact hA'
        have CG : Hid (∀ wi, Below w9.heap.size w9 wi → Calls Try.prog 18 #[.agg #[.slice u X.length cu], .string nm] wi fun e w' => e = .returned (.tuple #[.string gx, .bool gb]) ∧ Below wi.heap.size wi w') := by
          intro wi hi
          have := implFileAt_any wi u cu X nm (hFX.on hi) hXw
          rw [hgx] at this
          exact this
        have HG1 : Hid (kd = 1 → (gx, gb) = (fx ++ tx, true)) := by
          intro h
          have := ac_add HAC.out h
          rw [hfx, hgx] at this
          exact this
        have HG4 : Hid (kd = 4 → gb = false) := by
          intro h
          have := ac_drop HAC.out h
          rw [hgx] at this
          exact this
        clear hOc HXc hN hoN hfx hgx hFX CF hS1 hp1 hgc e0 e1 e2 e3 hb9 HAC hbN h9
        go_wp2
        go_region_held3 (fun w' => Below w9.heap.size w9 w' ∧ w'.cell? ⟨N0, 0, none⟩ = some (.slice u X.length cu) ∧ w'.cell? ⟨g, off + k * 4 + 1, none⟩ = some (.string nm)) (first | exact hS2 | (refine kept2 (by assumption) hp2 hg9 ?_; assumption))
          ((go_at_call 18; refine (CG.out _ (And.left (by assumption))).mono ?_; rintro e w10 ⟨rfl, hb10⟩))
        have h10 : Below w9.heap.size w9 w10 := And.left (by assumption)
        have hO10 := hO9.next h10
        have HX10 := HX9.next h10
        have hN10 := hN9.on h10
        have hoN10 := hoN9.below h10 (Nat.le_refl _)
        obtain ⟨g9, off9, ha9, _, e0, e1, e2, e3⟩ := HX10.acts k hkA
        simp only [Option.some.injEq, Addr.mk.injEq, and_true] at ha9
        obtain ⟨rfl, rfl⟩ := ha9
        rw [HAk.out] at e0 e1 e2 e3
        have qO := hO10.box.cell
        have zO := hO10.box.thaw
        have qN := hN10.cell
        have hO11 : On w7 ON u cu X (w10.setCell ⟨ON, 0, none⟩ (.slice u X.length cu)) := ⟨hO10.box.set _, hoN10.setBox hO10.box, hO10.bel.setCell (by rw [hOe]; exact Nat.le_refl _) _⟩
        have HO : Hid (On w7 ON u cu X (w10.setCell ⟨ON, 0, none⟩ (.slice u X.length cu))) := hO11
        clear hO9 HX9 hN9 hoN9 hg9 hp2 hS2 CG hb10 h10 hO10 HX10 hN10 hoN10 hO11
        by_cases hk1 : kd = 1
        · subst hk1
          have := HG1.out rfl
          simp only [Prod.mk.injEq] at this
          obtain ⟨rfl, rfl⟩ := this
          have hadd := fun w => run_string_add_sum (P := Try.prog) (w := w) fx tx (by have := HTX.out; omega)
          clear HG1 HG4
          go_wp2
          go_roundw
          case rel =>
            try ((repeat apply Exists.intro); refine ⟨?_, rfl⟩)
            exact ⟨⟨k + 1, X, u, cu, by omega, by go_num, HST, hXw, HO.out⟩⟩
          case measure => simp [intOf]; omega
        · have d1 : decide (kd = 1) = false := decide_eq_false hk1
          by_cases hk4 : kd = 4
          · subst hk4
            have := HG4.out rfl
            subst this
            clear HG1 HG4
            go_wp2
            go_roundw
            case rel =>
              try ((repeat apply Exists.intro); refine ⟨?_, rfl⟩)
              exact ⟨⟨k + 1, X, u, cu, by omega, by go_num, HST, hXw, HO.out⟩⟩
            case measure => simp [intOf]; omega
          · have d4 : decide (kd = 4) = false := decide_eq_false hk4
            clear HG1 HG4
            go_wp2
            go_roundw
            case rel =>
              try ((repeat apply Exists.intro); refine ⟨?_, rfl⟩)
              exact ⟨⟨k + 1, X, u, cu, by omega, by go_num, HST, hXw, HO.out⟩⟩
            case measure => simp [intOf]; omega
    · have hke : k = nn := by omega
      subst hke
      have hall := HWt.out.all_done HN.out.symm
      rw [HR.out] at hall
      subst hall
      have hNr := hN7.next hO.bel
      obtain ⟨Q, hQ⟩ : ∃ Q, (cutR L As z l).1 = Q := ⟨_, rfl⟩
      obtain ⟨qb, hqb⟩ : ∃ qb, (cutR L As z l).2 = qb := ⟨_, rfl⟩
      have c9 := implCut_any wr a c L b cb As z xa xc l HX.d.fat HX.acts HX.ints hwg HSA.out (by omega) (by omega) hcuts
      have C10 : Hid (∀ wi, Hn w D a L.length c L b As xa l wi → Calls Try.prog 20 #[.agg #[.slice a L.length c], .slice b As.length cb, .int .i64 z, .slice xa l.length xc] wi fun e w' => ∃ v, e = .returned (.tuple #[.agg #[v], .bool qb]) ∧ OwnF w' wi.heap.size 36 v Q ∧ Below wi.heap.size wi w') := by
        intro wi h
        have := specCut_any wi a c L b cb As z xa xc l h.d.fat h.acts h.ints hwg haw (by omega) (by omega) hcuts
        rw [hQ, hqb] at this
        exact this
      have hQl : Q.length ≤ 1048576 := by rw [← hQ]; exact cutR_len L As z l (by omega)
      rw [hQ, hqb] at c9
      have qD := HX.d.box.cell
      clear hQ hqb HWt HN HR HSA
      go_wp2_with fail
      refine c9.mono ?_
      rintro e w9 ⟨v9, rfl, ho9, hb9⟩
      obtain ⟨a9, c9', rfl, hF9⟩ := ho9.at
      have HX9 := HX.next hb9
      have hN9 := hNr.next hb9
      have hO9 := hO.next hb9
      have hbx10 : Below w9.heap.size w9 (w9.alloc (.cells #[.slice a9 Q.length c9'] 26)) := (Below.refl _ _).alloc (Nat.le_refl _) _
      have hC10 := Dsk.new (c := c9') hF9 rfl
      obtain ⟨CT, hCe⟩ : ∃ CT, w9.heap.size = CT := ⟨_, rfl⟩
      rw [hCe] at hC10
      obtain ⟨w10, hw10⟩ : ∃ w10, w9.alloc (.cells #[.slice a9 Q.length c9'] 26) = w10 := ⟨_, rfl⟩
      rw [hw10] at hC10 hbx10
      have HX10 := HX9.next hbx10
      have hN10 := hN9.next hbx10
      have hO10 := hO9.next hbx10
      have q10 := HX10.d.box.cell
      rw [← hw10] at q10
      have HW10 : Hid (w9.alloc (.cells #[.slice a9 Q.length c9'] 26) = w10) := hw10
      have c10 := C10.out w10 HX10
      clear hw10 c9 qD HX HX9 hN9 hNr hO hO9 hF9 ho9 hb9 hbx10
      go_wp2_with fail
      rw [HW10.out]
      refine c10.mono ?_
      rintro e w11 ⟨v11, rfl, ho11, hb11⟩
      obtain ⟨a11, c11, rfl, hF11⟩ := ho11.at
      have hC11 := hC10.next hb11
      have hN11 := hN10.next hb11
      have hO11 := hO10.next hb11
      have HX11 := HX10.next hb11
      have hbx12 : Below w11.heap.size w11 (w11.alloc (.cells #[.slice a11 Q.length c11] 26)) := (Below.refl _ _).alloc (Nat.le_refl _) _
      have hE12 := Dsk.new (c := c11) hF11 rfl
      obtain ⟨AL, hAe⟩ : ∃ AL, w11.heap.size = AL := ⟨_, rfl⟩
      rw [hAe] at hE12
      obtain ⟨w12, hw12⟩ : ∃ w12, w11.alloc (.cells #[.slice a11 Q.length c11] 26) = w12 := ⟨_, rfl⟩
      rw [hw12] at hE12 hbx12
      have hC12 := hC11.next hbx12
      have hN12 := hN11.next hbx12
      have hO12 := hO11.next hbx12
      have HX12 := HX11.next hbx12
      have q12a := hC12.box.cell
      have q12b := hE12.box.cell
      rw [← hw12] at q12a q12b
      have HW12 : Hid (w11.alloc (.cells #[.slice a11 Q.length c11] 26) = w12) := hw12
      have c12 := sameDisk_same w12 a9 a11 c9' c11 Q hC12.fat hE12.fat hQl
      clear hw12 c10 q10 hC10 hC11 hN10 hN11 hO10 hO11 HX10 HX11 hF11 ho11 hb11 hbx12 C10
      go_wp2_with fail
      rw [HW12.out]
      refine c12.mono ?_
      rintro e w13 ⟨rfl, hb13⟩
      have hN13 := hN12.next hb13
      have hO13 := hO12.next hb13
      have HX13 := HX12.next hb13
      have hB13 := HX13.bel
      clear c12 q12a q12b hC12 hE12 hN12 hO12 HX12 HX13 hb13
      by_cases hk0 : k = 0
      · subst hk0
        clear hN13 hO13
        go_wp2
        go_ret
        exact ⟨rfl, hB13⟩
      · have d0 : decide ((k : Int) = 0) = false := decide_eq_false (by omega)
        have q13a := hO13.box.cell
        have q13b := hN13.box.cell
        have c13 := sameDisk_same w13 y a3 cy c3 _ hO13.fat hN13.fat (by omega)
        clear hN13 hO13
        go_wp2_with fail
        refine c13.mono ?_
        rintro e w14 ⟨rfl, hb14⟩
        go_wp2
        go_ret
        exact ⟨rfl, bthen hB13 hb14⟩
end Go.Proofs.Ytiddmmmgmoofnaa
