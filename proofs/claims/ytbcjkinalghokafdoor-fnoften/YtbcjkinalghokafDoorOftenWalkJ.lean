/- Texts that stand in one: OftenWalk, CodeOf. -/
import Derived.Test.YtbcjkinalghokafDoorOftenPlainJ
import Derived.Test.YtbcjkinalghokafDoorPolSizesJ
import Derived.Test.YtbcjkinalghokafDoorPolTouchImpl
import Derived.Test.YtbcjkinalghokafDoorSkNewImplJ
import Derived.Test.YtbcjkinalghokafDoorDecimalJ
import Derived.Test.YtbcjkinalghokafDoorDrawTurnJ
import Derived.Deep.RegionLaw
import Derived.WalkKit
import Derived.ProofKit
import Derived.OpenShut
import Derived.ChangeOld
import Derived.Below
namespace Go.Proofs.YtbcjkinalghokafDoor
open Go.RowKit Go.Sort

theorem okP_rows {P : Pol} (h : okP P = true) : P.sk.rows.length ≤ 1048576 := by
  have := okP_wgt h
  unfold wgtP at this
  omega
theorem CodeAt.onP {w w' : World} {ca : Option Addr} {n : Nat} (h : CodeAt w ca n w.heap.size) (hb : Below w.heap.size w w') : CodeAt w' ca n w'.heap.size := by
  intro j hj
  obtain ⟨b, off, z, h1, h2, h3, h4⟩ := h j hj
  exact ⟨b, off, z, h1, Nat.lt_of_lt_of_le h2 hb.size, (hb.cell h2).trans h3, h4⟩
set_option maxRecDepth 100000 in
set_option maxHeartbeats 8000000 in
theorem often_walk (ca : Option Addr) (n cap : Nat) (w : World) (hcode : CodeAt w ca n w.heap.size) (hlen : n ≤ maxLen) (ht : Tab w) :
    Calls Tryd.prog 5 #[.slice ca n cap] w fun e w' => e = .returned (.bool true) ∧ Below w.heap.size w w' := by
  unfold maxLen at hlen
  have cb := big_any ca n cap w (by omega)
  by_cases hn : n ≤ 1048576
  case neg =>
    rw [show decide (1048576 < n) = true by simp; omega] at cb
    go_enter Tryd.func5, Tryd.ntmps5
    go_wp2_with fail
    refine cb.mono ?_
    rintro e w' ⟨rfl, rfl⟩
    go_wp2_with fail
    go_ret
    exact ⟨rfl, Below.refl _ _⟩
  rw [show decide (1048576 < n) = false by simp; omega] at cb
  have HTB : Hid (∀ W, Below w.heap.size w W → Tab W) := fun W h => ht.below h (Nat.le_refl _)
  have HCD : Hid (CodeAt w ca n w.heap.size) := hcode
  have cN := implPolicyNew_any w
  clear ht hcode
  go_enter Tryd.func5, Tryd.ntmps5
  go_wp2_with fail
  refine cb.mono ?_
  rintro e w' ⟨rfl, rfl⟩
  clear cb
  go_wp2_with fail
  refine cN.mono ?_
  rintro e w2 ⟨v, rfl, hO2, hb2⟩
  obtain ⟨p1, q1, p2, q2, p3, q3, rfl, _⟩ := hO2.at
  have S3 := PolV.new hO2 hb2.size
  obtain ⟨T, hT⟩ : ∃ T, w2.heap.size = T := ⟨_, rfl⟩
  obtain ⟨w3, hw3⟩ : ∃ x, w2.alloc (.cells #[.slice p1 newP.win.length q1, .slice p2 newP.main.length q2, .slice p3 newP.sk.rows.length q3, .int .i64 newP.sk.added] 29) = x := ⟨_, rfl⟩
  have hb3 : Below w.heap.size w w3 := by rw [← hw3]; exact hb2.alloc hb2.size _
  have HW3 : Hid (w2.alloc (.cells #[.slice p1 newP.win.length q1, .slice p2 newP.main.length q2, .slice p3 newP.sk.rows.length q3, .int .i64 newP.sk.added] 29) = w3) := hw3
  rw [hw3, hT] at S3
  have hS0 : PolV w3 w.heap.size T p1 p2 p3 q1 q2 q3 (ofR 0) := S3
  clear cN hO2 hw3 hb2 S3
  go_wp2_with fail
  rw [HW3.out]
  clear HW3 hT
  go_loopw [4] (fun i wr => Box (∃ (k : Nat) (a1 a2 a3 : Option Addr) (c1 c2 c3 : Nat), k ≤ 5 ∧ i = .int .i64 k ∧ Hid (PolV wr w.heap.size T a1 a2 a3 c1 c2 c3 (ofR k)) ∧ Hid (Below w.heap.size w wr)))
    (fun i _ => 5 - (intOf i).toNat)
  case atStart => exact ⟨⟨0, _, _, _, _, _, _, by omega, rfl, hS0, hb3⟩⟩
  case round =>
    obtain ⟨k, a1, a2, a3, c1, c2, c3, hk, rfl, HV, HB⟩ := hrel.out
    clear hrel hS0 hb3
    by_cases hlt : k < 5
    · have hV : PolV wr w.heap.size T a1 a2 a3 c1 c2 c3 (ofR k) := HV.out
      have hok := (ofR_is k).1
      have cT := implPolicyTouch_any wr a1 a2 a3 c1 c2 c3 (ofR k) ofK hV.at (okP_sz hok) (by decide) (HTB.out wr HB.out)
      obtain ⟨QQ, hQQ⟩ : ∃ Q, touchP (ofR k) ofK = Q := ⟨_, rfl⟩
      obtain ⟨Q, o⟩ := QQ
      rw [hQQ] at cT
      have HQ : Hid (ofR (k + 1) = Q) := by show (touchP (ofR k) ofK).1 = Q; rw [hQQ]
      obtain ⟨x0, x1, x2, x3⟩ := hV.cells
      obtain ⟨R, hR⟩ : ∃ R, ofR k = R := ⟨_, rfl⟩
      rw [hR] at cT x0 x1 x2 x3 hV
      have HPUT : Hid (∀ w2 b1 b2 b3 d1 d2 d3, Below wr.heap.size wr w2 → POwn w2 wr.heap.size w2.heap.size (.agg #[.slice b1 Q.win.length d1, .slice b2 Q.main.length d2, .slice b3 Q.sk.rows.length d3, .int .i64 Q.sk.added]) Q → PBox w2 T (.slice a1 R.win.length c1) (.slice a2 R.main.length c2) (.slice a3 R.sk.rows.length c3) (.int .i64 R.sk.added) ∧ PolV ((((w2.setCell ⟨T, 0, none⟩ (.slice b1 Q.win.length d1)).setCell ⟨T, 1, none⟩ (.slice b2 Q.main.length d2)).setCell ⟨T, 2, none⟩ (.slice b3 Q.sk.rows.length d3)).setCell ⟨T, 3, none⟩ (.int .i64 Q.sk.added)) w.heap.size T b1 b2 b3 d1 d2 d3 Q ∧ Below w.heap.size w ((((w2.setCell ⟨T, 0, none⟩ (.slice b1 Q.win.length d1)).setCell ⟨T, 1, none⟩ (.slice b2 Q.main.length d2)).setCell ⟨T, 2, none⟩ (.slice b3 Q.sk.rows.length d3)).setCell ⟨T, 3, none⟩ (.int .i64 Q.sk.added))) := fun w2 b1 b2 b3 d1 d2 d3 hb ho => ⟨(hV.put hb ho).1, (hV.put hb ho).2, Below.put4 (HB.out.trans (hb.mono HB.out.size)) hV.lo _ _ _ _⟩
      have hi2 : (k : Int) < 5 := by omega
      clear hV HV hok hR hQQ hlt
      unfold ofK at cT
      go_wp2_with fail
      refine cT.mono ?_
      rintro e w4 ⟨v4, rfl, ho4, hb4⟩
      obtain ⟨b1, d1, b2, d2, b3, d3, rfl, _⟩ := ho4.at
      obtain ⟨hBX, hVN, hBN⟩ := HPUT.out w4 b1 b2 b3 d1 d2 d3 hb4 ho4
      obtain ⟨y0, y1, y2, y3⟩ := hBX.cells
      have f0 := hBX.thaw 0
      have f1 := hBX.thaw 1
      have f2 := hBX.thaw 2
      have f3 := hBX.thaw 3
      have HF : Hid _ := hVN
      have HG : Hid _ := hBN
      clear cT ho4 hb4 hBX hVN hBN HPUT x0 x1 x2 x3 HB
      go_wp2_with fail
      go_roundw
      case rel =>
        try ((repeat apply Exists.intro); refine ⟨?_, rfl⟩)
        exact ⟨⟨k + 1, b1, b2, b3, d1, d2, d3, by omega, by go_num, by rw [HQ.out]; exact HF, HG⟩⟩
      case measure => simp [intOf]; omega
    · have hk5 : k = 5 := by omega
      subst hk5
      have cP := drawPlaces_any wr ca n cap (CodeAt.onP HCD.out HB.out) hn
      clear hlt hk
      go_wp2_with fail
      refine cP.mono ?_
      rintro e w4 ⟨v4, l, rfl, hl12, hlz, ho4, hb4⟩
      obtain ⟨aP, kP, rfl, hIP⟩ := ho4.ints
      rw [hl12]
      obtain ⟨g4, off4, rfl, _, hc4⟩ := hIP 0 (by omega)
      obtain ⟨t, hte, ht1⟩ : ∃ t : Nat, l[0] = (t : Int) ∧ t ≤ 10000 := ⟨(l[0]).toNat, by have := hlz l[0] (List.getElem_mem (by omega)); omega, by have := hlz l[0] (List.getElem_mem (by omega)); omega⟩
      rw [hte, Nat.add_zero] at hc4
      have hV5 : PolV w4 w.heap.size T a1 a2 a3 c1 c2 c3 (onR t 0) := PolV.on HV.out hb4
      have hB5 : Below w.heap.size w w4 := HB.out.trans (hb4.mono HB.out.size)
      have HALL : Hid (∀ i, i ≤ 12 → OnI t i (onR t i)) := onI_all ht1
      have HT1 : Hid (t ≤ 10000) := ht1
      clear cP hl12 hlz ho4 hb4 hIP hte HV HB HCD
      go_wp2_with fail
      go_loopw [6] (fun i wr => Box (∃ (k : Nat) (a1 a2 a3 : Option Addr) (c1 c2 c3 : Nat), k ≤ 12 ∧ i = .int .i64 k ∧ Hid (PolV wr w.heap.size T a1 a2 a3 c1 c2 c3 (onR t k)) ∧ Hid (Below w.heap.size w wr)))
        (fun i _ => 12 - (intOf i).toNat)
      case atStart => exact ⟨⟨0, _, _, _, _, _, _, by omega, rfl, hV5, hB5⟩⟩
      case round =>
        obtain ⟨k, a1, a2, a3, c1, c2, c3, hk, rfl, HV, HB⟩ := hrel.out
        clear hrel hV5 hB5 hc4
        obtain ⟨wo, hwo⟩ : ∃ wo, wo = wr := ⟨_, rfl⟩
        subst hwo
        by_cases hlt : k < 12
        · have hV : PolV wo w.heap.size T a1 a2 a3 c1 c2 c3 (onR t k) := HV.out
          have hI := HALL.out k hk
          obtain ⟨hI2, hok1⟩ := onI_step hI hlt HT1.out
          have hok := hI.ok
          have hkey : (⟨#[47, 111, 110, 99, 101]⟩ : ByteArray) ++ (⟨(decOf ((t : Int) + (k : Int))).toArray⟩ : ByteArray) = onK (t + k) := by unfold onK; rw [show ((t + k : Nat) : Int) = (t : Int) + (k : Int) by omega]
          have hks : (onK (t + k)).size ≤ 1048576 := by
            have := onK_ok (m := t + k) (by have := HT1.out; omega)
            simp only [keyOk, decide_eq_true_eq] at this
            omega
          have hds : (⟨(decOf ((t : Int) + (k : Int))).toArray⟩ : ByteArray).size ≤ 100 := by
            have h1 := onK_size (t + k)
            have h2 := onK_ok (m := t + k) (by have := HT1.out; omega)
            simp only [keyOk, decide_eq_true_eq] at h2
            rw [show ((t + k : Nat) : Int) = (t : Int) + (k : Int) by omega] at h1
            have h3 : (⟨(decOf ((t : Int) + (k : Int))).toArray⟩ : ByteArray).size = (decOf ((t : Int) + (k : Int))).length := by show (decOf ((t : Int) + (k : Int))).toArray.size = _; simp
            omega
          obtain ⟨Q1, o1, hQ1⟩ : ∃ Q o, touchP (onR t k) (onK (t + k)) = (Q, o) := ⟨_, _, rfl⟩
          obtain ⟨Q2, o2, hQ2⟩ : ∃ Q o, touchP Q1 ofK = (Q, o) := ⟨_, _, rfl⟩
          rw [hQ1] at hok1
          have HQ2 : Hid (onR t (k + 1) = Q2) := by show stepO (onR t k) (t + k) = Q2; unfold stepO; rw [hQ1, hQ2]
          have CD : Hid (∀ W, Calls Tryd.prog 22 #[.int .i64 ((t : Int) + (k : Int))] W fun e w' => e = .returned (.string ⟨(decOf ((t : Int) + (k : Int))).toArray⟩) ∧ Below W.heap.size W w') := fun W => specDecimal_any _ W (by have := HT1.out; omega) (by have := HT1.out; omega)
          have CT : Hid (∀ W, Below wo.heap.size wo W → Calls Tryd.prog 9 #[.agg #[.slice a1 (onR t k).win.length c1, .slice a2 (onR t k).main.length c2, .slice a3 (onR t k).sk.rows.length c3, .int .i64 (onR t k).sk.added], .string ((⟨#[47, 111, 110, 99, 101]⟩ : ByteArray) ++ (⟨(decOf ((t : Int) + (k : Int))).toArray⟩ : ByteArray))] W fun e w' => ∃ v, e = .returned (.tuple #[v, .string o1]) ∧ POwn w' W.heap.size w'.heap.size v Q1 ∧ Below W.heap.size W w') := fun W hW => by
            have h0 := implPolicyTouch_any W a1 a2 a3 c1 c2 c3 (onR t k) (onK (t + k)) (hV.on hW).at (okP_sz hok) hks (HTB.out W (HB.out.trans (hW.mono HB.out.size)))
            rw [hQ1] at h0
            rw [hkey]
            exact h0
          obtain ⟨R, hR⟩ : ∃ R, onR t k = R := ⟨_, rfl⟩
          obtain ⟨DD, hDD⟩ : ∃ D : ByteArray, ⟨(decOf ((t : Int) + (k : Int))).toArray⟩ = D := ⟨_, rfl⟩
          rw [hR] at CT hV
          rw [hDD] at CT CD hds
          have HVO : Hid (∀ W, Below wo.heap.size wo W → PolV W w.heap.size T a1 a2 a3 c1 c2 c3 R ∧ Below w.heap.size w W) := fun W h => ⟨hV.on h, HB.out.trans (h.mono HB.out.size)⟩
          have hdr : Below wo.heap.size wo wo.drew := ⟨rfl, rfl, rfl, Nat.le_refl _, fun _ _ => rfl⟩
          obtain ⟨x0, x1, x2, x3⟩ := hV.cells
          have hi2 : (k : Int) < 12 := by omega
          have hwr : IntKind.i64.wrap ((t : Int) + (k : Int)) = (t : Int) + (k : Int) := by rw [IntKind.wrap_i64]; have := HT1.out; omega
          have hsa : ¬ 9223372036854775807 < (⟨#[47, 111, 110, 99, 101]⟩ : ByteArray).size + DD.size := by have h5 : (⟨#[47, 111, 110, 99, 101]⟩ : ByteArray).size = 5 := rfl; omega
          have hsb : ¬ 9223372036854775807 < 5 + DD.size := by omega
          have HOK1 : Hid (okP Q1 = true ∧ touchP Q1 ofK = (Q2, o2)) := ⟨hok1, hQ2⟩
          clear hV HV hI hI2 hok1 hok hkey hks hds hQ1 hQ2 hR hDD hlt HB
          go_wp2_with fail
          go_region_law (first
            | (go_simp; go_at_call 22; refine (CD.out _).mono ?_; rintro e w5 ⟨rfl, hb5⟩; have hC5 : Below wo.heap.size wo w5 := hdr.trans (hb5.mono hdr.size); obtain ⟨z0, z1, z2, z3⟩ := (HVO.out w5 hC5).1.cells)
            | (go_simp; go_at_call 9; refine (CT.out _ hC5).mono ?_; rintro e w6 ⟨v6, rfl, ho6, hb6⟩; obtain ⟨b1, d1, b2, d2, b3, d3, hv6, _⟩ := ho6.at; subst hv6; obtain ⟨hBX, hVN⟩ := (HVO.out w5 hC5).1.put hb6 ho6; have hBN := Below.put4 ((HVO.out w5 hC5).2.trans (hb6.mono (HVO.out w5 hC5).2.size)) (HVO.out w5 hC5).1.lo (.slice b1 Q1.win.length d1) (.slice b2 Q1.main.length d2) (.slice b3 Q1.sk.rows.length d3) (.int .i64 Q1.sk.added); obtain ⟨y0, y1, y2, y3⟩ := hBX.cells; have f0 := hBX.thaw 0; have f1 := hBX.thaw 1; have f2 := hBX.thaw 2; have f3 := hBX.thaw 3))
          all_goals (
            obtain ⟨w7, hw7⟩ : ∃ x, ((((w6.setCell ⟨T, 0, none⟩ (.slice b1 Q1.win.length d1)).setCell ⟨T, 1, none⟩ (.slice b2 Q1.main.length d2)).setCell ⟨T, 2, none⟩ (.slice b3 Q1.sk.rows.length d3)).setCell ⟨T, 3, none⟩ (.int .i64 Q1.sk.added)) = x := ⟨_, rfl⟩
            rw [hw7] at hVN hBN ⊢
            clear hw7 hBX y0 y1 y2 y3 f0 f1 f2 f3 ho6 hb6 z0 z1 z2 z3 x0 x1 x2 x3 hC5 hb5 CD CT HVO hdr hwr hsa hsb
            have cT := implPolicyTouch_any w7 b1 b2 b3 d1 d2 d3 Q1 ofK hVN.at (okP_sz HOK1.out.1) (by decide) (HTB.out w7 hBN)
            rw [HOK1.out.2] at cT
            obtain ⟨x0, x1, x2, x3⟩ := hVN.cells
            have HVN : Hid (PolV w7 w.heap.size T b1 b2 b3 d1 d2 d3 Q1 ∧ Below w.heap.size w w7) := ⟨hVN, hBN⟩
            clear hVN hBN
            unfold ofK at cT
            go_wp2_with fail
            refine cT.mono ?_
            rintro e w8 ⟨v8, rfl, ho8, hb8⟩
            obtain ⟨s1, t1, s2, t2, s3, t3, hv8, _⟩ := ho8.at
            subst hv8
            have hVN : PolV w7 w.heap.size T b1 b2 b3 d1 d2 d3 Q1 := HVN.out.1
            obtain ⟨hBX, hV9⟩ := hVN.put hb8 ho8
            have hB9 := Below.put4 (HVN.out.2.trans (hb8.mono HVN.out.2.size)) hVN.lo (.slice s1 Q2.win.length t1) (.slice s2 Q2.main.length t2) (.slice s3 Q2.sk.rows.length t3) (.int .i64 Q2.sk.added)
            obtain ⟨y0, y1, y2, y3⟩ := hBX.cells
            have f0 := hBX.thaw 0
            have f1 := hBX.thaw 1
            have f2 := hBX.thaw 2
            have f3 := hBX.thaw 3
            have HF : Hid _ := hV9
            have HG : Hid _ := hB9
            clear cT ho8 hb8 hBX hV9 hB9 hVN HVN x0 x1 x2 x3
            go_wp2_with fail
            go_roundw
            case rel =>
              try ((repeat apply Exists.intro); refine ⟨?_, rfl⟩)
              exact ⟨⟨k + 1, s1, s2, s3, t1, t2, t3, by omega, by go_num, by rw [HQ2.out]; exact HF, HG⟩⟩
            case measure => simp [intOf]; omega)
        · have hk12 : k = 12 := by omega
          subst hk12
          have hV : PolV wo w.heap.size T a1 a2 a3 c1 c2 c3 (onR t 12) := HV.out
          obtain ⟨e1, e2, e3, e4⟩ := onI_end (HALL.out 12 (by omega))
          obtain ⟨R, hR⟩ : ∃ R, onR t 12 = R := ⟨_, rfl⟩
          rw [hR] at hV e1 e2 e3 e4
          have cH := implPolicyHas_sz wo a1 a2 a3 c1 c2 c3 R ofK hV.at (okP_sz e2) (by decide)
          rw [e1] at cH
          have HON : Hid (∀ W, Below wo.heap.size wo W → PolV W w.heap.size T a1 a2 a3 c1 c2 c3 R ∧ Below w.heap.size w W) := fun W h => ⟨hV.on h, HB.out.trans (h.mono HB.out.size)⟩
          obtain ⟨x0, x1, x2, x3⟩ := hV.cells
          have HE : Hid (okP R = true ∧ guessS R.sk ofK = 15 ∧ R.main.length = 4) := ⟨e2, e3, e4⟩
          clear hV HV e1 e2 e3 e4 hR HALL hlt hk HB
          unfold ofK at cH
          go_wp2_with fail
          refine cH.mono ?_
          rintro e w5 ⟨rfl, hb5⟩
          obtain ⟨hV5, hB5⟩ := HON.out w5 hb5
          have cO := implPolicyOk_sz w5 a1 a2 a3 c1 c2 c3 R hV5.at (okP_sz HE.out.1)
          rw [HE.out.1] at cO
          obtain ⟨y0, y1, y2, y3⟩ := hV5.cells
          clear cH hV5 hB5 x0 x1 x2 x3
          go_wp2_with fail
          refine cO.mono ?_
          rintro e w6 ⟨rfl, hb6⟩
          have hb6' : Below wo.heap.size wo w6 := hb5.trans (hb6.mono hb5.size)
          obtain ⟨hV6, hB6⟩ := HON.out w6 hb6'
          have cG := implSketchGuess_any w6 a3 c3 R.sk ofK hV6.at.2.2 (okP_rows HE.out.1) (by decide) (HTB.out w6 hB6)
          rw [HE.out.2.1] at cG
          obtain ⟨z0, z1, z2, z3⟩ := hV6.cells
          clear cO hV6 hB6 y0 y1 y2 y3 hb5 hb6
          unfold ofK at cG
          go_wp2_with fail
          refine cG.mono ?_
          rintro e w7 ⟨rfl, hb7⟩
          obtain ⟨hV7, hB7⟩ := HON.out w7 (hb6'.trans (hb7.mono hb6'.size))
          obtain ⟨u0, u1, u2, u3⟩ := hV7.cells
          rw [HE.out.2.2] at u1
          clear cG hV7 z0 z1 z2 z3 hb6' hb7 HON
          go_wp2_with fail
          go_ret
          exact ⟨rfl, hB7⟩
end Go.Proofs.YtbcjkinalghokafDoor

namespace Go.Proofs.YtbcjkinalghokafDoor
open Go.ChangeShapes Go.WideShapes Go.ChangeAt Go.RowKit

/-- A slice of bytes that came in: its bytes lie where it says. -/
theorem code_of {H : Type} {enc : TypeId × Value → H} {W : World} {a : Option Addr} {len cap fuel : Nat} {x : DataW H × List MemPlace} (hf : DataW.trod enc Tryd.prog W 0 (fun _ => true) true fuel 22 [.slice a len cap] = some x) : CodeAt W a len W.heap.size ∧ len ≤ maxLen := by
  rcases open_ints Tryd.underlying22 Tryd.underlying5 (by kernel_rfl) hf with ⟨hcs, _⟩ | ⟨y, l, c, zs, hcs, _, hl, hm, hz, _, hcell, hwz⟩
  · simp at hcs
    obtain ⟨rfl, rfl, rfl⟩ := hcs
    exact ⟨fun j hj => by omega, by simp [maxLen]⟩
  · simp at hcs
    obtain ⟨rfl, rfl, rfl⟩ := hcs
    have hz' : zs.length = cap := by simpa using hz
    refine ⟨fun j hj => ?_, by omega⟩
    have h1 := hcell j (by omega)
    have h00 := hcell 0 (by omega)
    obtain ⟨b, off, spot⟩ := y
    have hspot : spot = none := by simpa [Addr.add] using World.cell?_spot h00
    subst hspot
    have h2 : W.cell? ⟨b, off + j, none⟩ = some (.int .u8 (zs.getD j 0)) := by
      by_cases hj0 : j = 0
      · subst hj0; simpa [Addr.add] using h1
      · simpa [Addr.add, hj0] using h1
    have hmem : zs.getD j 0 ∈ zs := by
      have e : zs.getD j 0 = zs[j]'(by omega) := by simp [List.getD, List.getElem?_eq_getElem (show j < zs.length by omega)]
      rw [e]
      exact List.getElem_mem _
    have h3 := bounds_u8 (hwz (zs.getD j 0) hmem)
    exact ⟨b, off, _, rfl, World.block_lt_of_cell? W ⟨b, off + j, none⟩ h2, h2, h3.1, h3.2⟩

end Go.Proofs.YtbcjkinalghokafDoor
