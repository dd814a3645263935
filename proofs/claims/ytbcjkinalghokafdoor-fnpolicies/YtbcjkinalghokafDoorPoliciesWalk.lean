/- The law on policies, walked. Written by mkpols.py. -/
import Derived.Test.YtbcjkinalghokafDoorPolDraw
import Derived.Test.YtbcjkinalghokafDoorSamePolJ
import Derived.Test.YtbcjkinalghokafDoorPolTouchImpl
import Derived.Test.YtbcjkinalghokafDoorPolHasImplJ
import Derived.Deep.RegionLaw
import Derived.Deep.DeepCutAuto
import Derived.Lib.QuietBelow
import Derived.BigQuiet
namespace Go.Proofs.YtbcjkinalghokafDoor
open Go.RowKit Go.Sort

theorem CodeAt.onQ {w w' : World} {ca : Option Addr} {n : Nat} (h : CodeAt w ca n w.heap.size) (hb : Below w.heap.size w w') : CodeAt w' ca n w'.heap.size := by
  intro j hj
  obtain ⟨b, off, z, h1, h2, h3, h4⟩ := h j hj
  exact ⟨b, off, z, h1, Nat.lt_of_lt_of_le h2 hb.size, (hb.cell h2).trans h3, h4⟩
theorem bplusQ {a b : World} (h : Below a.heap.size a b) (o : Obj) : Below a.heap.size a (b.alloc o) := h.alloc h.size o
theorem notEmpty {o : ByteArray} (h : o ≠ noKey) : o.toList.isEmpty = false := by
  rw [ByteArray.toList_eq, List.isEmpty_eq_false_iff]
  intro e
  apply h
  unfold noKey
  exact ByteArray.ext (Array.toList_inj.1 e)
/-- A policy of one's own in a variable, from lo on. -/
structure PolN (w : World) (lo N : Nat) (b1 b2 b3 : Option Addr) (d1 d2 d3 : Nat) (Q : Pol) : Prop where
  box : PBox w N (.slice b1 Q.win.length d1) (.slice b2 Q.main.length d2) (.slice b3 Q.sk.rows.length d3) (.int .i64 Q.sk.added)
  own : POwn w lo w.heap.size (.agg #[.slice b1 Q.win.length d1, .slice b2 Q.main.length d2, .slice b3 Q.sk.rows.length d3, .int .i64 Q.sk.added]) Q
theorem PolN.on {w w' : World} {lo N : Nat} {b1 b2 b3 : Option Addr} {d1 d2 d3 : Nat} {Q : Pol} (h : PolN w lo N b1 b2 b3 d1 d2 d3 Q) (hb : Below w.heap.size w w') : PolN w' lo N b1 b2 b3 d1 d2 d3 Q := ⟨h.box.on hb, (h.own.below hb (Nat.le_refl _)).up⟩
theorem PolN.at {w : World} {lo N : Nat} {b1 b2 b3 : Option Addr} {d1 d2 d3 : Nat} {Q : Pol} (h : PolN w lo N b1 b2 b3 d1 d2 d3 Q) : PolAt w b1 b2 b3 Q w.heap.size := by
  obtain ⟨x1, y1, x2, y2, x3, y3, e, hA⟩ := h.own.at
  simp only [Value.agg.injEq, Array.mk.injEq, List.cons.injEq, and_true, Value.slice.injEq, true_and] at e
  obtain ⟨⟨rfl, rfl⟩, ⟨rfl, rfl⟩, rfl, rfl⟩ := e
  exact hA
theorem PolN.last {w : World} {lo : Nat} {b1 b2 b3 : Option Addr} {d1 d2 d3 : Nat} {Q : Pol} (h : POwn w lo w.heap.size (.agg #[.slice b1 Q.win.length d1, .slice b2 Q.main.length d2, .slice b3 Q.sk.rows.length d3, .int .i64 Q.sk.added]) Q) : PolN (w.alloc (.cells #[.slice b1 Q.win.length d1, .slice b2 Q.main.length d2, .slice b3 Q.sk.rows.length d3, .int .i64 Q.sk.added] 29)) lo w.heap.size b1 b2 b3 d1 d2 d3 Q := ⟨PBox.new _ _ _ _ _, (h.below ((Below.refl _ _).alloc (Nat.le_refl _) _) (Nat.le_refl _)).up⟩
theorem PolN.first {w : World} {lo N : Nat} {b1 b2 b3 : Option Addr} {d1 d2 d3 : Nat} {Q : Pol} {x y z u : Value} (h : POwn w lo w.heap.size (.agg #[.slice b1 Q.win.length d1, .slice b2 Q.main.length d2, .slice b3 Q.sk.rows.length d3, .int .i64 Q.sk.added]) Q) (hB : PBox w N x y z u) : PolN ((((w.setCell ⟨N, 0, none⟩ (.slice b1 Q.win.length d1)).setCell ⟨N, 1, none⟩ (.slice b2 Q.main.length d2)).setCell ⟨N, 2, none⟩ (.slice b3 Q.sk.rows.length d3)).setCell ⟨N, 3, none⟩ (.int .i64 Q.sk.added)) lo N b1 b2 b3 d1 d2 d3 Q := ⟨hB.put _ _ _ _, (h.put4 hB _ _ _ _).up⟩
set_option maxRecDepth 100000 in
set_option maxHeartbeats 16000000 in
theorem policies_walk (ca : Option Addr) (n cap : Nat) (w : World) (hcode : CodeAt w ca n w.heap.size) (hlen : n ≤ maxLen) (ht : Tab w) :
    Calls Tryd.prog 3 #[.slice ca n cap] w fun e w' => e = .returned (.bool true) ∧ Below w.heap.size w w' := by
  unfold maxLen at hlen
  have cb := big_any ca n cap w (by omega)
  by_cases hn : n ≤ 1048576
  case neg =>
    rw [show decide (1048576 < n) = true by simp; omega] at cb
    go_enter Tryd.func3, Tryd.ntmps3
    go_wp2_with fail
    refine cb.mono ?_
    rintro e w' ⟨rfl, rfl⟩
    go_wp2_with fail
    go_ret
    exact ⟨rfl, Below.refl _ _⟩
  rw [show decide (1048576 < n) = false by simp; omega] at cb
  have HTB : Hid (∀ W, Below w.heap.size w W → Tab W) := fun W h => ht.below h (Nat.le_refl _)
  have HCD : Hid (CodeAt w ca n w.heap.size) := hcode
  have cN := drawPolicy_any w ca n cap hcode hn
  clear ht hcode
  go_enter Tryd.func3, Tryd.ntmps3
  go_wp2_with fail
  refine cb.mono ?_
  rintro e w' ⟨rfl, rfl⟩
  clear cb
  go_wp2_with fail
  refine cN.mono ?_
  rintro e w2 ⟨v, P0, rfl, hok0, hO2, hb2⟩
  obtain ⟨p1, q1, p2, q2, p3, q3, rfl, _⟩ := hO2.at
  have S3 := PolV.new hO2 hb2.size
  obtain ⟨w3, hw3⟩ : ∃ x, w2.alloc (.cells #[.slice p1 P0.win.length q1, .slice p2 P0.main.length q2, .slice p3 P0.sk.rows.length q3, .int .i64 P0.sk.added] 29) = x := ⟨_, rfl⟩
  have hb3 : Below w.heap.size w w3 := by rw [← hw3]; exact hb2.alloc hb2.size _
  have HW3 : Hid (w2.alloc (.cells #[.slice p1 P0.win.length q1, .slice p2 P0.main.length q2, .slice p3 P0.sk.rows.length q3, .int .i64 P0.sk.added] 29) = w3) := hw3
  obtain ⟨T, hT⟩ : ∃ T, w2.heap.size = T := ⟨_, rfl⟩
  have HTT : Hid (w2.heap.size = T) := hT
  have HTS : w.heap.size ≤ T ∧ w3.heap.size = T + 1 := ⟨by rw [← hT]; exact hb2.size, by rw [← hw3, ← hT]; simp⟩
  rw [hw3, hT] at S3
  have cL := drawKeys2_any w3 ca n cap (CodeAt.onQ HCD.out hb3) hn
  clear cN hO2 hw3 hb2 hT
  go_wp2_with fail
  rw [HW3.out]
  refine cL.mono ?_
  rintro e w4 ⟨al, cl, L, rfl, hL42, hLK, hLA, hb4, HOW⟩
  rw [HTT.out]
  clear HW3 cL HTT
  have S4 := S3.on hb4
  have hB4 : Below w.heap.size w w4 := hb3.trans (hb4.mono hb3.size)
  have HBT : Hid (w.heap.size ≤ T ∧ w3.heap.size = T + 1) := HTS
  have hOL : OwnV w4 (T + 1) 9 (.slice al L.length cl) (strs L) := by have h := HOW.out; rw [HTS.2] at h; exact h
  have HLK : Hid (keysT L) := hLK
  clear S3 hb3 hb4 hLA hLK HOW HTS
  go_wp2_with fail
  go_loopw [5] (fun i wr => Box (∃ (k : Nat) (a1 a2 a3 : Option Addr) (c1 c2 c3 : Nat) (P : Pol), k ≤ L.length ∧ i = .int .i64 k ∧ Hid (okP P = true) ∧ Hid (PolV wr w.heap.size T a1 a2 a3 c1 c2 c3 P) ∧ Hid (Below w.heap.size w wr) ∧ Hid (OwnV wr (T + 1) 9 (.slice al L.length cl) (strs L))))
    (fun i _ => L.length - (intOf i).toNat)
  case atStart => exact ⟨⟨0, _, _, _, _, _, _, P0, by omega, rfl, hok0, S4, hB4, hOL⟩⟩
  case round =>
    obtain ⟨k, a1, a2, a3, c1, c2, c3, P, hk, rfl, HOK, HV, HB, HOL⟩ := hrel.out
    clear hrel S4 hok0 hOL hB4
    obtain ⟨wo, hwo⟩ : ∃ wo, wo = wr := ⟨_, rfl⟩
    subst hwo
    have hV : PolV wo w.heap.size T a1 a2 a3 c1 c2 c3 P := HV.out
    have hBw : Below w.heap.size w wo := HB.out
    have hOLo : OwnV wo (T + 1) 9 (.slice al L.length cl) (strs L) := HOL.out
    by_cases hlt : k < L.length
    case neg =>
      obtain ⟨x0, x1, x2, x3⟩ := hV.cells
      have cO := implPolicyOk_sz wo a1 a2 a3 c1 c2 c3 P hV.at (okP_sz HOK.out)
      rw [HOK.out] at cO
      have HBW : Hid (Below w.heap.size w wo) := hBw
      clear hV hBw HV HB HOL hOLo
      go_wp2_with fail
      refine cO.mono ?_
      rintro e w5 ⟨rfl, hb5⟩
      go_wp2_with fail
      go_ret
      exact ⟨rfl, HBW.out.trans (hb5.mono HBW.out.size)⟩
    have hkey := HLK.out _ (List.getElem_mem hlt)
    obtain ⟨key, hke⟩ : ∃ z, L[k] = z := ⟨_, rfl⟩
    rw [hke] at hkey
    have HKEY : Hid (key2 key ∧ ∀ W, Below wo.heap.size wo W → ∃ g off, al = some ⟨g, off, none⟩ ∧ W.cell? ⟨g, off + k, none⟩ = some (.string key)) := ⟨hkey, fun W h => by
      obtain ⟨x, y, ex, hA⟩ := (hOLo.below h (Nat.le_refl _)).strsAt
      simp only [Value.slice.injEq, true_and] at ex
      obtain ⟨rfl, rfl⟩ := ex
      obtain ⟨g, off, e1, _, e2⟩ := hA k hlt
      exact ⟨g, off, e1, by rw [e2, hke]⟩⟩
    obtain ⟨g, off, rfl, _⟩ := HKEY.out.2 wo (Below.refl _ _)
    have HVO : Hid (∀ W, Below wo.heap.size wo W → PolV W w.heap.size T a1 a2 a3 c1 c2 c3 P ∧ Below w.heap.size w W ∧ OwnV W (T + 1) 9 (.slice (some ⟨g, off, none⟩) L.length cl) (strs L)) := fun W h => ⟨hV.on h, hBw.trans (h.mono hBw.size), hOLo.below h (Nat.le_refl _)⟩
    have HLC : Hid (∀ W, Below wo.heap.size wo W → W.cell? ⟨g, off + k, none⟩ = some (.string key)) := fun W h => by
      obtain ⟨g', off', e1, e2⟩ := HKEY.out.2 W h
      simp only [Option.some.injEq, Addr.mk.injEq, and_true] at e1
      obtain ⟨rfl, rfl⟩ := e1
      exact e2
    have hk2 := key2_ok hkey
    have hks : key.size ≤ 1048576 := by unfold key2 at hkey; omega
    obtain ⟨Q, o, hQ⟩ : ∃ Q o, touchP P key = (Q, o) := ⟨_, _, rfl⟩
    obtain ⟨t1, t2, t3, t4⟩ := touchP_right HOK.out hk2
    rw [hQ] at t1 t2 t3 t4
    dsimp only at t1 t2 t3 t4
    have HT : Hid (okP Q = true ∧ hasP Q key = true ∧ (o ≠ noKey → hasP Q o = false ∧ hasP P o = true) ∧ Q.win.length + Q.main.length + (if o = noKey then 0 else 1) = P.win.length + P.main.length + (if hasP P key = true then 0 else 1)) := ⟨t1, t2, t3, t4⟩
    have HSZ : Hid (PolSz P ∧ PolSz Q ∧ o.size ≤ 1048576) := ⟨okP_sz HOK.out, okP_sz t1, by
      by_cases ho : o = noKey
      · rw [ho]; decide
      · have h1 := (t3 ho).2
        unfold hasP at h1
        obtain ⟨r1, r2, _, _, _, _, _, _⟩ := okP_iff.1 HOK.out
        rcases (by simpa using h1 : inL P.win o = true ∨ inL P.main o = true) with h1 | h1
        · have := r1 o (inL_iff.1 h1); simp only [keyOk, decide_eq_true_eq] at this; omega
        · have := r2 o (inL_iff.1 h1); simp only [keyOk, decide_eq_true_eq] at this; omega⟩
    have CI : Hid (∀ W, Below wo.heap.size wo W → Calls Tryd.prog 9 #[.agg #[.slice a1 P.win.length c1, .slice a2 P.main.length c2, .slice a3 P.sk.rows.length c3, .int .i64 P.sk.added], .string key] W fun e w' => ∃ b1 d1 b2 d2 b3 d3, e = .returned (.tuple #[.agg #[.slice b1 Q.win.length d1, .slice b2 Q.main.length d2, .slice b3 Q.sk.rows.length d3, .int .i64 Q.sk.added], .string o]) ∧ POwn w' wo.heap.size w'.heap.size (.agg #[.slice b1 Q.win.length d1, .slice b2 Q.main.length d2, .slice b3 Q.sk.rows.length d3, .int .i64 Q.sk.added]) Q ∧ Below W.heap.size W w') := fun W h => by
      obtain ⟨q1, q2, q3⟩ := HVO.out W h
      have h0 := implPolicyTouch_any W a1 a2 a3 c1 c2 c3 P key q1.at (okP_sz HOK.out) hks (HTB.out W q2)
      rw [hQ] at h0
      refine h0.mono ?_
      rintro e w' ⟨v, rfl, ho, hb⟩
      obtain ⟨b1, d1, b2, d2, b3, d3, rfl, _⟩ := ho.at
      exact ⟨b1, d1, b2, d2, b3, d3, rfl, ho.mono h.size (Nat.le_refl _), hb⟩
    have CS : Hid (∀ W, Below wo.heap.size wo W → Calls Tryd.prog 10 #[.agg #[.slice a1 P.win.length c1, .slice a2 P.main.length c2, .slice a3 P.sk.rows.length c3, .int .i64 P.sk.added], .string key] W fun e w' => ∃ b1 d1 b2 d2 b3 d3, e = .returned (.tuple #[.agg #[.slice b1 Q.win.length d1, .slice b2 Q.main.length d2, .slice b3 Q.sk.rows.length d3, .int .i64 Q.sk.added], .string o]) ∧ POwn w' wo.heap.size w'.heap.size (.agg #[.slice b1 Q.win.length d1, .slice b2 Q.main.length d2, .slice b3 Q.sk.rows.length d3, .int .i64 Q.sk.added]) Q ∧ Below W.heap.size W w') := fun W h => by
      obtain ⟨q1, q2, q3⟩ := HVO.out W h
      have h0 := specPolicyTouch_any W a1 a2 a3 c1 c2 c3 P key q1.at (okP_sz HOK.out) hks
      rw [hQ] at h0
      refine h0.mono ?_
      rintro e w' ⟨v, rfl, ho, hb⟩
      obtain ⟨b1, d1, b2, d2, b3, d3, rfl, _⟩ := ho.at
      exact ⟨b1, d1, b2, d2, b3, d3, rfl, ho.mono h.size (Nat.le_refl _), hb⟩
    have HKS : Hid (key.size ≤ 1048576) := hks
    have hi1 : (0 : Int) ≤ (k : Int) := by omega
    have hi2 : (k : Int) < (L.length : Int) := by omega
    clear hV hBw HV HB HOL hOLo hlt hkey hke hk2 hks hQ t1 t2 t3 t4 HKEY
    have hbo : Below wo.heap.size wo wo := Below.refl _ _
    obtain ⟨x0, x1, x2, x3⟩ := (HVO.out wo hbo).1.cells
    have xl := HLC.out wo hbo
    obtain ⟨z0, z1, z2, z3⟩ := (HVO.out (wo.alloc (.cells #[.slice none 0 0, .slice none 0 0, .slice none 0 0, .int .i64 0] 29)) (bplusQ hbo _)).1.cells
    have zl := HLC.out (wo.alloc (.cells #[.slice none 0 0, .slice none 0 0, .slice none 0 0, .int .i64 0] 29)) (bplusQ hbo _)
    have hdr : Below wo.heap.size wo wo.drew := hbo.trans ⟨rfl, rfl, rfl, Nat.le_refl _, fun _ _ => rfl⟩
    go_wp2_with fail
    go_cut [6, 7] from 17 to 108 (fun pn gn wc => ∃ (N : Nat) (b1 b2 b3 : Option Addr) (d1 d2 d3 : Nat), pn = .pointer (some ⟨N, 0, none⟩) ∧ gn = .string o ∧ PolN wc wo.heap.size N b1 b2 b3 d1 d2 d3 Q ∧ Below wo.heap.size wo wc)
    case first =>
      go_region_law (go_simp; go_at_call 9; first
        | (refine (CI.out wo.drew hdr).mono ?_; rintro e wC ⟨b1, d1, b2, d2, b3, d3, rfl, hoC, hbC⟩; have hC1 : Below wo.heap.size wo wC := (show Below wo.heap.size wo wo.drew from ⟨rfl, rfl, rfl, Nat.le_refl _, fun _ _ => rfl⟩).trans hbC)
        | (refine (CI.out (wo.drew.alloc (.cells #[.slice none 0 0, .slice none 0 0, .slice none 0 0, .int .i64 0] 29)) (bplusQ hdr _)).mono ?_; rintro e wC ⟨b1, d1, b2, d2, b3, d3, rfl, hoC, hbC⟩; have hz : PBox wC wo.heap.size (.slice none 0 0) (.slice none 0 0) (.slice none 0 0) (.int .i64 0) := (PBox.new wo.drew _ _ _ _).on hbC; have hC1 : Below wo.heap.size wo wC := (show Below wo.heap.size wo (wo.drew.alloc (.cells #[.slice none 0 0, .slice none 0 0, .slice none 0 0, .int .i64 0] 29)) from (Below.alloc (show Below wo.heap.size wo wo.drew from ⟨rfl, rfl, rfl, Nat.le_refl _, fun _ _ => rfl⟩) (Nat.le_refl _) _)).trans (hbC.mono (by simp)); obtain ⟨y0, y1, y2, y3⟩ := hz.cells; have f0 := hz.thaw 0; have f1 := hz.thaw 1; have f2 := hz.thaw 2; have f3 := hz.thaw 3))
      all_goals go_wp2_with fail
      all_goals go_meet
      all_goals first
        | exact ⟨_, b1, b2, b3, d1, d2, d3, rfl, rfl, PolN.first hoC hz, Below.put4 (T := wo.heap.size) hC1 (Nat.le_refl _) _ _ _ _⟩
        | exact ⟨_, b1, b2, b3, d1, d2, d3, rfl, rfl, PolN.last hoC, bplusQ hC1 _⟩
    case rest =>
      obtain ⟨N, n1, n2, n3, m1, m2, m3, rfl, rfl, hN5, hb5⟩ := hcut
      obtain ⟨w5, hw5⟩ : ∃ x, wc = x := ⟨_, rfl⟩
      rw [hw5] at hN5 hb5 ⊢
      clear hw5 CI x0 x1 x2 x3 xl z0 z1 z2 z3 zl hdr hbo
      have HN5 : Hid (PolN w5 wo.heap.size N n1 n2 n3 m1 m2 m3 Q) := hN5
      clear hN5
      obtain ⟨x0, x1, x2, x3⟩ := (HVO.out w5 hb5).1.cells
      have xl := HLC.out w5 hb5
      obtain ⟨z0, z1, z2, z3⟩ := (HVO.out (w5.alloc (.cells #[.slice none 0 0, .slice none 0 0, .slice none 0 0, .int .i64 0] 29)) (bplusQ hb5 _)).1.cells
      have zl := HLC.out (w5.alloc (.cells #[.slice none 0 0, .slice none 0 0, .slice none 0 0, .int .i64 0] 29)) (bplusQ hb5 _)
      have hdr : Below wo.heap.size wo w5.drew := hb5.trans ⟨rfl, rfl, rfl, Nat.le_refl _, fun _ _ => rfl⟩
      go_wp2_with fail
      go_cut [8, 9] from 17 to 108 (fun pn gn wc => ∃ (N : Nat) (b1 b2 b3 : Option Addr) (d1 d2 d3 : Nat), pn = .pointer (some ⟨N, 0, none⟩) ∧ gn = .string o ∧ PolN wc wo.heap.size N b1 b2 b3 d1 d2 d3 Q ∧ Below w5.heap.size w5 wc)
      case first =>
        go_region_law (go_simp; go_at_call 10; first
          | (refine (CS.out w5.drew hdr).mono ?_; rintro e wC ⟨b1, d1, b2, d2, b3, d3, rfl, hoC, hbC⟩; have hC1 : Below w5.heap.size w5 wC := (show Below w5.heap.size w5 w5.drew from ⟨rfl, rfl, rfl, Nat.le_refl _, fun _ _ => rfl⟩).trans hbC)
          | (refine (CS.out (w5.drew.alloc (.cells #[.slice none 0 0, .slice none 0 0, .slice none 0 0, .int .i64 0] 29)) (bplusQ hdr _)).mono ?_; rintro e wC ⟨b1, d1, b2, d2, b3, d3, rfl, hoC, hbC⟩; have hz : PBox wC w5.heap.size (.slice none 0 0) (.slice none 0 0) (.slice none 0 0) (.int .i64 0) := (PBox.new w5.drew _ _ _ _).on hbC; have hC1 : Below w5.heap.size w5 wC := (show Below w5.heap.size w5 (w5.drew.alloc (.cells #[.slice none 0 0, .slice none 0 0, .slice none 0 0, .int .i64 0] 29)) from (Below.alloc (show Below w5.heap.size w5 w5.drew from ⟨rfl, rfl, rfl, Nat.le_refl _, fun _ _ => rfl⟩) (Nat.le_refl _) _)).trans (hbC.mono (by simp)); obtain ⟨y0, y1, y2, y3⟩ := hz.cells; have f0 := hz.thaw 0; have f1 := hz.thaw 1; have f2 := hz.thaw 2; have f3 := hz.thaw 3))
        all_goals go_wp2_with fail
        all_goals go_meet
        all_goals first
          | exact ⟨_, b1, b2, b3, d1, d2, d3, rfl, rfl, PolN.first hoC hz, Below.put4 (T := w5.heap.size) hC1 (Nat.le_refl _) _ _ _ _⟩
          | exact ⟨_, b1, b2, b3, d1, d2, d3, rfl, rfl, PolN.last hoC, bplusQ hC1 _⟩
      case rest =>
        obtain ⟨M, s1, s2, s3, r1, r2, r3, rfl, rfl, hM6, hb6⟩ := hcut
        obtain ⟨w6, hw6⟩ : ∃ x, wc = x := ⟨_, rfl⟩
        rw [hw6] at hM6 hb6 ⊢
        clear hw6 CS x0 x1 x2 x3 xl z0 z1 z2 z3 zl hdr
        have hN6 : PolN w6 wo.heap.size N n1 n2 n3 m1 m2 m3 Q := PolN.on HN5.out hb6
        have hb56 : Below wo.heap.size wo w6 := hb5.trans (hb6.mono hb5.size)
        have hV6 := (HVO.out w6 hb56).1
        have hB6 := (HVO.out w6 hb56).2.1
        obtain ⟨t1, t2, t3, t4⟩ := HT.out
        obtain ⟨z1, z2, z3⟩ := HSZ.out
        have R1 : ∀ {f : Nat} {args : Array Value} {v : Value}, (∀ wi, Below w6.heap.size w6 wi → Calls Tryd.prog f args wi fun e w' => e = .returned v ∧ Below wi.heap.size wi w') → ∀ d os, Calls Tryd.prog f args (grow (redrawn w6 d) os) fun e w'' => e = .returned v ∧ ∃ p : Regrown, w'' = grow (redrawn w6 p.d) p.os := fun h d os => Calls.regrown_of (by have := h _ (below_regrown w6 d os); simpa using this)
        have hks : key.size ≤ 1048576 := HKS.out
        have cSame := R1 (fun wi h => samePolicy_same wi n1 n2 n3 s1 s2 s3 m1 m2 m3 r1 r2 r3 Q (hN6.on h).at (hM6.on h).at z2)
        have cOk := R1 (fun wi h => implPolicyOk_sz wi n1 n2 n3 m1 m2 m3 Q (hN6.on h).at z2)
        have cHas := R1 (fun wi h => implPolicyHas_sz wi n1 n2 n3 m1 m2 m3 Q key (hN6.on h).at z2 hks)
        have cHo := R1 (fun wi h => implPolicyHas_sz wi n1 n2 n3 m1 m2 m3 Q o (hN6.on h).at z2 z3)
        have cPo := R1 (fun wi h => implPolicyHas_sz wi a1 a2 a3 c1 c2 c3 P o (hV6.on h).at z1 z3)
        rw [t1] at cOk
        rw [t2] at cHas
        obtain ⟨x0, x1, x2, x3⟩ := hV6.cells
        obtain ⟨y0, y1, y2, y3⟩ := hN6.box.cells
        obtain ⟨u0, u1, u2, u3⟩ := hM6.box.cells
        have xl := HLC.out w6 hb56
        have kx0 := cell_regrown x0
        have kx1 := cell_regrown x1
        have kx2 := cell_regrown x2
        have kx3 := cell_regrown x3
        have ky0 := cell_regrown y0
        have ky1 := cell_regrown y1
        have ky2 := cell_regrown y2
        have ky3 := cell_regrown y3
        have ku0 := cell_regrown u0
        have ku1 := cell_regrown u1
        have ku2 := cell_regrown u2
        have ku3 := cell_regrown u3
        have kxl := cell_regrown xl
        have HN6 : Hid (PolN w6 wo.heap.size N n1 n2 n3 m1 m2 m3 Q ∧ Below wo.heap.size wo w6) := ⟨hN6, hb56⟩
        obtain ⟨q6, q7⟩ : P.win.length ≤ 2 ∧ P.main.length ≤ 4 := by obtain ⟨_, _, _, _, _, h6, h7, _⟩ := okP_iff.1 HOK.out; exact ⟨h6, h7⟩
        obtain ⟨q8, q9⟩ : Q.win.length ≤ 2 ∧ Q.main.length ≤ 4 := by obtain ⟨_, _, _, _, _, h6, h7, _⟩ := okP_iff.1 t1; exact ⟨h6, h7⟩
        have hwa : IntKind.i64.wrap ((P.win.length : Int) + (P.main.length : Int)) = (P.win.length : Int) + (P.main.length : Int) := by rw [IntKind.wrap_i64]; omega
        have hwb : IntKind.i64.wrap ((Q.win.length : Int) + (Q.main.length : Int)) = (Q.win.length : Int) + (Q.main.length : Int) := by rw [IntKind.wrap_i64]; omega
        have hwc : IntKind.i64.wrap ((P.win.length : Int) + (P.main.length : Int) + 1) = (P.win.length : Int) + (P.main.length : Int) + 1 := by rw [IntKind.wrap_i64]; omega
        have hwd : IntKind.i64.wrap ((P.win.length : Int) + (P.main.length : Int) - 1) = (P.win.length : Int) + (P.main.length : Int) - 1 := by rw [IntKind.wrap_i64]; omega
        have hwe : IntKind.i64.wrap ((P.win.length : Int) + (P.main.length : Int) + 1 - 1) = (P.win.length : Int) + (P.main.length : Int) := by rw [IntKind.wrap_i64]; omega
        have HLEN : Hid (Q.win.length + Q.main.length + (if o = noKey then 0 else 1) = P.win.length + P.main.length + (if hasP P key = true then 0 else 1)) := t4
        have HOO : Hid (o ≠ noKey → hasP Q o = false ∧ hasP P o = true) := t3
        clear R1 hN6 hM6 hV6 hB6 t1 t2 t3 t4 z1 z2 z3 x0 x1 x2 x3 y0 y1 y2 y3 u0 u1 u2 u3 xl hb56 hb5 hb6 HN5 hks q6 q7 q8 q9
        by_cases ho : o = noKey
        · have ho' : o = ⟨#[]⟩ := ho
          rw [if_pos ho] at HLEN
          clear ho cHo cPo HOO
          subst ho'
          go_wp2_with fail
          refine wp_region_quiet_below (by kernel_rfl) (by kernel_rfl) ?_
          repeat (first | go_big_quiet_step (first | with_reducible exact cSame _ _ | with_reducible exact cOk _ _ | with_reducible exact cHas _ _) | quiet_step (first | with_reducible exact cSame _ _ | with_reducible exact cOk _ _ | with_reducible exact cHas _ _))
          refine wpQuiet_nil ?_
          intro _ hw'
          obtain ⟨⟨dq, osq⟩, hw''⟩ := hw'
          subst hw''
          have hN7 : PolN (grow (redrawn w6 dq) osq) wo.heap.size N n1 n2 n3 m1 m2 m3 Q := PolN.on HN6.out.1 (below_regrown w6 dq osq)
          have hb7 : Below wo.heap.size wo (grow (redrawn w6 dq) osq) := HN6.out.2.trans ((below_regrown w6 dq osq).mono HN6.out.2.size)
          obtain ⟨w7, hw7⟩ : ∃ x, grow (redrawn w6 dq) osq = x := ⟨_, rfl⟩
          show Exit.then _ _ Exit.normal _ (grow (redrawn w6 dq) osq)
          rw [hw7] at hN7 hb7 ⊢
          clear hw7 cSame cOk cHas kx0 kx1 kx2 kx3 ky0 ky1 ky2 ky3 ku0 ku1 ku2 ku3 kxl HN6
          have hV7 := (HVO.out w7 hb7).1
          obtain ⟨hp, hhp⟩ : ∃ hp, hasP P key = hp := ⟨_, rfl⟩
          have cP : ∀ d os, Calls Tryd.prog 13 #[.agg #[.slice a1 P.win.length c1, .slice a2 P.main.length c2, .slice a3 P.sk.rows.length c3, .int .i64 P.sk.added], .string key] (grow (redrawn w7 d) os) fun e w'' => e = .returned (.bool hp) ∧ ∃ p : Regrown, w'' = grow (redrawn w7 p.d) p.os := fun d os => Calls.regrown_of (by rw [← hhp]; exact implPolicyHas_sz (grow (redrawn w7 d) os) a1 a2 a3 c1 c2 c3 P key (hV7.on (below_regrown w7 d os)).at HSZ.out.1 HKS.out)
          rw [hhp] at HLEN
          obtain ⟨x0, x1, x2, x3⟩ := hV7.cells
          have xl := HLC.out w7 hb7
          have kx0 := cell_regrown x0
          have kx1 := cell_regrown x1
          have kx2 := cell_regrown x2
          have kx3 := cell_regrown x3
          have kxl := cell_regrown xl
          have HN7 : Hid (PolN w7 wo.heap.size N n1 n2 n3 m1 m2 m3 Q ∧ Below wo.heap.size wo w7) := ⟨hN7, hb7⟩
          clear hV7 hN7 hb7 hhp xl
          cases hp with
          | true =>
            have hcmp : (((Q.win.length : Int) + (Q.main.length : Int)) != ((P.win.length : Int) + (P.main.length : Int))) = false := by
              have := HLEN.out
              simp at this
              simp
              omega
            go_wp2_with fail
            refine wp_region_quiet_below (by kernel_rfl) (by kernel_rfl) ?_
            repeat (first | go_big_quiet_step (with_reducible exact cP _ _) | quiet_step (with_reducible exact cP _ _))
            refine wpQuiet_nil ?_
            intro _ hw'
            obtain ⟨⟨dr, osr⟩, hw''⟩ := hw'
            subst hw''
            have hN8 : PolN (grow (redrawn w7 dr) osr) wo.heap.size N n1 n2 n3 m1 m2 m3 Q := PolN.on HN7.out.1 (below_regrown w7 dr osr)
            have hb8 : Below wo.heap.size wo (grow (redrawn w7 dr) osr) := HN7.out.2.trans ((below_regrown w7 dr osr).mono HN7.out.2.size)
            obtain ⟨w8, hw8⟩ : ∃ x, grow (redrawn w7 dr) osr = x := ⟨_, rfl⟩
            show Exit.then _ _ Exit.normal _ (grow (redrawn w7 dr) osr)
            rw [hw8] at hN8 hb8 ⊢
            clear hw8 cP kx0 kx1 kx2 kx3 kxl x0 x1 x2 x3 HN7
            have hV0 := (HVO.out wo (Below.refl _ _)).1
            obtain ⟨hBX, hVN⟩ := hV0.put hb8 hN8.own
            have hBN := Below.put4 (T := T) (HVO.out w8 hb8).2.1 HBT.out.1 (.slice n1 Q.win.length m1) (.slice n2 Q.main.length m2) (.slice n3 Q.sk.rows.length m3) (.int .i64 Q.sk.added)
            obtain ⟨x0, x1, x2, x3⟩ := hBX.cells
            have f0 := hBX.thaw 0
            have f1 := hBX.thaw 1
            have f2 := hBX.thaw 2
            have f3 := hBX.thaw 3
            obtain ⟨y0, y1, y2, y3⟩ := hN8.box.cells
            have HF : Hid _ := hVN
            have HG : Hid _ := hBN
            have hO9 := (HVO.out w8 hb8).2.2
            have HO9 : Hid (OwnV ((((w8.setCell ⟨T, 0, none⟩ (.slice n1 Q.win.length m1)).setCell ⟨T, 1, none⟩ (.slice n2 Q.main.length m2)).setCell ⟨T, 2, none⟩ (.slice n3 Q.sk.rows.length m3)).setCell ⟨T, 3, none⟩ (.int .i64 Q.sk.added)) (T + 1) 9 (.slice (some ⟨g, off, none⟩) L.length cl) (strs L)) := hO9.kept fun q hq => put4_other w8 T _ _ _ _ q (by have := (hO9.lt q hq).1; omega)
            clear hO9 hV0 hBX hVN hBN hN8 hb8
            go_wp2_with fail
            go_roundw
            case rel =>
              try ((repeat apply Exists.intro); refine ⟨?_, rfl⟩)
              exact ⟨⟨k + 1, n1, n2, n3, m1, m2, m3, Q, by omega, by go_num, HT.out.1, HF, HG, HO9⟩⟩
            case measure => simp [intOf]; omega
          | false =>
            have hcmp : (((Q.win.length : Int) + (Q.main.length : Int)) != ((P.win.length : Int) + (P.main.length : Int) + 1)) = false := by
              have := HLEN.out
              simp at this
              simp
              omega
            go_wp2_with fail
            refine wp_region_quiet_below (by kernel_rfl) (by kernel_rfl) ?_
            repeat (first | go_big_quiet_step (with_reducible exact cP _ _) | quiet_step (with_reducible exact cP _ _))
            refine wpQuiet_nil ?_
            intro _ hw'
            obtain ⟨⟨dr, osr⟩, hw''⟩ := hw'
            subst hw''
            have hN8 : PolN (grow (redrawn w7 dr) osr) wo.heap.size N n1 n2 n3 m1 m2 m3 Q := PolN.on HN7.out.1 (below_regrown w7 dr osr)
            have hb8 : Below wo.heap.size wo (grow (redrawn w7 dr) osr) := HN7.out.2.trans ((below_regrown w7 dr osr).mono HN7.out.2.size)
            obtain ⟨w8, hw8⟩ : ∃ x, grow (redrawn w7 dr) osr = x := ⟨_, rfl⟩
            show Exit.then _ _ Exit.normal _ (grow (redrawn w7 dr) osr)
            rw [hw8] at hN8 hb8 ⊢
            clear hw8 cP kx0 kx1 kx2 kx3 kxl x0 x1 x2 x3 HN7
            have hV0 := (HVO.out wo (Below.refl _ _)).1
            obtain ⟨hBX, hVN⟩ := hV0.put hb8 hN8.own
            have hBN := Below.put4 (T := T) (HVO.out w8 hb8).2.1 HBT.out.1 (.slice n1 Q.win.length m1) (.slice n2 Q.main.length m2) (.slice n3 Q.sk.rows.length m3) (.int .i64 Q.sk.added)
            obtain ⟨x0, x1, x2, x3⟩ := hBX.cells
            have f0 := hBX.thaw 0
            have f1 := hBX.thaw 1
            have f2 := hBX.thaw 2
            have f3 := hBX.thaw 3
            obtain ⟨y0, y1, y2, y3⟩ := hN8.box.cells
            have HF : Hid _ := hVN
            have HG : Hid _ := hBN
            have hO9 := (HVO.out w8 hb8).2.2
            have HO9 : Hid (OwnV ((((w8.setCell ⟨T, 0, none⟩ (.slice n1 Q.win.length m1)).setCell ⟨T, 1, none⟩ (.slice n2 Q.main.length m2)).setCell ⟨T, 2, none⟩ (.slice n3 Q.sk.rows.length m3)).setCell ⟨T, 3, none⟩ (.int .i64 Q.sk.added)) (T + 1) 9 (.slice (some ⟨g, off, none⟩) L.length cl) (strs L)) := hO9.kept fun q hq => put4_other w8 T _ _ _ _ q (by have := (hO9.lt q hq).1; omega)
            clear hO9 hV0 hBX hVN hBN hN8 hb8
            go_wp2_with fail
            go_roundw
            case rel =>
              try ((repeat apply Exists.intro); refine ⟨?_, rfl⟩)
              exact ⟨⟨k + 1, n1, n2, n3, m1, m2, m3, Q, by omega, by go_num, HT.out.1, HF, HG, HO9⟩⟩
            case measure => simp [intOf]; omega
        · have hne := notEmpty ho
          rw [if_neg ho] at HLEN
          obtain ⟨h1, h2⟩ := HOO.out ho
          rw [h1] at cHo
          rw [h2] at cPo
          clear h1 h2 HOO ho
          go_wp2_with fail
          refine wp_region_quiet_below (by kernel_rfl) (by kernel_rfl) ?_
          repeat (first | go_big_quiet_step (first | with_reducible exact cSame _ _ | with_reducible exact cOk _ _ | with_reducible exact cHas _ _ | with_reducible exact cHo _ _ | with_reducible exact cPo _ _) | quiet_step (first | with_reducible exact cSame _ _ | with_reducible exact cOk _ _ | with_reducible exact cHas _ _ | with_reducible exact cHo _ _ | with_reducible exact cPo _ _))
          refine wpQuiet_nil ?_
          intro _ hw'
          obtain ⟨⟨dq, osq⟩, hw''⟩ := hw'
          subst hw''
          have hN7 : PolN (grow (redrawn w6 dq) osq) wo.heap.size N n1 n2 n3 m1 m2 m3 Q := PolN.on HN6.out.1 (below_regrown w6 dq osq)
          have hb7 : Below wo.heap.size wo (grow (redrawn w6 dq) osq) := HN6.out.2.trans ((below_regrown w6 dq osq).mono HN6.out.2.size)
          obtain ⟨w7, hw7⟩ : ∃ x, grow (redrawn w6 dq) osq = x := ⟨_, rfl⟩
          show Exit.then _ _ Exit.normal _ (grow (redrawn w6 dq) osq)
          rw [hw7] at hN7 hb7 ⊢
          clear hw7 cSame cOk cHas cHo cPo kx0 kx1 kx2 kx3 ky0 ky1 ky2 ky3 ku0 ku1 ku2 ku3 kxl HN6
          have hV7 := (HVO.out w7 hb7).1
          obtain ⟨hp, hhp⟩ : ∃ hp, hasP P key = hp := ⟨_, rfl⟩
          have cP : ∀ d os, Calls Tryd.prog 13 #[.agg #[.slice a1 P.win.length c1, .slice a2 P.main.length c2, .slice a3 P.sk.rows.length c3, .int .i64 P.sk.added], .string key] (grow (redrawn w7 d) os) fun e w'' => e = .returned (.bool hp) ∧ ∃ p : Regrown, w'' = grow (redrawn w7 p.d) p.os := fun d os => Calls.regrown_of (by rw [← hhp]; exact implPolicyHas_sz (grow (redrawn w7 d) os) a1 a2 a3 c1 c2 c3 P key (hV7.on (below_regrown w7 d os)).at HSZ.out.1 HKS.out)
          rw [hhp] at HLEN
          obtain ⟨x0, x1, x2, x3⟩ := hV7.cells
          have xl := HLC.out w7 hb7
          have kx0 := cell_regrown x0
          have kx1 := cell_regrown x1
          have kx2 := cell_regrown x2
          have kx3 := cell_regrown x3
          have kxl := cell_regrown xl
          have HN7 : Hid (PolN w7 wo.heap.size N n1 n2 n3 m1 m2 m3 Q ∧ Below wo.heap.size wo w7) := ⟨hN7, hb7⟩
          clear hV7 hN7 hb7 hhp xl
          cases hp with
          | true =>
            have hcmp : (((Q.win.length : Int) + (Q.main.length : Int)) != ((P.win.length : Int) + (P.main.length : Int) - 1)) = false := by
              have := HLEN.out
              simp at this
              simp
              omega
            go_wp2_with fail
            refine wp_region_quiet_below (by kernel_rfl) (by kernel_rfl) ?_
            repeat (first | go_big_quiet_step (with_reducible exact cP _ _) | quiet_step (with_reducible exact cP _ _))
            refine wpQuiet_nil ?_
            intro _ hw'
            obtain ⟨⟨dr, osr⟩, hw''⟩ := hw'
            subst hw''
            have hN8 : PolN (grow (redrawn w7 dr) osr) wo.heap.size N n1 n2 n3 m1 m2 m3 Q := PolN.on HN7.out.1 (below_regrown w7 dr osr)
            have hb8 : Below wo.heap.size wo (grow (redrawn w7 dr) osr) := HN7.out.2.trans ((below_regrown w7 dr osr).mono HN7.out.2.size)
            obtain ⟨w8, hw8⟩ : ∃ x, grow (redrawn w7 dr) osr = x := ⟨_, rfl⟩
            show Exit.then _ _ Exit.normal _ (grow (redrawn w7 dr) osr)
            rw [hw8] at hN8 hb8 ⊢
            clear hw8 cP kx0 kx1 kx2 kx3 kxl x0 x1 x2 x3 HN7
            have hV0 := (HVO.out wo (Below.refl _ _)).1
            obtain ⟨hBX, hVN⟩ := hV0.put hb8 hN8.own
            have hBN := Below.put4 (T := T) (HVO.out w8 hb8).2.1 HBT.out.1 (.slice n1 Q.win.length m1) (.slice n2 Q.main.length m2) (.slice n3 Q.sk.rows.length m3) (.int .i64 Q.sk.added)
            obtain ⟨x0, x1, x2, x3⟩ := hBX.cells
            have f0 := hBX.thaw 0
            have f1 := hBX.thaw 1
            have f2 := hBX.thaw 2
            have f3 := hBX.thaw 3
            obtain ⟨y0, y1, y2, y3⟩ := hN8.box.cells
            have HF : Hid _ := hVN
            have HG : Hid _ := hBN
            have hO9 := (HVO.out w8 hb8).2.2
            have HO9 : Hid (OwnV ((((w8.setCell ⟨T, 0, none⟩ (.slice n1 Q.win.length m1)).setCell ⟨T, 1, none⟩ (.slice n2 Q.main.length m2)).setCell ⟨T, 2, none⟩ (.slice n3 Q.sk.rows.length m3)).setCell ⟨T, 3, none⟩ (.int .i64 Q.sk.added)) (T + 1) 9 (.slice (some ⟨g, off, none⟩) L.length cl) (strs L)) := hO9.kept fun q hq => put4_other w8 T _ _ _ _ q (by have := (hO9.lt q hq).1; omega)
            clear hO9 hV0 hBX hVN hBN hN8 hb8
            go_wp2_with fail
            go_roundw
            case rel =>
              try ((repeat apply Exists.intro); refine ⟨?_, rfl⟩)
              exact ⟨⟨k + 1, n1, n2, n3, m1, m2, m3, Q, by omega, by go_num, HT.out.1, HF, HG, HO9⟩⟩
            case measure => simp [intOf]; omega
          | false =>
            have hcmp : (((Q.win.length : Int) + (Q.main.length : Int)) != ((P.win.length : Int) + (P.main.length : Int))) = false := by
              have := HLEN.out
              simp at this
              simp
              omega
            go_wp2_with fail
            refine wp_region_quiet_below (by kernel_rfl) (by kernel_rfl) ?_
            repeat (first | go_big_quiet_step (with_reducible exact cP _ _) | quiet_step (with_reducible exact cP _ _))
            refine wpQuiet_nil ?_
            intro _ hw'
            obtain ⟨⟨dr, osr⟩, hw''⟩ := hw'
            subst hw''
            have hN8 : PolN (grow (redrawn w7 dr) osr) wo.heap.size N n1 n2 n3 m1 m2 m3 Q := PolN.on HN7.out.1 (below_regrown w7 dr osr)
            have hb8 : Below wo.heap.size wo (grow (redrawn w7 dr) osr) := HN7.out.2.trans ((below_regrown w7 dr osr).mono HN7.out.2.size)
            obtain ⟨w8, hw8⟩ : ∃ x, grow (redrawn w7 dr) osr = x := ⟨_, rfl⟩
            show Exit.then _ _ Exit.normal _ (grow (redrawn w7 dr) osr)
            rw [hw8] at hN8 hb8 ⊢
            clear hw8 cP kx0 kx1 kx2 kx3 kxl x0 x1 x2 x3 HN7
            have hV0 := (HVO.out wo (Below.refl _ _)).1
            obtain ⟨hBX, hVN⟩ := hV0.put hb8 hN8.own
            have hBN := Below.put4 (T := T) (HVO.out w8 hb8).2.1 HBT.out.1 (.slice n1 Q.win.length m1) (.slice n2 Q.main.length m2) (.slice n3 Q.sk.rows.length m3) (.int .i64 Q.sk.added)
            obtain ⟨x0, x1, x2, x3⟩ := hBX.cells
            have f0 := hBX.thaw 0
            have f1 := hBX.thaw 1
            have f2 := hBX.thaw 2
            have f3 := hBX.thaw 3
            obtain ⟨y0, y1, y2, y3⟩ := hN8.box.cells
            have HF : Hid _ := hVN
            have HG : Hid _ := hBN
            have hO9 := (HVO.out w8 hb8).2.2
            have HO9 : Hid (OwnV ((((w8.setCell ⟨T, 0, none⟩ (.slice n1 Q.win.length m1)).setCell ⟨T, 1, none⟩ (.slice n2 Q.main.length m2)).setCell ⟨T, 2, none⟩ (.slice n3 Q.sk.rows.length m3)).setCell ⟨T, 3, none⟩ (.int .i64 Q.sk.added)) (T + 1) 9 (.slice (some ⟨g, off, none⟩) L.length cl) (strs L)) := hO9.kept fun q hq => put4_other w8 T _ _ _ _ q (by have := (hO9.lt q hq).1; omega)
            clear hO9 hV0 hBX hVN hBN hN8 hb8
            go_wp2_with fail
            go_roundw
            case rel =>
              try ((repeat apply Exists.intro); refine ⟨?_, rfl⟩)
              exact ⟨⟨k + 1, n1, n2, n3, m1, m2, m3, Q, by omega, by go_num, HT.out.1, HF, HG, HO9⟩⟩
            case measure => simp [intOf]; omega
end Go.Proofs.YtbcjkinalghokafDoor
