/- Texts that stand in one: PolCopyImpl, PolOkImpl. -/
import Derived.Test.YtbcjkinalghokafDoorKeysCopyJ
import Derived.Test.YtbcjkinalghokafDoorPolKitJ
import Derived.Test.YtbcjkinalghokafDoorSkCopyImpl
import Derived.Test.YtbcjkinalghokafDoorSkCopySpecJ
import Derived.Deep.RegionHeld3
import Derived.Test.YtbcjkinalghokafDoorKeyImplJ
import Derived.Test.YtbcjkinalghokafDoorSnocSJ
import Derived.Test.YtbcjkinalghokafDoorPolOkSzJ
import Derived.Test.YtbcjkinalghokafDoorSamePolJ
import Derived.Lib.QuietBelow
import Derived.BigQuiet
namespace Go.Proofs.YtbcjkinalghokafDoor
open Go.RowKit Go.Sort

set_option maxRecDepth 100000 in
set_option maxHeartbeats 8000000 in
theorem policyCopy_any (w : World) (aw am ak : Option Addr) (cw cm ck : Nat) (P : Pol) (hA : PolAt w aw am ak P w.heap.size) (hsz : PolSz P) :
    Calls Tryd.prog 28 #[.agg #[.slice aw P.win.length cw, .slice am P.main.length cm, .slice ak P.sk.rows.length ck, .int .i64 P.sk.added]] w fun e w' => ∃ v, e = .returned v ∧ POwn w' w.heap.size w'.heap.size v P ∧ Below w.heap.size w w' := by
  obtain ⟨l1, l2, l3⟩ := hsz.parts
  obtain ⟨w0, hw0⟩ : ∃ x, w.alloc (.cells #[.slice aw P.win.length cw, .slice am P.main.length cm, .slice ak P.sk.rows.length ck, .int .i64 P.sk.added] 29) = x := ⟨_, rfl⟩
  obtain ⟨w1, hw1⟩ : ∃ x, w0.alloc (.cells #[.slice none 0 0, .slice none 0 0, .slice none 0 0, .int .i64 0] 29) = x := ⟨_, rfl⟩
  have hb0 : Below w.heap.size w w0 := by rw [← hw0]; exact (Below.refl _ _).alloc (Nat.le_refl _) _
  have hb01 : Below w0.heap.size w0 w1 := by rw [← hw1]; exact (Below.refl _ _).alloc (Nat.le_refl _) _
  have s0 : w0.heap.size = w.heap.size + 1 := by rw [← hw0]; simp
  have s1 : w1.heap.size = w.heap.size + 2 := by rw [← hw1]; simp; omega
  have hb1 : Below w.heap.size w w1 := hb0.trans (hb01.mono hb0.size)
  have hB : PBox w1 w.heap.size (.slice aw P.win.length cw) (.slice am P.main.length cm) (.slice ak P.sk.rows.length ck) (.int .i64 P.sk.added) := by
    have h : PBox w0 w.heap.size (.slice aw P.win.length cw) (.slice am P.main.length cm) (.slice ak P.sk.rows.length ck) (.int .i64 P.sk.added) := by rw [← hw0]; exact PBox.new _ _ _ _ _
    exact h.on hb01
  have hR : PBox w1 (w.heap.size + 1) (.slice none 0 0) (.slice none 0 0) (.slice none 0 0) (.int .i64 0) := by rw [← hw1, ← s0]; exact PBox.new _ _ _ _ _
  have hA1 := hA.on hb1
  have HW : Hid ((w.alloc (.cells #[.slice aw P.win.length cw, .slice am P.main.length cm, .slice ak P.sk.rows.length ck, .int .i64 P.sk.added] 29)).alloc (.cells #[.slice none 0 0, .slice none 0 0, .slice none 0 0, .int .i64 0] 29) = w1) := by rw [hw0]; exact hw1
  have KS : ∀ W, Below w1.heap.size w1 W → W.cell? ⟨w.heap.size, 0, none⟩ = some (.slice aw P.win.length cw) ∧ W.cell? ⟨w.heap.size, 1, none⟩ = some (.slice am P.main.length cm) ∧ W.cell? ⟨w.heap.size, 2, none⟩ = some (.slice ak P.sk.rows.length ck) ∧ W.cell? ⟨w.heap.size, 3, none⟩ = some (.int .i64 P.sk.added) := fun W h => (hB.on h).cells
  have HC1 : Hid (∀ W, Below w1.heap.size w1 W → Calls Tryd.prog 58 #[.slice aw P.win.length cw] W fun e w' => ∃ a2 k2, e = .returned (.slice a2 P.win.length k2) ∧ OwnV w' W.heap.size 9 (.slice a2 P.win.length k2) (strs P.win) ∧ Below w1.heap.size w1 w') := fun W h => by
    refine (keysCopy_any W aw cw P.win (hA1.on h).1 l1 (fun z hz => by have := hsz.texts z (List.mem_append_left _ hz); omega)).mono ?_
    rintro e w' ⟨v, rfl, ho, hb⟩
    obtain ⟨a2, k2, rfl, _⟩ := ho.strsAt
    exact ⟨a2, k2, rfl, ho, h.trans (hb.mono h.size)⟩
  have HC2 : Hid (∀ W, Below w1.heap.size w1 W → Calls Tryd.prog 58 #[.slice am P.main.length cm] W fun e w' => ∃ a2 k2, e = .returned (.slice a2 P.main.length k2) ∧ OwnV w' W.heap.size 9 (.slice a2 P.main.length k2) (strs P.main) ∧ Below W.heap.size W w') := fun W h => by
    refine (keysCopy_any W am cm P.main (hA1.on h).2.1 l2 (fun z hz => by have := hsz.texts z (List.mem_append_right _ hz); omega)).mono ?_
    rintro e w' ⟨v, rfl, ho, hb⟩
    obtain ⟨a2, k2, rfl, _⟩ := ho.strsAt
    exact ⟨a2, k2, rfl, ho, hb⟩
  have HC3 : Hid (∀ W, Below w1.heap.size w1 W → Calls Tryd.prog 59 #[.agg #[.slice ak P.sk.rows.length ck, .int .i64 P.sk.added]] W fun e w' => ∃ a2 k2, e = .returned (.agg #[.slice a2 P.sk.rows.length k2, .int .i64 P.sk.added]) ∧ OwnSS w' W.heap.size w'.heap.size (.slice a2 P.sk.rows.length k2) P.sk.rows ∧ Below W.heap.size W w') := fun W h => by
    refine (sketchCopy_any W ak ck P.sk (hA1.on h).2.2 l3).mono ?_
    rintro e w' ⟨v, rfl, ⟨u, rfl, ho⟩, hb⟩
    obtain ⟨a2, k2, rfl, _⟩ := ho.at
    exact ⟨a2, k2, rfl, ho, hb⟩
  have hdr : Below w1.heap.size w1 w1.drew := ⟨rfl, rfl, rfl, Nat.le_refl _, fun _ _ => rfl⟩
  have HRB : Hid (∀ W, Below w1.heap.size w1 W → PBox W (w.heap.size + 1) (.slice none 0 0) (.slice none 0 0) (.slice none 0 0) (.int .i64 0)) := fun W h => hR.on h
  have HB1 : Hid (Below w.heap.size w w1 ∧ w1.heap.size = w.heap.size + 2) := ⟨hb1, s1⟩
  have HS5 : Hid (∀ W x y z u, Below w1.heap.size w1 W → PBox ((((W.setCell ⟨w.heap.size + 1, 0, none⟩ x).setCell ⟨w.heap.size + 1, 1, none⟩ y).setCell ⟨w.heap.size + 1, 2, none⟩ z).setCell ⟨w.heap.size + 1, 3, none⟩ u) w.heap.size (.slice aw P.win.length cw) (.slice am P.main.length cm) (.slice ak P.sk.rows.length ck) (.int .i64 P.sk.added)) := fun W x y z u h => (hB.on h).kept (put4_other W _ x y z u _ (by omega))
  clear hw0 hw1 hb0 hb01 s0 hA hA1 hB hR hb1 s1 hsz l1 l2 l3
  go_enter Tryd.func28, Tryd.ntmps28
  go_wp2
  rw [HW.out]
  clear HW
  go_region_held3 (fun W => W.cell? ⟨w.heap.size, 0, none⟩ = some (.slice aw P.win.length cw) ∧ W.cell? ⟨w.heap.size, 1, none⟩ = some (.slice am P.main.length cm) ∧ W.cell? ⟨w.heap.size, 2, none⟩ = some (.slice ak P.sk.rows.length ck) ∧ W.cell? ⟨w.heap.size, 3, none⟩ = some (.int .i64 P.sk.added)) (first | with_reducible exact KS _ hdr | with_reducible exact KS _ hC4 | with_reducible exact KS _ hC3 | with_reducible exact KS _ hC2 | with_reducible exact hS5)
    (first
      | (go_at_call 58; first
          | (with_reducible refine (HC1.out _ hdr).mono ?_; rintro e w2 ⟨a2, k2, rfl, ho2, hC2⟩)
          | (with_reducible refine (HC2.out _ hC2).mono ?_; rintro e w3 ⟨a3, k3, rfl, ho3, hb3⟩; have hC3 : Below w1.heap.size w1 w3 := hC2.trans (hb3.mono hC2.size)))
      | (go_at_call 59; with_reducible refine (HC3.out _ hC3).mono ?_; rintro e w4 ⟨a4, k4, rfl, ho4, hb4⟩; have hC4 : Below w1.heap.size w1 w4 := hC3.trans (hb4.mono hC3.size); have hR4 := HRB.out _ hC4; obtain ⟨r0, r1, r2, r3⟩ := hR4.cells; have f0 := hR4.thaw 0; have f1 := hR4.thaw 1; have f2 := hR4.thaw 2; have f3 := hR4.thaw 3; have hS5 := (HS5.out w4 (.slice a2 P.win.length k2) (.slice a3 P.main.length k3) (.slice a4 P.sk.rows.length k4) (.int .i64 P.sk.added) hC4).cells))
  all_goals (
    obtain ⟨hb1, s1⟩ := HB1.out
    have hR4 := HRB.out _ hC4
    have hOA : POwn w4 w.heap.size w4.heap.size (.agg #[.slice a2 P.win.length k2, .slice a3 P.main.length k3, .slice a4 P.sk.rows.length k4, .int .i64 P.sk.added]) ⟨P.win, P.main, P.sk⟩ :=
      POwn.mk3 (P := ⟨P.win, P.main, P.sk⟩) ((ho2.below hb3 (Nat.le_refl _)).below hb4 (Nat.le_refl _)) (ho3.below hb4 (Nat.le_refl _)) ho4 (by simp; omega) (by have := hC2.size; omega) (by have := hC3.size; omega) (fun k hk => by
        intro e
        have h1 := (ho2.lt k hk).2
        have h2 := (ho3.lt k e).1
        omega)
    have HOA : Hid _ := hOA.put4 hR4 (.slice a2 P.win.length k2) (.slice a3 P.main.length k3) (.slice a4 P.sk.rows.length k4) (.int .i64 P.sk.added)
    have HBF : Hid _ := Below.put4 (hb1.trans (hC4.mono (by omega))) (T := w.heap.size + 1) (by omega) (.slice a2 P.win.length k2) (.slice a3 P.main.length k3) (.slice a4 P.sk.rows.length k4) (.int .i64 P.sk.added)
    obtain ⟨q0, q1, q2, q3⟩ := (hR4.put (.slice a2 P.win.length k2) (.slice a3 P.main.length k3) (.slice a4 P.sk.rows.length k4) (.int .i64 P.sk.added)).cells
    clear hOA
    try go_wp2_with fail
    refine bodyPost_ret (v := .agg #[.slice a2 P.win.length k2, .slice a3 P.main.length k3, .slice a4 P.sk.rows.length k4, .int .i64 P.sk.added]) (by simp [results, Tryd.results28, go_sem, q0, q1, q2, q3]) rfl ⟨_, rfl, ?_, HBF.out⟩
    refine POwn.mono HOA.out (Nat.le_refl _) ?_
    simp)
end Go.Proofs.YtbcjkinalghokafDoor

namespace Go.Proofs.YtbcjkinalghokafDoor
open Go.RowKit Go.Sort

theorem two_cells {w : World} {T : Nat} {x y : Value} {t : TypeId} (h : w.heap[T]? = some (.cells #[x, y] t (0, 0))) : w.cell? ⟨T, 0, none⟩ = some x ∧ w.cell? ⟨T, 1, none⟩ = some y := by
  exact ⟨by rw [cell_of_row w T 0 _ _ (0, 0) h]; rfl, by rw [cell_of_row w T 1 _ _ (0, 0) h]; rfl⟩
set_option maxRecDepth 100000 in
set_option maxHeartbeats 4000000 in
theorem implPolicyOk_any (w : World) (aw am ak : Option Addr) (cw cm ck : Nat) (P : Pol) (hA : PolAt w aw am ak P w.heap.size) (hm : P.win.length ≤ 1048576) (hm' : P.main.length ≤ 1048576) (hs : P.sk.rows.length ≤ 1048576) (hz : ∀ z ∈ P.win ++ P.main, z.size ≤ 10000000) :
    Calls Tryd.prog 12 #[.agg #[.slice aw P.win.length cw, .slice am P.main.length cm, .slice ak P.sk.rows.length ck, .int .i64 P.sk.added]] w fun e w' => e = .returned (.bool (okP P)) ∧ Below w.heap.size w w' := by
  obtain ⟨w1, hw1⟩ : ∃ x, w.alloc (.cells #[.slice aw P.win.length cw, .slice am P.main.length cm, .slice ak P.sk.rows.length ck, .int .i64 P.sk.added] 29) = x := ⟨_, rfl⟩
  have hb1 : Below w.heap.size w w1 := by rw [← hw1]; exact (Below.refl _ _).alloc (Nat.le_refl _) _
  have hB : PBox w1 w.heap.size (.slice aw P.win.length cw) (.slice am P.main.length cm) (.slice ak P.sk.rows.length ck) (.int .i64 P.sk.added) := by rw [← hw1]; exact PBox.new _ _ _ _ _
  have hA1 := hA.on hb1
  have cO := implSketchOk_any w1 ak ck P.sk hA1.2.2 hs
  have HW : Hid (w.alloc (.cells #[.slice aw P.win.length cw, .slice am P.main.length cm, .slice ak P.sk.rows.length ck, .int .i64 P.sk.added] 29) = w1) := hw1
  obtain ⟨A, hAA⟩ : ∃ A, P.win ++ P.main = A := ⟨_, rfl⟩
  have hAl : A.length = P.win.length + P.main.length := by rw [← hAA, List.length_append]
  have HOK : Hid (∀ q, listOk A = q → okP P = (q && (decide (P.win.length ≤ 2) && decide (P.main.length ≤ 4) && okK P.sk))) := fun q h => by rw [← h, ← hAA]; rfl
  have HAA : Hid (P.win ++ P.main = A) := hAA
  rw [hAA] at hz
  have HZ : Hid (∀ z ∈ A, z.size ≤ 10000000) := hz
  have HR : Hid (PolAt w1 aw am ak P w1.heap.size ∧ PBox w1 w.heap.size (.slice aw P.win.length cw) (.slice am P.main.length cm) (.slice ak P.sk.rows.length ck) (.int .i64 P.sk.added) ∧ Below w.heap.size w w1) := ⟨hA1, hB, hb1⟩
  obtain ⟨b0, b1, b2, b3⟩ := hB.cells
  rw [← hw1] at b0 b1 b2 b3
  clear hw1 hA hB hA1 hAA hz hb1 hs
  go_enter Tryd.func12, Tryd.ntmps12
  by_cases h2 : P.win.length ≤ 2
  case neg =>
    have h2' : ((2 : Int) < P.win.length) := by omega
    have HT : Hid (okP P = false) := by show _ = _; rw [HOK.out _ rfl, decide_eq_false h2]; simp
    clear h2 cO
    go_wp2_with fail
    rw [HW.out]
    go_ret
    exact ⟨by rw [HT.out]; rfl, HR.out.2.2⟩
  have h2' : ¬ ((2 : Int) < P.win.length) := by omega
  by_cases h4 : P.main.length ≤ 4
  case neg =>
    have h4' : ((4 : Int) < P.main.length) := by omega
    have HT : Hid (okP P = false) := by show _ = _; rw [HOK.out _ rfl, decide_eq_false h4]; simp
    clear h2 h4 cO
    go_wp2_with fail
    rw [HW.out]
    go_ret
    exact ⟨by rw [HT.out]; rfl, HR.out.2.2⟩
  have h4' : ¬ ((4 : Int) < P.main.length) := by omega
  rw [decide_eq_true h2, decide_eq_true h4] at HOK
  have hAL : A.length ≤ 6 := by omega
  clear h2 h4 hm hm'
  obtain ⟨q, hq⟩ : ∃ q, okK P.sk = q := ⟨_, rfl⟩
  rw [hq] at cO HOK
  clear hq
  go_wp2_with fail
  rw [HW.out]
  refine cO.mono ?_
  rintro e w2 ⟨rfl, hb2⟩
  obtain ⟨hP2, hB2, hbw2⟩ : PolAt w2 aw am ak P w2.heap.size ∧ PBox w2 w.heap.size (.slice aw P.win.length cw) (.slice am P.main.length cm) (.slice ak P.sk.rows.length ck) (.int .i64 P.sk.added) ∧ Below w.heap.size w w2 := ⟨HR.out.1.on hb2, HR.out.2.1.on hb2, HR.out.2.2.trans (hb2.mono HR.out.2.2.size)⟩
  clear cO b0 b1 b2 b3 HR HW hb2
  cases q with
  | false =>
    have HT : Hid (okP P = false) := by show _ = _; rw [HOK.out _ rfl]; simp
    go_wp2_with fail
    go_ret
    exact ⟨by rw [HT.out]; rfl, hbw2⟩
  | true =>
    obtain ⟨b0, b1, b2, b3⟩ := hB2.cells
    obtain ⟨w3, hw3⟩ : ∃ x, w2.alloc (.cells #[.slice aw P.win.length cw, .slice am P.main.length cm] 24) = x := ⟨_, rfl⟩
    have hb3 : Below w2.heap.size w2 w3 := by rw [← hw3]; exact (Below.refl _ _).alloc (Nat.le_refl _) _
    have hv3 : w3.heap[w2.heap.size]? = some (.cells #[.slice aw P.win.length cw, .slice am P.main.length cm] 24 (0, 0)) := by rw [← hw3]; exact heap_alloc_new _ _
    have hP3 := hP2.on hb3
    have cC := concatS_any w3 w2.heap.size aw am cw cm P.win P.main (two_cells hv3).1 (two_cells hv3).2 (Array.getElem?_eq_some_iff.1 hv3).1 hP3.1 hP3.2.1 (by omega)
    rw [HAA.out] at cC
    have HW3 : Hid (w2.alloc (.cells #[.slice aw P.win.length cw, .slice am P.main.length cm] 24) = w3) := hw3
    have HB3 : Hid (Below w.heap.size w w3) := hbw2.trans (hb3.mono hbw2.size)
    clear hw3 hv3 hP3 hP2 hB2
    go_wp2_with fail
    rw [HW3.out]
    refine cC.mono ?_
    rintro e w4 ⟨v, rfl, ho, hb4⟩
    have HB4 : Hid (Below w.heap.size w w4) := HB3.out.trans (hb4.mono HB3.out.size)
    obtain ⟨a5, c5, rfl, hL5⟩ := ho.strsAt
    have hcap : A.length ≤ c5 := by
      rcases ho.2 with ⟨e1, hl0⟩ | ⟨g, cp, cur, e1, _, _, hle, _⟩
      · rw [strs_length] at hl0
        omega
      · simp only [Value.slice.injEq] at e1
        rw [strs_length] at e1 hle
        omega
    clear cC ho b0 b1 b2 b3 hb3 hb4 HB3 HW3 hbw2
    go_wp2
    go_loopw [30] (fun i wr => Box (∃ (k : Nat), k ≤ A.length ∧ i = .int .i64 k ∧ Hid (listOkTo A k = true) ∧ LAt wr a5 A wr.heap.size ∧ Below w.heap.size w wr))
      (fun i _ => A.length - (intOf i).toNat)
    case atStart => exact ⟨⟨0, by omega, rfl, rfl, hL5, HB4.out⟩⟩
    case round =>
      obtain ⟨k, hk, rfl, HP, hL, hbr⟩ := hrel.out
      by_cases hlt : k < A.length
      · obtain ⟨g', off', rfl, hg', hc⟩ := hL k hlt
        obtain ⟨z, hzz⟩ : ∃ z, A[k] = z := ⟨_, rfl⟩
        have HX : Hid (listOkTo A (k + 1) = (keyOk z && !inL (A.take k) z)) := by show _ = _; rw [listOkTo_succ, HP.out, getD_key hlt, hzz, Bool.true_and]
        have hzs : z.size ≤ 10000000 := HZ.out z (by rw [← hzz]; exact List.getElem_mem hlt)
        have HDN : Hid (listOkTo A (k + 1) = false → okP P = false) := fun h => by rw [HOK.out false (listOkTo_down A A.length (by omega) h)]; rfl
        rw [hzz] at hc
        have htk : (A.take k).length = k := by rw [List.length_take]; omega
        have cK := implKeyOk_any wr z hzs
        have cI : Calls Tryd.prog 42 #[.slice (some ⟨g', off', none⟩) k c5, .string z] wr fun e w' => e = .returned (.bool (inL (A.take k) z)) ∧ w' = wr := by
          have c := containsS_any wr (some ⟨g', off', none⟩) c5 (A.take k) z (hL.take k) (by omega)
          rw [htk] at c
          exact c
        have HL : Hid (LAt wr (some ⟨g', off', none⟩) A wr.heap.size ∧ Below w.heap.size w wr) := ⟨hL, hbr⟩
        clear hrel hL hbr hL5 hzz htk hg' HP
        have hi1 : (0 : Int) ≤ (k : Int) := by omega
        have hi2 : (k : Int) < (A.length : Int) := by omega
        have hi3 : (k : Int) ≤ (c5 : Int) := by omega
        cases hA1 : keyOk z with
        | false =>
          have HF : Hid (okP P = false) := HDN.out (by rw [HX.out, hA1]; rfl)
          rw [hA1] at cK
          clear hA1 cI
          go_wp2_with fail
          refine cK.mono ?_
          rintro e w' ⟨rfl, rfl⟩
          go_wp2_with fail
          go_ret
          exact ⟨by rw [HF.out]; rfl, HL.out.2⟩
        | true =>
          rw [hA1] at cK
          cases hA2 : inL (A.take k) z with
          | true =>
            have HF : Hid (okP P = false) := HDN.out (by rw [HX.out, hA1, hA2]; rfl)
            rw [hA2] at cI
            clear hA1 hA2
            go_wp2_with fail
            refine cK.mono ?_
            rintro e w' ⟨rfl, rfl⟩
            go_wp2_with fail
            refine cI.mono ?_
            rintro e w' ⟨rfl, rfl⟩
            go_wp2_with fail
            go_ret
            exact ⟨by rw [HF.out]; rfl, HL.out.2⟩
          | false =>
            have HT : Hid (listOkTo A (k + 1) = true) := by show _ = _; rw [HX.out, hA1, hA2]; rfl
            rw [hA2] at cI
            clear hA1 hA2
            go_wp2_with fail
            refine cK.mono ?_
            rintro e w' ⟨rfl, rfl⟩
            go_wp2_with fail
            refine cI.mono ?_
            rintro e w' ⟨rfl, rfl⟩
            go_wp2_with fail
            go_roundw
            case rel =>
              try ((repeat apply Exists.intro); refine ⟨?_, rfl⟩)
              exact ⟨⟨k + 1, by omega, by go_num, HT, HL.out.1, HL.out.2⟩⟩
            case measure => simp [intOf]; omega
      · have hke : k = A.length := by omega
        have HT : Hid (okP P = true) := by
          show _ = _
          rw [HOK.out true (by show listOkTo A A.length = true; rw [← hke]; exact HP.out)]
          rfl
        clear hrel hL hL5 HP
        go_wp2_with fail
        go_ret
        exact ⟨by rw [HT.out]; rfl, hbr⟩
theorem implPolicyOk_sz (w : World) (aw am ak : Option Addr) (cw cm ck : Nat) (P : Pol) (hA : PolAt w aw am ak P w.heap.size) (hsz : PolSz P) :
    Calls Tryd.prog 12 #[.agg #[.slice aw P.win.length cw, .slice am P.main.length cm, .slice ak P.sk.rows.length ck, .int .i64 P.sk.added]] w fun e w' => e = .returned (.bool (okP P)) ∧ Below w.heap.size w w' := by
  obtain ⟨l1, l2, l3⟩ := hsz.parts
  exact implPolicyOk_any w aw am ak cw cm ck P hA l1 l2 (by unfold SkSz at l3; omega) (fun z hz => by have := hsz.texts z hz; omega)
end Go.Proofs.YtbcjkinalghokafDoor
