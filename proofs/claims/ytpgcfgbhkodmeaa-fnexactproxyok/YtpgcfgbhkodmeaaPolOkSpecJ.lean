/- Texts that stand in one: PolOkSpec, PolSzText, PolOkSz, PolHasSz. -/
import Derived.Test.YtpgcfgbhkodmeaaPolSpecJ
import Derived.Test.YtpgcfgbhkodmeaaSkStepJ
import Derived.Lib.QuietBelow
import Derived.BigQuiet
import Derived.Test.YtpgcfgbhkodmeaaPolLaw
namespace Go.Proofs.Ytpgcfgbhkodmeaa
open Go.RowKit Go.Sort

theorem listOkTo_succ (l : List ByteArray) (k : Nat) : listOkTo l (k + 1) = (listOkTo l k && (keyOk (l.getD k noKey) && !inL (l.take k) (l.getD k noKey))) := by
  unfold listOkTo
  rw [List.range_succ, List.all_append]
  simp
theorem listOkTo_down (l : List ByteArray) {k : Nat} : ∀ n, k ≤ n → listOkTo l k = false → listOkTo l n = false
  | 0, hk, h => by
    have : k = 0 := by omega
    rw [← this]
    exact h
  | n + 1, hk, h => by
    by_cases e : k = n + 1
    · rw [← e]; exact h
    · rw [listOkTo_succ, listOkTo_down l n (by omega) h]; rfl
theorem LAt.take {w : World} {a : Option Addr} {L : List ByteArray} {B : Nat} (h : LAt w a L B) (k : Nat) : LAt w a (L.take k) B := fun j hj => by
  rw [List.length_take] at hj
  obtain ⟨g, off, e, hg, hc⟩ := h j (by omega)
  exact ⟨g, off, e, hg, by rw [List.getElem_take]; exact hc⟩
theorem getD_key {l : List ByteArray} {k : Nat} (h : k < l.length) : l.getD k noKey = l[k] := by
  rw [List.getD_eq_getElem?_getD, List.getElem?_eq_getElem h]; rfl
set_option maxRecDepth 100000 in
set_option maxHeartbeats 4000000 in
theorem specPolicyOk_any (w : World) (aw am ak : Option Addr) (cw cm ck : Nat) (P : Pol) (hA : PolAt w aw am ak P w.heap.size) (hm : P.win.length ≤ 1048576) (hm' : P.main.length ≤ 1048576) (hs : P.sk.rows.length ≤ 1048576) (hz : ∀ z ∈ P.win ++ P.main, z.size ≤ 10000000) :
    Calls Try.prog 77 #[.agg #[.slice aw P.win.length cw, .slice am P.main.length cm, .slice ak P.sk.rows.length ck, .int .i64 P.sk.added]] w fun e w' => e = .returned (.bool (okP P)) ∧ Below w.heap.size w w' := by
  obtain ⟨w1, hw1⟩ : ∃ x, w.alloc (.cells #[.slice aw P.win.length cw, .slice am P.main.length cm, .slice ak P.sk.rows.length ck, .int .i64 P.sk.added] 38) = x := ⟨_, rfl⟩
  have hb1 : Below w.heap.size w w1 := by rw [← hw1]; exact (Below.refl _ _).alloc (Nat.le_refl _) _
  have hB : PBox w1 w.heap.size (.slice aw P.win.length cw) (.slice am P.main.length cm) (.slice ak P.sk.rows.length ck) (.int .i64 P.sk.added) := by rw [← hw1]; exact PBox.new _ _ _ _ _
  have hA1 := hA.on hb1
  have HW : Hid (w.alloc (.cells #[.slice aw P.win.length cw, .slice am P.main.length cm, .slice ak P.sk.rows.length ck, .int .i64 P.sk.added] 38) = w1) := hw1
  have HKC : Hid (∀ W, Below w1.heap.size w1 W → W.cell? ⟨w.heap.size, 0, none⟩ = some (.slice aw P.win.length cw) ∧ W.cell? ⟨w.heap.size, 1, none⟩ = some (.slice am P.main.length cm)) := fun W h => ⟨(hB.on h).cells.1, (hB.on h).cells.2.1⟩
  have HSW : Hid ((aw = none → P.win.length = 0) ∧ ∀ W, Below w1.heap.size w1 W → ∀ ad, aw = some ad → ∀ j u, (strs P.win)[j]? = some u → W.cell? (ad.add j) = some u) := ⟨hA1.1.srcS.1, fun W hW => (hA1.1.on hW).srcS.2⟩
  have HSM : Hid ((am = none → P.main.length = 0) ∧ ∀ W, Below w1.heap.size w1 W → ∀ ad, am = some ad → ∀ j u, (strs P.main)[j]? = some u → W.cell? (ad.add j) = some u) := ⟨hA1.2.1.srcS.1, fun W hW => (hA1.2.1.on hW).srcS.2⟩
  have hbE : Below w1.heap.size w1 (w1.alloc (.cells #[] 9)) := (Below.refl _ _).alloc (Nat.le_refl _) _
  have hbEd : Below w1.heap.size w1 (w1.alloc (.cells #[] 9)).drew := hbE.trans ⟨rfl, rfl, rfl, Nat.le_refl _, fun _ _ => rfl⟩
  obtain ⟨d0, d1⟩ := HKC.out w1 (Below.refl _ _)
  obtain ⟨e0, e1⟩ := HKC.out _ hbE
  have n1 := strs_length P.win
  have n2 := strs_length P.main
  obtain ⟨A, hAA⟩ : ∃ A, P.win ++ P.main = A := ⟨_, rfl⟩
  have HA : Hid (P.win ++ P.main = A) := hAA
  have hAl : A.length = P.win.length + P.main.length := by rw [← hAA, List.length_append]
  have hAs : strs P.win ++ strs P.main = strs A := by rw [← hAA, strs_append]
  rw [hAA] at hz
  have HZ : Hid (∀ z ∈ A, z.size ≤ 10000000) := hz
  have HPB : Hid (∀ W, Below w1.heap.size w1 W → PBox W w.heap.size (.slice aw P.win.length cw) (.slice am P.main.length cm) (.slice ak P.sk.rows.length ck) (.int .i64 P.sk.added) ∧ SSAt W ak P.sk.rows W.heap.size ∧ Below w.heap.size w W) := fun W h => ⟨hB.on h, hA1.2.2.on h, hb1.trans (h.mono hb1.size)⟩
  have HOK : Hid (∀ q, listOk A = q → okP P = (q && (decide (P.win.length ≤ 2) && decide (P.main.length ≤ 4) && okK P.sk))) := fun q h => by rw [← h, ← hAA]; rfl
  clear hAA hz
  rw [← hw1] at d0 d1 e0 e1
  clear hw1 hA hB hA1 hb1
  go_enter Try.func77, Try.ntmps77
  go_wp2
  rw [HW.out] at d0 d1 e0 e1 ⊢
  go_region_law (first
    | (refine step_allI rfl (.tmp 5) (.tmp 7) 23 rfl 9 Try.underlying23 (.string ⟨#[]⟩) 1 16 Try.infoSK rfl (by omega) (by omega) w1.heap.size rfl (by exact heap_alloc_new _ _) aw P.win.length cw (strs P.win) rfl (by rw [n1]; omega) HSW.out.1 (HSW.out.2 _ hbEd) (strs_one _) hm ?_; rintro g4 c4 w4 o4 b4 n4 k4; have hb4 : Below w1.heap.size w1 w4 := hbEd.trans b4; have hu4 := ownV_of_rowS o4; have f1 := (HKC.out _ hb4).2; clear o4 b4 n4 k4)
    | (refine step_plusO rfl (.tmp 8) (.tmp 10) 23 rfl w1.heap.size 9 Try.underlying23 (.string ⟨#[]⟩) 16 Try.infoSK rfl (by omega) g4 P.win.length c4 (strs P.win) rfl hu4 n1.symm (by omega) hb4.size am P.main.length cm (strs P.main) rfl n2 HSM.out.1 (HSM.out.2 _ hb4) (strs_one _) (by omega) ?_; rintro g5 c5 w5 o5 gr5; have hb5 : Below w1.heap.size w1 w5 := hb4.grown gr5 hb4.size (fun k e => by cases e; exact (hu4.lt _ rfl).1)))
  all_goals (
    rw [hAs] at o5
    obtain ⟨a5, cc, ev, hL5⟩ := o5.strsAt
    have hcap : A.length ≤ c5 := by
      rcases o5.2 with ⟨e1, _⟩ | ⟨g, cp, cur, e1, _, _, hle, _⟩
      · cases e1
      · simp only [Value.slice.injEq] at e1
        rw [strs_length] at e1 hle
        omega
    simp only [Value.slice.injEq] at ev
    obtain ⟨rfl, ev1, rfl⟩ := ev
    have hAL : A.length ≤ 10000000 := by omega
    rw [ev1]
    clear ev1 o5 hAs gr5 hu4 hb4 f1 d0 d1 e0 e1 hbE hbEd HSW HSM HKC n1 n2
    go_wp2
    go_loopw [4] (fun i wr => Box (∃ (k : Nat), k ≤ A.length ∧ i = .int .i64 k ∧ Hid (listOkTo A k = true) ∧ LAt wr (some ⟨g5, 0, none⟩) A wr.heap.size ∧ Below w1.heap.size w1 wr))
      (fun i _ => A.length - (intOf i).toNat)
    case atStart => exact ⟨⟨0, by omega, rfl, rfl, hL5, hb5⟩⟩
    case round =>
      obtain ⟨k, hk, rfl, HP, hL, hbr⟩ := hrel.out
      have HBR := HPB.out wr hbr
      by_cases hlt : k < A.length
      · obtain ⟨g', off', ee, hg', hc⟩ := hL k hlt
        simp only [Option.some.injEq, Addr.mk.injEq, and_true] at ee
        obtain ⟨rfl, rfl⟩ := ee
        rw [Nat.zero_add] at hc
        obtain ⟨z, hzz⟩ : ∃ z, A[k] = z := ⟨_, rfl⟩
        have HX : Hid (listOkTo A (k + 1) = (keyOk z && !inL (A.take k) z)) := by show _ = _; rw [listOkTo_succ, HP.out, getD_key hlt, hzz, Bool.true_and]
        have hzs : z.size ≤ 10000000 := HZ.out z (by rw [← hzz]; exact List.getElem_mem hlt)
        have HDN : Hid (listOkTo A (k + 1) = false → okP P = false) := fun h => by rw [HOK.out false (listOkTo_down A A.length (by omega) h)]; rfl
        rw [hzz] at hc
        have kc := cell_regrown hc
        have htk : (A.take k).length = k := by rw [List.length_take]; omega
        have cK : ∀ d os, Calls Try.prog 47 #[.string z] (grow (redrawn wr d) os) fun e w'' => e = .returned (.bool (keyOk z)) ∧ ∃ p : Regrown, w'' = grow (redrawn wr p.d) p.os := fun d os => Calls.regrown_of ((l13Key_any (grow (redrawn wr d) os) z hzs).mono (by rintro e w'' ⟨rfl, rfl⟩; exact ⟨rfl, Below.refl _ _⟩))
        have cI : ∀ d os, Calls Try.prog 98 #[.slice (some ⟨g5, 0, none⟩) k c5, .string z] (grow (redrawn wr d) os) fun e w'' => e = .returned (.bool (inL (A.take k) z)) ∧ ∃ p : Regrown, w'' = grow (redrawn wr p.d) p.os := fun d os => Calls.regrown_of (by
          have c := l13In_any (grow (redrawn wr d) os) (some ⟨g5, 0, none⟩) c5 (A.take k) z ((hL.on (below_regrown wr d os)).take k) (by omega)
          rw [htk] at c
          exact c.mono (by rintro e w'' ⟨rfl, rfl⟩; exact ⟨rfl, Below.refl _ _⟩))
        have HL : Hid (LAt wr (some ⟨g5, 0, none⟩) A wr.heap.size ∧ Below w1.heap.size w1 wr) := ⟨hL, hbr⟩
        clear hrel hL hbr hL5 hb5 hzz htk hg' HP
        have hi1 : (0 : Int) ≤ (k : Int) := by omega
        have hi2 : (k : Int) < (A.length : Int) := by omega
        have hi3 : (k : Int) ≤ (c5 : Int) := by omega
        cases hA1 : keyOk z with
        | false =>
          have HF : Hid (okP P = false) := HDN.out (by rw [HX.out, hA1]; rfl)
          rw [hA1] at cK
          clear hA1 cI
          go_wp2_with fail
          refine wp_region_quiet_below (by kernel_rfl) (by kernel_rfl) ?_
          repeat (first | go_big_quiet_step (exact cK _ _) | quiet_step (exact cK _ _))
          refine wpQuiet_nil ?_
          intro _ hw'
          obtain ⟨⟨dq, osq⟩, hw''⟩ := hw'
          subst hw''
          go_wp2_with fail
          go_ret
          exact ⟨by rw [HF.out]; rfl, HBR.2.2.trans ((below_regrown wr dq osq).mono HBR.2.2.size)⟩
        | true =>
          rw [hA1] at cK
          cases hA2 : inL (A.take k) z with
          | true =>
            have HF : Hid (okP P = false) := HDN.out (by rw [HX.out, hA1, hA2]; rfl)
            rw [hA2] at cI
            clear hA1 hA2
            go_wp2_with fail
            refine wp_region_quiet_below (by kernel_rfl) (by kernel_rfl) ?_
            repeat (first | go_big_quiet_step (first | with_reducible exact cK _ _ | with_reducible exact cI _ _) | quiet_step (first | with_reducible exact cK _ _ | with_reducible exact cI _ _))
            refine wpQuiet_nil ?_
            intro _ hw'
            obtain ⟨⟨dq, osq⟩, hw''⟩ := hw'
            subst hw''
            go_wp2_with fail
            go_ret
            exact ⟨by rw [HF.out]; rfl, HBR.2.2.trans ((below_regrown wr dq osq).mono HBR.2.2.size)⟩
          | false =>
            have HT : Hid (listOkTo A (k + 1) = true) := by show _ = _; rw [HX.out, hA1, hA2]; rfl
            rw [hA2] at cI
            clear hA1 hA2
            go_wp2_with fail
            refine wp_region_quiet_below (by kernel_rfl) (by kernel_rfl) ?_
            repeat (first | go_big_quiet_step (first | with_reducible exact cK _ _ | with_reducible exact cI _ _) | quiet_step (first | with_reducible exact cK _ _ | with_reducible exact cI _ _))
            refine wpQuiet_nil ?_
            intro _ hw'
            obtain ⟨⟨dq, osq⟩, hw''⟩ := hw'
            subst hw''
            go_wp2_with fail
            go_roundw
            case rel =>
              try ((repeat apply Exists.intro); refine ⟨?_, rfl⟩)
              exact ⟨⟨k + 1, by omega, by go_num, HT, HL.out.1.on (below_regrown wr dq osq), HL.out.2.trans ((below_regrown wr dq osq).mono HL.out.2.size)⟩⟩
            case measure => simp [intOf]; omega
      · have hke : k = A.length := by omega
        have HT : Hid (okP P = (decide (P.win.length ≤ 2) && decide (P.main.length ≤ 4) && okK P.sk)) := by
          show _ = _
          rw [HOK.out true (by show listOkTo A A.length = true; rw [← hke]; exact HP.out), Bool.true_and]
        obtain ⟨hBr, hSr, hbw⟩ := HBR
        obtain ⟨b0, b1, b2, b3⟩ := hBr.cells
        have cO := specSketchOk_any wr ak ck P.sk hSr hs
        clear hrel hL hbr hL5 hb5 HP hBr hSr
        by_cases h2 : P.win.length ≤ 2
        case neg =>
          have h2' : ¬ ((P.win.length : Int) ≤ 2) := by omega
          rw [decide_eq_false h2] at HT
          clear h2 cO
          go_wp2_with fail
          go_ret
          exact ⟨by rw [HT.out]; rfl, hbw⟩
        have h2' : ((P.win.length : Int) ≤ 2) := by omega
        rw [decide_eq_true h2] at HT
        by_cases h4 : P.main.length ≤ 4
        case neg =>
          have h4' : ¬ ((P.main.length : Int) ≤ 4) := by omega
          rw [decide_eq_false h4] at HT
          clear h2 h4 cO
          go_wp2_with fail
          go_ret
          exact ⟨by rw [HT.out]; rfl, hbw⟩
        have h4' : ((P.main.length : Int) ≤ 4) := by omega
        rw [decide_eq_true h4] at HT
        clear h2 h4
        generalize okK P.sk = q at cO HT
        go_wp2_with fail
        refine cO.mono ?_
        rintro e w' ⟨rfl, hbo⟩
        go_wp2_with fail
        go_ret
        exact ⟨by rw [HT.out]; simp, hbw.trans (hbo.mono hbw.size)⟩)
end Go.Proofs.Ytpgcfgbhkodmeaa

namespace Go.Proofs.Ytpgcfgbhkodmeaa
open Go.RowKit
theorem PolSz.texts {P : Pol} (h : PolSz P) : ∀ z ∈ P.win ++ P.main, z.size ≤ 1048576 := fun z hz => by
  unfold PolSz wgtP at h
  rcases List.mem_append.1 hz with hz | hz
  · have := wgtL_mem hz
    omega
  · have := wgtL_mem hz
    omega
end Go.Proofs.Ytpgcfgbhkodmeaa

namespace Go.Proofs.Ytpgcfgbhkodmeaa
open Go.RowKit Go.Sort

theorem specPolicyOk_sz (w : World) (aw am ak : Option Addr) (cw cm ck : Nat) (P : Pol) (hA : PolAt w aw am ak P w.heap.size) (hsz : PolSz P) :
    Calls Try.prog 77 #[.agg #[.slice aw P.win.length cw, .slice am P.main.length cm, .slice ak P.sk.rows.length ck, .int .i64 P.sk.added]] w fun e w' => e = .returned (.bool (okP P)) ∧ Below w.heap.size w w' := by
  obtain ⟨l1, l2, l3⟩ := hsz.parts
  exact specPolicyOk_any w aw am ak cw cm ck P hA l1 l2 (by unfold SkSz at l3; omega) (fun z hz => by have := hsz.texts z hz; omega)
end Go.Proofs.Ytpgcfgbhkodmeaa

namespace Go.Proofs.Ytpgcfgbhkodmeaa
open Go.RowKit Go.Sort

theorem specPolicyHas_sz (w : World) (aw am ak : Option Addr) (cw cm ck : Nat) (P : Pol) (key : ByteArray) (hA : PolAt w aw am ak P w.heap.size) (hsz : PolSz P) (_hk : key.size ≤ 1048576) :
    Calls Try.prog 76 #[.agg #[.slice aw P.win.length cw, .slice am P.main.length cm, .slice ak P.sk.rows.length ck, .int .i64 P.sk.added], .string key] w fun e w' => e = .returned (.bool (hasP P key)) ∧ Below w.heap.size w w' := by
  obtain ⟨l1, l2, l3⟩ := hsz.parts
  exact specPolicyHas_any w aw am ak cw cm ck P key hA (by omega) (by omega)
end Go.Proofs.Ytpgcfgbhkodmeaa
