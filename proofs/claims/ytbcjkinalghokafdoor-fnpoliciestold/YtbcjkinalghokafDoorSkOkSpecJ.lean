/- Texts that stand in one: SkOkSpec, PolOkSpec. -/
import Derived.Test.YtbcjkinalghokafDoorSkKit
import Derived.Test.YtbcjkinalghokafDoorSkNewSpecJ
import Derived.Test.YtbcjkinalghokafDoorPolStepJ
import Derived.Lib.QuietBelow
import Derived.BigQuiet
namespace Go.Proofs.YtbcjkinalghokafDoor
open Go.RowKit Go.Sort

theorem okK_false {rows : List (List Int)} {added : Int} {k : Nat} (hk : k < rows.length) (h : rowOk rows[k] = false) : okK ⟨rows, added⟩ = false := by
  unfold okK
  rw [Bool.and_eq_false_iff]
  right
  rw [List.all_eq_false]
  exact ⟨rows[k], List.getElem_mem _, by simp [h]⟩
theorem okK_true {rows : List (List Int)} {added : Int} (h0 : headOkK ⟨rows, added⟩ = true) (h : ∀ j (hj : j < rows.length), rowOk rows[j] = true) : okK ⟨rows, added⟩ = true := by
  unfold okK
  rw [Bool.and_eq_true]
  refine ⟨h0, ?_⟩
  rw [List.all_eq_true]
  intro r hr
  obtain ⟨j, hj, rfl⟩ := List.getElem_of_mem hr
  exact h j hj
theorem rowOk_len_false {r : List Int} (h : ¬ r.length = 16) : rowOk r = false := by simp [rowOk, h]
theorem rowOk_num_false {r : List Int} {q : Nat} (hq : q < r.length) (h : numOk r[q] = false) : rowOk r = false := by
  unfold rowOk
  rw [Bool.and_eq_false_iff]
  right
  rw [List.all_eq_false]
  exact ⟨r[q], List.getElem_mem _, by simp [h]⟩
theorem rowOk_true {r : List Int} (hl : r.length = 16) (h : ∀ q (hq : q < r.length), numOk r[q] = true) : rowOk r = true := by
  unfold rowOk
  rw [Bool.and_eq_true]
  refine ⟨by simpa using hl, ?_⟩
  rw [List.all_eq_true]
  intro z hz
  obtain ⟨q, hq, rfl⟩ := List.getElem_of_mem hz
  exact h q hq

set_option maxRecDepth 100000 in
set_option maxHeartbeats 2000000 in
theorem specSketchOk_any (w : World) (a : Option Addr) (c : Nat) (S : Sk) (hA : SSAt w a S.rows w.heap.size) (hm : S.rows.length ≤ 1048576) :
    Calls Tryd.prog 50 #[.agg #[.slice a S.rows.length c, .int .i64 S.added]] w fun e w' => e = .returned (.bool (okK S)) ∧ Below w.heap.size w w' := by
  obtain ⟨rows, added⟩ := S
  dsimp only at *
  obtain ⟨w1, hw1⟩ : ∃ x, w.alloc (.cells #[.slice a rows.length c, .int .i64 added] 27) = x := ⟨_, rfl⟩
  have hb1 : Below w.heap.size w w1 := by rw [← hw1]; exact (Below.refl _ _).alloc (Nat.le_refl _) _
  have hB : SkBox w1 w.heap.size (.slice a rows.length c) (.int .i64 added) := by rw [← hw1]; exact SkBox.new _ _ _
  have hA1 := hA.on hb1
  obtain ⟨b0, b1⟩ := hB.cells
  have HW : Hid (w.alloc (.cells #[.slice a rows.length c, .int .i64 added] 27) = w1) := hw1
  rw [← hw1] at b0 b1
  clear hw1 hB hA
  go_enter Tryd.func50, Tryd.ntmps50
  by_cases h3 : rows.length = 3
  case neg =>
    have hn : ((rows.length : Int) != 3) = true := by simp; omega
    have HF : Hid (okK ⟨rows, added⟩ = false) := by show _ = _; simp [okK, headOkK, h3]
    clear h3
    go_wp2
    go_ret
    exact ⟨by rw [HF.out]; rfl, by rw [HW.out]; exact hb1⟩
  have hn : ((rows.length : Int) != 3) = false := by simp; omega
  have H3 : Hid (rows.length = 3) := h3
  clear h3
  by_cases hin : inN added 0 63 = true
  case neg =>
    have hinf : inN added 0 63 = false := by simpa using hin
    have cI : ∀ wi, Calls Tryd.prog 63 #[.int .i64 added, .int .i64 0, .int .i64 63] wi fun e w' => e = .returned (.bool false) ∧ w' = wi := by intro wi; have := in_any added 0 63 wi; rw [hinf] at this; exact this
    have HF : Hid (okK ⟨rows, added⟩ = false) := by
      have e : decide (0 ≤ added ∧ added ≤ 63) = false := hinf
      show _ = _
      simp only [okK, headOkK, e, Bool.and_false, Bool.false_and]
    clear hin hinf
    go_wp2_with (go_at_call 63; refine (cI _).mono ?_; rintro e w' ⟨rfl, rfl⟩)
    go_ret
    exact ⟨by rw [HF.out]; rfl, by rw [HW.out]; exact hb1⟩
  have cI : ∀ wi, Calls Tryd.prog 63 #[.int .i64 added, .int .i64 0, .int .i64 63] wi fun e w' => e = .returned (.bool true) ∧ w' = wi := by intro wi; have := in_any added 0 63 wi; rw [hin] at this; exact this
  have HH : Hid (headOkK ⟨rows, added⟩ = true) := by
    have e : decide (0 ≤ added ∧ added ≤ 63) = true := hin
    show _ = _
    simp only [headOkK, e, H3.out, decide_true, Bool.and_true]
  clear hin
  go_wp2_with (go_at_call 63; refine (cI _).mono ?_; rintro e w' ⟨rfl, rfl⟩)
  rw [HW.out] at b0 b1 ⊢
  go_loopw [3, 4] (fun i _ wr => Box (∃ (k : Nat), k ≤ rows.length ∧ i = .int .i64 k ∧ Hid (∀ j (hj : j < rows.length), j < k → rowOk rows[j] = true) ∧ w1 = wr))
    (fun i _ _ => rows.length - (intOf i).toNat)
  case atStart => exact ⟨⟨0, by omega, rfl, (fun j hj h => by omega), rfl⟩⟩
  case round =>
    obtain ⟨k, hk, rfl, HP, rfl⟩ := hrel.out
    by_cases hlt : k < rows.length
    · obtain ⟨g, off, ai, ci, rfl, hg, hc, hI⟩ := hA1 k hlt
      have HFK : Hid (rowOk rows[k] = false → okK ⟨rows, added⟩ = false) := okK_false hlt
      have HPK : Hid (rowOk rows[k] = true → ∀ j (hj : j < rows.length), j < k + 1 → rowOk rows[j] = true) := by
        intro h j hj hjk
        by_cases e : j = k
        · subst e; exact h
        · exact HP.out j hj (by omega)
      obtain ⟨r, hr⟩ : ∃ r, rows[k] = r := ⟨_, rfl⟩
      rw [hr] at hc hI HFK HPK
      clear hrel hr cI hn
      have hi1 : (0 : Int) ≤ (k : Int) := by omega
      have hi2 : (k : Int) < (rows.length : Int) := by omega
      by_cases h16 : r.length = 16
      case neg =>
        have hn : ((r.length : Int) != 16) = true := by simp; omega
        have HF : Hid (okK ⟨rows, added⟩ = false) := HFK.out (rowOk_len_false h16)
        clear h16
        go_wp2
        go_ret
        exact ⟨by rw [HF.out]; rfl, hb1⟩
      have hn : ((r.length : Int) != 16) = false := by simp; omega
      have H16 : Hid (r.length = 16) := h16
      have hr16 : r.length ≤ 16 := by omega
      clear h16
      go_wp2
      go_loopw [4] (fun i wr => Box (∃ (q : Nat), q ≤ r.length ∧ i = .int .i64 q ∧ Hid (∀ j (hj : j < r.length), j < q → numOk r[j] = true) ∧ w1 = wr))
        (fun i _ => r.length - (intOf i).toNat)
      case atStart => exact ⟨⟨0, by omega, rfl, (fun j hj h => by omega), rfl⟩⟩
      case round =>
        obtain ⟨q, hq, rfl, HQ, rfl⟩ := hrel.out
        by_cases hlq : q < r.length
        · obtain ⟨g2, off2, rfl, hg2, hc2⟩ := hI q hlq
          have HNF : Hid (numOk r[q] = false → rowOk r = false) := rowOk_num_false hlq
          have HQK : Hid (numOk r[q] = true → ∀ j (hj : j < r.length), j < q + 1 → numOk r[j] = true) := by
            intro h j hj hjk
            by_cases e : j = q
            · subst e; exact h
            · exact HQ.out j hj (by omega)
          obtain ⟨z, hz⟩ : ∃ z, r[q] = z := ⟨_, rfl⟩
          rw [hz] at hc2 HNF HQK
          clear hrel hz
          have hj1 : (0 : Int) ≤ (q : Int) := by omega
          have hj2 : (q : Int) < (r.length : Int) := by omega
          have cN := fun wi => in_any z 0 15 wi
          by_cases hno : inN z 0 15 = true
          · rw [hno] at cN
            have HT : Hid (∀ j (hj : j < r.length), j < q + 1 → numOk r[j] = true) := HQK.out hno
            clear hno
            go_wp2_with (go_at_call 63; refine (cN _).mono ?_; rintro e w' ⟨rfl, rfl⟩)
            go_roundw
            case rel =>
              try ((repeat apply Exists.intro); refine ⟨?_, rfl⟩)
              exact ⟨⟨q + 1, by omega, by go_num, HT, by first | rfl | trivial⟩⟩
            case measure => simp [intOf]; omega
          · have hnof : inN z 0 15 = false := by simpa using hno
            rw [hnof] at cN
            have HF : Hid (okK ⟨rows, added⟩ = false) := HFK.out (HNF.out hnof)
            clear hno hnof
            go_wp2_with (go_at_call 63; refine (cN _).mono ?_; rintro e w' ⟨rfl, rfl⟩)
            go_ret
            exact ⟨by rw [HF.out]; rfl, hb1⟩
        · have HT : Hid (rowOk r = true) := rowOk_true H16.out fun j hj => HQ.out j hj (by omega)
          go_wp2
          refine ⟨⟨⟨k + 1, by omega, by go_num, HPK.out HT.out, trivial⟩⟩, ?_⟩
          simp [intOf]
          omega
    · have HT : Hid (okK ⟨rows, added⟩ = true) := okK_true HH.out fun j hj => HP.out j hj (by omega)
      clear cI
      go_wp2
      go_ret
      exact ⟨by rw [HT.out]; rfl, hb1⟩
end Go.Proofs.YtbcjkinalghokafDoor

namespace Go.Proofs.YtbcjkinalghokafDoor
open Go.RowKit Go.Sort

theorem listOkTo_succ (l : List ByteArray) (k : Nat) : listOkTo l (k + 1) = (listOkTo l k && (keyOk (l.getD k noKey) && !inL (l.take k) (l.getD k noKey))) := by
  unfold listOkTo
  rw [List.range_succ, List.all_append]
  simp
theorem listOkTo_down (l : List ByteArray) {k : Nat} : ∀ n, k ≤ n → listOkTo l k = false → listOkTo l n = false
  | 0, hk, h => by
    have : k = 0 := by omega
    rw [← this]
    exact h
  | n + 1, hk, h => by
    by_cases e : k = n + 1
    · rw [← e]; exact h
    · rw [listOkTo_succ, listOkTo_down l n (by omega) h]; rfl
theorem LAt.take {w : World} {a : Option Addr} {L : List ByteArray} {B : Nat} (h : LAt w a L B) (k : Nat) : LAt w a (L.take k) B := fun j hj => by
  rw [List.length_take] at hj
  obtain ⟨g, off, e, hg, hc⟩ := h j (by omega)
  exact ⟨g, off, e, hg, by rw [List.getElem_take]; exact hc⟩
theorem getD_key {l : List ByteArray} {k : Nat} (h : k < l.length) : l.getD k noKey = l[k] := by
  rw [List.getD_eq_getElem?_getD, List.getElem?_eq_getElem h]; rfl
set_option maxRecDepth 100000 in
set_option maxHeartbeats 4000000 in
theorem specPolicyOk_any (w : World) (aw am ak : Option Addr) (cw cm ck : Nat) (P : Pol) (hA : PolAt w aw am ak P w.heap.size) (hm : P.win.length ≤ 1048576) (hm' : P.main.length ≤ 1048576) (hs : P.sk.rows.length ≤ 1048576) (hz : ∀ z ∈ P.win ++ P.main, z.size ≤ 10000000) :
    Calls Tryd.prog 18 #[.agg #[.slice aw P.win.length cw, .slice am P.main.length cm, .slice ak P.sk.rows.length ck, .int .i64 P.sk.added]] w fun e w' => e = .returned (.bool (okP P)) ∧ Below w.heap.size w w' := by
  obtain ⟨w1, hw1⟩ : ∃ x, w.alloc (.cells #[.slice aw P.win.length cw, .slice am P.main.length cm, .slice ak P.sk.rows.length ck, .int .i64 P.sk.added] 29) = x := ⟨_, rfl⟩
  have hb1 : Below w.heap.size w w1 := by rw [← hw1]; exact (Below.refl _ _).alloc (Nat.le_refl _) _
  have hB : PBox w1 w.heap.size (.slice aw P.win.length cw) (.slice am P.main.length cm) (.slice ak P.sk.rows.length ck) (.int .i64 P.sk.added) := by rw [← hw1]; exact PBox.new _ _ _ _ _
  have hA1 := hA.on hb1
  have HW : Hid (w.alloc (.cells #[.slice aw P.win.length cw, .slice am P.main.length cm, .slice ak P.sk.rows.length ck, .int .i64 P.sk.added] 29) = w1) := hw1
  have HKC : Hid (∀ W, Below w1.heap.size w1 W → W.cell? ⟨w.heap.size, 0, none⟩ = some (.slice aw P.win.length cw) ∧ W.cell? ⟨w.heap.size, 1, none⟩ = some (.slice am P.main.length cm)) := fun W h => ⟨(hB.on h).cells.1, (hB.on h).cells.2.1⟩
  have HSW : Hid ((aw = none → P.win.length = 0) ∧ ∀ W, Below w1.heap.size w1 W → ∀ ad, aw = some ad → ∀ j u, (strs P.win)[j]? = some u → W.cell? (ad.add j) = some u) := ⟨hA1.1.srcS.1, fun W hW => (hA1.1.on hW).srcS.2⟩
  have HSM : Hid ((am = none → P.main.length = 0) ∧ ∀ W, Below w1.heap.size w1 W → ∀ ad, am = some ad → ∀ j u, (strs P.main)[j]? = some u → W.cell? (ad.add j) = some u) := ⟨hA1.2.1.srcS.1, fun W hW => (hA1.2.1.on hW).srcS.2⟩
  have hbE : Below w1.heap.size w1 (w1.alloc (.cells #[] 9)) := (Below.refl _ _).alloc (Nat.le_refl _) _
  have hbEd : Below w1.heap.size w1 (w1.alloc (.cells #[] 9)).drew := hbE.trans ⟨rfl, rfl, rfl, Nat.le_refl _, fun _ _ => rfl⟩
  obtain ⟨d0, d1⟩ := HKC.out w1 (Below.refl _ _)
  obtain ⟨e0, e1⟩ := HKC.out _ hbE
  have n1 := strs_length P.win
  have n2 := strs_length P.main
  obtain ⟨A, hAA⟩ : ∃ A, P.win ++ P.main = A := ⟨_, rfl⟩
  have HA : Hid (P.win ++ P.main = A) := hAA
  have hAl : A.length = P.win.length + P.main.length := by rw [← hAA, List.length_append]
  have hAs : strs P.win ++ strs P.main = strs A := by rw [← hAA, strs_append]
  rw [hAA] at hz
  have HZ : Hid (∀ z ∈ A, z.size ≤ 10000000) := hz
  have HPB : Hid (∀ W, Below w1.heap.size w1 W → PBox W w.heap.size (.slice aw P.win.length cw) (.slice am P.main.length cm) (.slice ak P.sk.rows.length ck) (.int .i64 P.sk.added) ∧ SSAt W ak P.sk.rows W.heap.size ∧ Below w.heap.size w W) := fun W h => ⟨hB.on h, hA1.2.2.on h, hb1.trans (h.mono hb1.size)⟩
  have HOK : Hid (∀ q, listOk A = q → okP P = (q && (decide (P.win.length ≤ 2) && decide (P.main.length ≤ 4) && okK P.sk))) := fun q h => by rw [← h, ← hAA]; rfl
  clear hAA hz
  rw [← hw1] at d0 d1 e0 e1
  clear hw1 hA hB hA1 hb1
  go_enter Tryd.func18, Tryd.ntmps18
  go_wp2
  rw [HW.out] at d0 d1 e0 e1 ⊢
  go_region_law (first
    | (refine step_allI rfl (.tmp 5) (.tmp 7) 24 rfl 9 Tryd.underlying24 (.string ⟨#[]⟩) 1 16 Tryd.infoSK rfl (by omega) (by omega) w1.heap.size rfl (by exact heap_alloc_new _ _) aw P.win.length cw (strs P.win) rfl (by rw [n1]; omega) HSW.out.1 (HSW.out.2 _ hbEd) (strs_one _) hm ?_; rintro g4 c4 w4 o4 b4 n4 k4; have hb4 : Below w1.heap.size w1 w4 := hbEd.trans b4; have hu4 := ownV_of_rowS o4; have f1 := (HKC.out _ hb4).2; clear o4 b4 n4 k4)
    | (refine step_plusO rfl (.tmp 8) (.tmp 10) 24 rfl w1.heap.size 9 Tryd.underlying24 (.string ⟨#[]⟩) 16 Tryd.infoSK rfl (by omega) g4 P.win.length c4 (strs P.win) rfl hu4 n1.symm (by omega) hb4.size am P.main.length cm (strs P.main) rfl n2 HSM.out.1 (HSM.out.2 _ hb4) (strs_one _) (by omega) ?_; rintro g5 c5 w5 o5 gr5; have hb5 : Below w1.heap.size w1 w5 := hb4.grown gr5 hb4.size (fun k e => by cases e; exact (hu4.lt _ rfl).1)))
  all_goals (
    rw [hAs] at o5
    obtain ⟨a5, cc, ev, hL5⟩ := o5.strsAt
    have hcap : A.length ≤ c5 := by
      rcases o5.2 with ⟨e1, _⟩ | ⟨g, cp, cur, e1, _, _, hle, _⟩
      · cases e1
      · simp only [Value.slice.injEq] at e1
        rw [strs_length] at e1 hle
        omega
    simp only [Value.slice.injEq] at ev
    obtain ⟨rfl, ev1, rfl⟩ := ev
    have hAL : A.length ≤ 10000000 := by omega
    rw [ev1]
    clear ev1 o5 hAs gr5 hu4 hb4 f1 d0 d1 e0 e1 hbE hbEd HSW HSM HKC n1 n2
    go_wp2
    go_loopw [4] (fun i wr => Box (∃ (k : Nat), k ≤ A.length ∧ i = .int .i64 k ∧ Hid (listOkTo A k = true) ∧ LAt wr (some ⟨g5, 0, none⟩) A wr.heap.size ∧ Below w1.heap.size w1 wr))
      (fun i _ => A.length - (intOf i).toNat)
    case atStart => exact ⟨⟨0, by omega, rfl, rfl, hL5, hb5⟩⟩
    case round =>
      obtain ⟨k, hk, rfl, HP, hL, hbr⟩ := hrel.out
      have HBR := HPB.out wr hbr
      by_cases hlt : k < A.length
      · obtain ⟨g', off', ee, hg', hc⟩ := hL k hlt
        simp only [Option.some.injEq, Addr.mk.injEq, and_true] at ee
        obtain ⟨rfl, rfl⟩ := ee
        rw [Nat.zero_add] at hc
        obtain ⟨z, hzz⟩ : ∃ z, A[k] = z := ⟨_, rfl⟩
        have HX : Hid (listOkTo A (k + 1) = (keyOk z && !inL (A.take k) z)) := by show _ = _; rw [listOkTo_succ, HP.out, getD_key hlt, hzz, Bool.true_and]
        have hzs : z.size ≤ 10000000 := HZ.out z (by rw [← hzz]; exact List.getElem_mem hlt)
        have HDN : Hid (listOkTo A (k + 1) = false → okP P = false) := fun h => by rw [HOK.out false (listOkTo_down A A.length (by omega) h)]; rfl
        rw [hzz] at hc
        have kc := cell_regrown hc
        have htk : (A.take k).length = k := by rw [List.length_take]; omega
        have cK : ∀ d os, Calls Tryd.prog 33 #[.string z] (grow (redrawn wr d) os) fun e w'' => e = .returned (.bool (keyOk z)) ∧ ∃ p : Regrown, w'' = grow (redrawn wr p.d) p.os := fun d os => Calls.regrown_of ((l13Key_any (grow (redrawn wr d) os) z hzs).mono (by rintro e w'' ⟨rfl, rfl⟩; exact ⟨rfl, Below.refl _ _⟩))
        have cI : ∀ d os, Calls Tryd.prog 35 #[.slice (some ⟨g5, 0, none⟩) k c5, .string z] (grow (redrawn wr d) os) fun e w'' => e = .returned (.bool (inL (A.take k) z)) ∧ ∃ p : Regrown, w'' = grow (redrawn wr p.d) p.os := fun d os => Calls.regrown_of (by
          have c := l13In_any (grow (redrawn wr d) os) (some ⟨g5, 0, none⟩) c5 (A.take k) z ((hL.on (below_regrown wr d os)).take k) (by omega)
          rw [htk] at c
          exact c.mono (by rintro e w'' ⟨rfl, rfl⟩; exact ⟨rfl, Below.refl _ _⟩))
        have HL : Hid (LAt wr (some ⟨g5, 0, none⟩) A wr.heap.size ∧ Below w1.heap.size w1 wr) := ⟨hL, hbr⟩
        clear hrel hL hbr hL5 hb5 hzz htk hg' HP
        have hi1 : (0 : Int) ≤ (k : Int) := by omega
        have hi2 : (k : Int) < (A.length : Int) := by omega
        have hi3 : (k : Int) ≤ (c5 : Int) := by omega
        cases hA1 : keyOk z with
        | false =>
          have HF : Hid (okP P = false) := HDN.out (by rw [HX.out, hA1]; rfl)
          rw [hA1] at cK
          clear hA1 cI
          go_wp2_with fail
          refine wp_region_quiet_below (by kernel_rfl) (by kernel_rfl) ?_
          repeat (first | go_big_quiet_step (exact cK _ _) | quiet_step (exact cK _ _))
          refine wpQuiet_nil ?_
          intro _ hw'
          obtain ⟨⟨dq, osq⟩, hw''⟩ := hw'
          subst hw''
          go_wp2_with fail
          go_ret
          exact ⟨by rw [HF.out]; rfl, HBR.2.2.trans ((below_regrown wr dq osq).mono HBR.2.2.size)⟩
        | true =>
          rw [hA1] at cK
          cases hA2 : inL (A.take k) z with
          | true =>
            have HF : Hid (okP P = false) := HDN.out (by rw [HX.out, hA1, hA2]; rfl)
            rw [hA2] at cI
            clear hA1 hA2
            go_wp2_with fail
            refine wp_region_quiet_below (by kernel_rfl) (by kernel_rfl) ?_
            repeat (first | go_big_quiet_step (first | with_reducible exact cK _ _ | with_reducible exact cI _ _) | quiet_step (first | with_reducible exact cK _ _ | with_reducible exact cI _ _))
            refine wpQuiet_nil ?_
            intro _ hw'
            obtain ⟨⟨dq, osq⟩, hw''⟩ := hw'
            subst hw''
            go_wp2_with fail
            go_ret
            exact ⟨by rw [HF.out]; rfl, HBR.2.2.trans ((below_regrown wr dq osq).mono HBR.2.2.size)⟩
          | false =>
            have HT : Hid (listOkTo A (k + 1) = true) := by show _ = _; rw [HX.out, hA1, hA2]; rfl
            rw [hA2] at cI
            clear hA1 hA2
            go_wp2_with fail
            refine wp_region_quiet_below (by kernel_rfl) (by kernel_rfl) ?_
            repeat (first | go_big_quiet_step (first | with_reducible exact cK _ _ | with_reducible exact cI _ _) | quiet_step (first | with_reducible exact cK _ _ | with_reducible exact cI _ _))
            refine wpQuiet_nil ?_
            intro _ hw'
            obtain ⟨⟨dq, osq⟩, hw''⟩ := hw'
            subst hw''
            go_wp2_with fail
            go_roundw
            case rel =>
              try ((repeat apply Exists.intro); refine ⟨?_, rfl⟩)
              exact ⟨⟨k + 1, by omega, by go_num, HT, HL.out.1.on (below_regrown wr dq osq), HL.out.2.trans ((below_regrown wr dq osq).mono HL.out.2.size)⟩⟩
            case measure => simp [intOf]; omega
      · have hke : k = A.length := by omega
        have HT : Hid (okP P = (decide (P.win.length ≤ 2) && decide (P.main.length ≤ 4) && okK P.sk)) := by
          show _ = _
          rw [HOK.out true (by show listOkTo A A.length = true; rw [← hke]; exact HP.out), Bool.true_and]
        obtain ⟨hBr, hSr, hbw⟩ := HBR
        obtain ⟨b0, b1, b2, b3⟩ := hBr.cells
        have cO := specSketchOk_any wr ak ck P.sk hSr hs
        clear hrel hL hbr hL5 hb5 HP hBr hSr
        by_cases h2 : P.win.length ≤ 2
        case neg =>
          have h2' : ¬ ((P.win.length : Int) ≤ 2) := by omega
          rw [decide_eq_false h2] at HT
          clear h2 cO
          go_wp2_with fail
          go_ret
          exact ⟨by rw [HT.out]; rfl, hbw⟩
        have h2' : ((P.win.length : Int) ≤ 2) := by omega
        rw [decide_eq_true h2] at HT
        by_cases h4 : P.main.length ≤ 4
        case neg =>
          have h4' : ¬ ((P.main.length : Int) ≤ 4) := by omega
          rw [decide_eq_false h4] at HT
          clear h2 h4 cO
          go_wp2_with fail
          go_ret
          exact ⟨by rw [HT.out]; rfl, hbw⟩
        have h4' : ((P.main.length : Int) ≤ 4) := by omega
        rw [decide_eq_true h4] at HT
        clear h2 h4
        generalize okK P.sk = q at cO HT
        go_wp2_with fail
        refine cO.mono ?_
        rintro e w' ⟨rfl, hbo⟩
        go_wp2_with fail
        go_ret
        exact ⟨by rw [HT.out]; simp, hbw.trans (hbo.mono hbw.size)⟩)
end Go.Proofs.YtbcjkinalghokafDoor
