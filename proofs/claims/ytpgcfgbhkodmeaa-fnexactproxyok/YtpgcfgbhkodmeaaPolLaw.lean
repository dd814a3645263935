/- What a law does with policies: it copies them, compares them, marks them. -/
import Derived.Test.YtpgcfgbhkodmeaaStrsJ
import Derived.Test.YtpgcfgbhkodmeaaSkLaw3J
import Derived.Test.YtpgcfgbhkodmeaaMarkTextJ
namespace Go.Proofs.Ytpgcfgbhkodmeaa
open Go.RowKit Go.Sort

/-- How much a policy holds. -/
def wgtP (P : Pol) : Nat := P.win.length + wgtL P.win + (P.main.length + wgtL P.main) + (P.sk.rows.length + tot P.sk.rows P.sk.rows.length)
def PolSz (P : Pol) : Prop := wgtP P ≤ 1048576
theorem PolSz.parts {P : Pol} (h : PolSz P) : P.win.length ≤ 1048576 ∧ P.main.length ≤ 1048576 ∧ SkSz P.sk := by
  unfold PolSz wgtP at h
  refine ⟨by omega, by omega, ?_⟩
  unfold SkSz
  omega
set_option maxHeartbeats 1000000 in
theorem szIntSS_left (w : World) (a : Option Addr) (cap : Nat) (LL : List (List Int)) (left : Int) (hl0 : 0 ≤ left) (hl1 : left ≤ 1048576) (hA : SSAt w a LL w.heap.size) (hm : LL.length ≤ maxLen) (hr : ∀ j (hj : j < LL.length), LL[j].length ≤ maxLen) :
    Calls Try.prog 87 #[.slice a LL.length cap, .int .i64 left] w fun e w' => ∃ r : Int, e = .returned (.int .i64 r) ∧ (r = -1 ∨ 0 ≤ r ∧ r + ((LL.length + tot LL LL.length : Nat) : Int) = left) ∧ w' = w := by
  unfold maxLen at hm
  by_cases hN : left - LL.length < 0
  · go_enter Try.func87, Try.ntmps87
    go_wp2
    go_ret
    exact ⟨_, rfl, .inl rfl, rfl⟩
  · go_enter Try.func87, Try.ntmps87
    go_wp2
    go_loopw [1, 5] (fun n i wr => Box (∃ (j : Nat) (r : Int), j ≤ LL.length ∧ i = .int .i64 j ∧ n = .int .i64 r ∧ 0 ≤ r ∧ r ≤ 1048576 ∧ Hid (r + ((LL.length + tot LL j : Nat) : Int) = left) ∧ w = wr))
      (fun _ i _ => LL.length - (intOf i).toNat)
    case atStart => exact ⟨⟨0, left - LL.length, by omega, rfl, rfl, by omega, by omega, (by show _ = _; rw [tot_zero]; omega), rfl⟩⟩
    case round =>
      obtain ⟨j, r, hj, rfl, rfl, hr0, hr1, HR, rfl⟩ := hrel.out
      by_cases hlt : j < LL.length
      · obtain ⟨g, off, ai, ci, rfl, hg, hc, _⟩ := hA j hlt
        have c := szIntS_sk w ai ci LL[j].length r hr0 hr1 (hr j hlt)
        have HS := tot_succ LL j hlt
        obtain ⟨m, hm1⟩ : ∃ m, LL[j].length = m := ⟨_, rfl⟩
        rw [hm1] at c hc HS
        have HT : Hid (tot LL (j + 1) = tot LL j + m) := HS
        clear hrel hm1 HS
        have hi1 : (0 : Int) ≤ (j : Int) := by omega
        have hi2 : (j : Int) < (LL.length : Int) := by omega
        go_wp2_with fail
        refine c.mono ?_
        rintro e w2 ⟨q, rfl, hq, rfl⟩
        rcases hq with rfl | ⟨hq0, hq1⟩
        · go_wp2_with fail
          go_ret
          exact ⟨_, rfl, .inl rfl, rfl⟩
        · have hq2 : ¬ q < 0 := by omega
          have HQ : Hid (q + (m : Int) = r) := hq1
          have hq3 : q ≤ 1048576 := by omega
          clear hq1
          go_wp2_with fail
          go_roundw
          case rel =>
            try ((repeat apply Exists.intro); refine ⟨?_, rfl⟩)
            exact ⟨⟨j + 1, q, by omega, by go_num, rfl, hq0, hq3, (by show _ = _; have := HR.out; have := HQ.out; have := HT.out; omega), by first | rfl | trivial⟩⟩
          case measure => simp [intOf]; omega
      · go_wp2_with fail
        go_ret
        have hje : j = LL.length := by omega
        subst hje
        exact ⟨_, rfl, .inr ⟨hr0, HR.out⟩, rfl⟩
set_option maxHeartbeats 1000000 in
theorem szSketch_left (w : World) (a : Option Addr) (c : Nat) (S : Sk) (left : Int) (hl0 : 0 ≤ left) (hl1 : left ≤ 1048576) (hA : SSAt w a S.rows w.heap.size) (hm : S.rows.length ≤ maxLen) (hr : ∀ j (hj : j < S.rows.length), S.rows[j].length ≤ maxLen) :
    Calls Try.prog 55 #[.agg #[.slice a S.rows.length c, .int .i64 S.added], .int .i64 left] w fun e w' => ∃ r : Int, e = .returned (.int .i64 r) ∧ (r = -1 ∨ 0 ≤ r ∧ r + ((S.rows.length + tot S.rows S.rows.length : Nat) : Int) = left) ∧ Below w.heap.size w w' := by
  obtain ⟨w1, hw1⟩ : ∃ x, w.alloc (.cells #[.slice a S.rows.length c, .int .i64 S.added] 26) = x := ⟨_, rfl⟩
  have hb1 : Below w.heap.size w w1 := by rw [← hw1]; exact (Below.refl _ _).alloc (Nat.le_refl _) _
  have hB : KBox w1 w.heap.size (.slice a S.rows.length c) (.int .i64 S.added) := by rw [← hw1]; exact KBox.new _ _ _
  obtain ⟨b0, b1⟩ := hB.cells
  have c1 := szIntSS_left w1 a c S.rows left hl0 hl1 (hA.on hb1) hm hr
  have HW : Hid (w.alloc (.cells #[.slice a S.rows.length c, .int .i64 S.added] 26) = w1) := hw1
  rw [← hw1] at b0 b1
  clear hw1 hB
  go_enter Try.func55, Try.ntmps55
  go_wp2_with fail
  rw [HW.out] at b0 b1 ⊢
  refine c1.mono ?_
  rintro e w2 ⟨r, rfl, hr, rfl⟩
  clear c1
  rcases hr with rfl | ⟨hr0, hr1⟩
  · go_wp2_with fail
    go_ret
    exact ⟨_, rfl, .inl rfl, hb1⟩
  · have hr2 : ¬ r < 0 := by omega
    have HR : Hid (r + ((S.rows.length + tot S.rows S.rows.length : Nat) : Int) = left) := hr1
    clear hr1
    go_wp2_with fail
    go_ret
    exact ⟨_, rfl, .inr ⟨hr0, HR.out⟩, hb1⟩
/-- A policy of a law, in its variable. -/
def QBox (w : World) (T : Nat) (a b c d : Value) : Prop := w.heap[T]? = some (.cells #[a, b, c, d] 28 (0, 0))
theorem QBox.lt {w : World} {T : Nat} {a b c d : Value} (h : QBox w T a b c d) : T < w.heap.size := (Array.getElem?_eq_some_iff.1 h).1
theorem QBox.new (w : World) (a b c d : Value) : QBox (w.alloc (.cells #[a, b, c, d] 28)) w.heap.size a b c d := heap_alloc_new w _
theorem QBox.kept {w w' : World} {T : Nat} {a b c d : Value} (h : QBox w T a b c d) (hk : w'.heap[T]? = w.heap[T]?) : QBox w' T a b c d := hk.trans h
theorem QBox.on {w w' : World} {T : Nat} {a b c d : Value} (h : QBox w T a b c d) (hb : Below w.heap.size w w') : QBox w' T a b c d := h.kept (hb.block T h.lt)
theorem QBox.cells {w : World} {T : Nat} {a b c d : Value} (h : QBox w T a b c d) : w.cell? ⟨T, 0, none⟩ = some a ∧ w.cell? ⟨T, 1, none⟩ = some b ∧ w.cell? ⟨T, 2, none⟩ = some c ∧ w.cell? ⟨T, 3, none⟩ = some d := by
  unfold QBox at h
  refine ⟨?_, ?_, ?_, ?_⟩
  · rw [cell_of_row w T 0 _ _ (0, 0) h]; rfl
  · rw [cell_of_row w T 1 _ _ (0, 0) h]; rfl
  · rw [cell_of_row w T 2 _ _ (0, 0) h]; rfl
  · rw [cell_of_row w T 3 _ _ (0, 0) h]; rfl
set_option maxHeartbeats 2000000 in
theorem szPolicy_any (w : World) (aw am ak : Option Addr) (cw cm ck : Nat) (P : Pol) (hA : PolAt w aw am ak P w.heap.size) (hm : P.win.length ≤ maxLen) (hm' : P.main.length ≤ maxLen) (hz : ∀ j (hj : j < P.win.length), P.win[j].size ≤ maxLen) (hz' : ∀ j (hj : j < P.main.length), P.main[j].size ≤ maxLen) (hs : P.sk.rows.length ≤ maxLen) (hs' : ∀ j (hj : j < P.sk.rows.length), P.sk.rows[j].length ≤ maxLen) :
    Calls Try.prog 22 #[.agg #[.slice aw P.win.length cw, .slice am P.main.length cm, .slice ak P.sk.rows.length ck, .int .i64 P.sk.added], .int .i64 1048576] w fun e w' => ∃ r : Int, e = .returned (.int .i64 r) ∧ (r = -1 ∨ 0 ≤ r ∧ PolSz P) ∧ Below w.heap.size w w' := by
  obtain ⟨w1, hw1⟩ : ∃ x, w.alloc (.cells #[.slice aw P.win.length cw, .slice am P.main.length cm, .slice ak P.sk.rows.length ck, .int .i64 P.sk.added] 28) = x := ⟨_, rfl⟩
  have hb1 : Below w.heap.size w w1 := by rw [← hw1]; exact (Below.refl _ _).alloc (Nat.le_refl _) _
  have hB : QBox w1 w.heap.size (.slice aw P.win.length cw) (.slice am P.main.length cm) (.slice ak P.sk.rows.length ck) (.int .i64 P.sk.added) := by rw [← hw1]; exact QBox.new _ _ _ _ _
  have hA1 := hA.on hb1
  obtain ⟨b0, b1, b2, b3⟩ := hB.cells
  have c1 := szStringS_any w1 aw cw P.win 1048576 (by omega) (by omega) hA1.1 hm hz
  have HW : Hid (w.alloc (.cells #[.slice aw P.win.length cw, .slice am P.main.length cm, .slice ak P.sk.rows.length ck, .int .i64 P.sk.added] 28) = w1) := hw1
  rw [← hw1] at b0 b1 b2 b3
  clear hw1 hB hA
  go_enter Try.func22, Try.ntmps22
  go_wp2_with fail
  rw [HW.out] at b0 b1 b2 b3 ⊢
  refine c1.mono ?_
  rintro e w2 ⟨r, rfl, hr, rfl⟩
  clear c1
  rcases hr with rfl | ⟨hr0, hr1⟩
  · go_wp2_with fail
    go_ret
    exact ⟨_, rfl, .inl rfl, hb1⟩
  have hr2 : ¬ r < 0 := by omega
  have c2 := szStringS_any w2 am cm P.main r hr0 (by omega) hA1.2.1 hm' hz'
  have HR : Hid (r + (P.win.length : Int) + (wgtL P.win : Int) = 1048576) := hr1
  have hr3 : r ≤ 1048576 := by omega
  clear hr1
  go_wp2_with fail
  refine c2.mono ?_
  rintro e w3 ⟨q, rfl, hq, rfl⟩
  clear c2
  rcases hq with rfl | ⟨hq0, hq1⟩
  · go_wp2_with fail
    go_ret
    exact ⟨_, rfl, .inl rfl, hb1⟩
  have hq2 : ¬ q < 0 := by omega
  have c3 := szSketch_left w3 ak ck P.sk q hq0 (by omega) hA1.2.2 hs hs'
  have HQ : Hid (q + (P.main.length : Int) + (wgtL P.main : Int) = r) := hq1
  clear hq1
  go_wp2_with fail
  refine c3.mono ?_
  rintro e w4 ⟨u, rfl, hu, hb4⟩
  clear c3
  have hbw4 := hb1.trans (hb4.mono hb1.size)
  rcases hu with rfl | ⟨hu0, hu1⟩
  · go_wp2_with fail
    go_ret
    exact ⟨_, rfl, .inl rfl, hbw4⟩
  have hu2 : ¬ u < 0 := by omega
  have HU : Hid (PolSz P) := by
    show _ ≤ _
    unfold wgtP
    have := HR.out
    have := HQ.out
    omega
  clear hu1
  go_wp2_with fail
  go_ret
  exact ⟨_, rfl, .inr ⟨hu0, HU.out⟩, hbw4⟩
set_option maxHeartbeats 2000000 in
theorem eqPolicy_same (w : World) (aw am ak bw bm bk : Option Addr) (cw cm ck dw dm dk : Nat) (P : Pol) (hA : PolAt w aw am ak P w.heap.size) (hB : PolAt w bw bm bk P w.heap.size) (hsz : PolSz P) :
    Calls Try.prog 31 #[.agg #[.slice aw P.win.length cw, .slice am P.main.length cm, .slice ak P.sk.rows.length ck, .int .i64 P.sk.added], .agg #[.slice bw P.win.length dw, .slice bm P.main.length dm, .slice bk P.sk.rows.length dk, .int .i64 P.sk.added]] w fun e w' => e = .returned (.bool true) ∧ Below w.heap.size w w' := by
  obtain ⟨l1, l2, l3⟩ := hsz.parts
  obtain ⟨w0, hw0⟩ : ∃ x, w.alloc (.cells #[.slice aw P.win.length cw, .slice am P.main.length cm, .slice ak P.sk.rows.length ck, .int .i64 P.sk.added] 38) = x := ⟨_, rfl⟩
  obtain ⟨w1, hw1⟩ : ∃ x, w0.alloc (.cells #[.slice bw P.win.length dw, .slice bm P.main.length dm, .slice bk P.sk.rows.length dk, .int .i64 P.sk.added] 38) = x := ⟨_, rfl⟩
  have hb0 : Below w.heap.size w w0 := by rw [← hw0]; exact (Below.refl _ _).alloc (Nat.le_refl _) _
  have hb1 : Below w0.heap.size w0 w1 := by rw [← hw1]; exact (Below.refl _ _).alloc (Nat.le_refl _) _
  have s0 : w0.heap.size = w.heap.size + 1 := by rw [← hw0]; simp
  have hX : PBox w1 w.heap.size (.slice aw P.win.length cw) (.slice am P.main.length cm) (.slice ak P.sk.rows.length ck) (.int .i64 P.sk.added) := by
    have h : PBox w0 w.heap.size (.slice aw P.win.length cw) (.slice am P.main.length cm) (.slice ak P.sk.rows.length ck) (.int .i64 P.sk.added) := by rw [← hw0]; exact PBox.new _ _ _ _ _
    exact h.on hb1
  have hY : PBox w1 (w.heap.size + 1) (.slice bw P.win.length dw) (.slice bm P.main.length dm) (.slice bk P.sk.rows.length dk) (.int .i64 P.sk.added) := by rw [← hw1, ← s0]; exact PBox.new _ _ _ _ _
  have hbw : Below w.heap.size w w1 := hb0.trans (hb1.mono hb0.size)
  obtain ⟨x0, x1, x2, x3⟩ := hX.cells
  obtain ⟨y0, y1, y2, y3⟩ := hY.cells
  have HW : Hid ((w.alloc (.cells #[.slice aw P.win.length cw, .slice am P.main.length cm, .slice ak P.sk.rows.length ck, .int .i64 P.sk.added] 38)).alloc (.cells #[.slice bw P.win.length dw, .slice bm P.main.length dm, .slice bk P.sk.rows.length dk, .int .i64 P.sk.added] 38) = w1) := by rw [hw0]; exact hw1
  have hA1 := hA.on hbw
  have hB1 := hB.on hbw
  have e1 := eqStringS_same w1 aw bw cw dw P.win hA1.1 hB1.1 l1
  rw [← hw1, ← hw0] at x0 x1 x2 x3 y0 y1 y2 y3
  clear hw0 hw1 s0 hb0 hb1 hA hB
  go_enter Try.func31, Try.ntmps31
  go_wp2_with fail
  rw [HW.out] at x0 x1 x2 x3 y0 y1 y2 y3 ⊢
  refine e1.mono ?_
  rintro e w2 ⟨rfl, hb2⟩
  clear e1 x0 x1 x2 x3 y0 y1 y2 y3
  have hbw2 := hbw.trans (hb2.mono hbw.size)
  have hX2 := hX.on hb2
  have hY2 := hY.on hb2
  obtain ⟨x0, x1, x2, x3⟩ := hX2.cells
  obtain ⟨y0, y1, y2, y3⟩ := hY2.cells
  have e2 := eqStringS_same w2 am bm cm dm P.main (hA1.2.1.on hb2) (hB1.2.1.on hb2) l2
  go_wp2_with fail
  refine e2.mono ?_
  rintro e w3 ⟨rfl, hb3⟩
  clear e2 x0 x1 x2 x3 y0 y1 y2 y3
  have hbw3 := hbw2.trans (hb3.mono hbw2.size)
  obtain ⟨x0, x1, x2, x3⟩ := (hX2.on hb3).cells
  obtain ⟨y0, y1, y2, y3⟩ := (hY2.on hb3).cells
  have e3 := eqSketch_same w3 ak bk ck dk P.sk ((hA1.2.2.on hb2).on hb3) ((hB1.2.2.on hb2).on hb3) l3
  go_wp2_with fail
  refine e3.mono ?_
  rintro e w4 ⟨rfl, hb4⟩
  go_wp2_with fail
  go_ret
  exact ⟨rfl, hbw3.trans (hb4.mono hbw3.size)⟩
end Go.Proofs.Ytpgcfgbhkodmeaa
