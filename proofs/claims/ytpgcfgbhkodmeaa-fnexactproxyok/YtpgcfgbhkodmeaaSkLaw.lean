/- What a law does with rows of rows of numbers: it copies them, compares them, marks them. -/
import Derived.Test.YtpgcfgbhkodmeaaSkKit
import Derived.Test.YtpgcfgbhkodmeaaStrsJ
import Derived.Lib.QuietBelow
import Derived.BigQuiet
namespace Go.Proofs.Ytpgcfgbhkodmeaa
open Go.RowKit Go.Sort

/-- How many numbers the first j rows have. -/
def tot (LL : List (List Int)) (j : Nat) : Nat := ((LL.take j).map List.length).sum
theorem tot_zero (LL : List (List Int)) : tot LL 0 = 0 := by simp [tot]
theorem tot_succ (LL : List (List Int)) (j : Nat) (hj : j < LL.length) : tot LL (j + 1) = tot LL j + LL[j].length := by
  unfold tot
  rw [List.take_succ_eq_append_getElem hj, List.map_append, List.sum_append]
  simp only [List.map_cons, List.map_nil, List.sum_cons, List.sum_nil, Nat.add_zero]
theorem tot_mono (LL : List (List Int)) (j : Nat) : ∀ n, j ≤ n → n ≤ LL.length → tot LL j ≤ tot LL n
  | 0, h, _ => by rw [show j = 0 by omega]; exact Nat.le_refl _
  | n + 1, h, hn => by
    by_cases e : j = n + 1
    · rw [e]; exact Nat.le_refl _
    · have := tot_mono LL j n (by omega) (by omega)
      rw [tot_succ LL n (by omega)]
      omega
theorem tot_at (LL : List (List Int)) (j : Nat) (hj : j < LL.length) : tot LL j + LL[j].length ≤ tot LL LL.length := by
  rw [← tot_succ LL j hj]
  exact tot_mono LL (j + 1) _ (by omega) (Nat.le_refl _)
theorem tot_same {LL MM : List (List Int)} (h : LL.map List.length = MM.map List.length) (j : Nat) : tot LL j = tot MM j := by
  unfold tot
  rw [List.map_take, List.map_take, h]
theorem fill_set {α : Type} (LL : List α) (z : α) (k : Nat) (hk : k < LL.length) : (LL.take k ++ List.replicate (LL.length - k) z).set k LL[k] = LL.take (k + 1) ++ List.replicate (LL.length - (k + 1)) z := by
  rw [List.set_append_right _ _ (by rw [List.length_take]; omega), List.length_take, show k - min k LL.length = 0 by omega, show LL.length - k = (LL.length - (k + 1)) + 1 by omega, List.replicate_succ, List.set_cons_zero, List.take_succ_eq_append_getElem hk, List.append_assoc]
  rfl
theorem Try.infoIntS : (Try.prog.info? 49).map (fun i => (i.zero, i.size, i.bytes)) = some (some (.slice none 0 0), 1, 24) := by kernel_rfl
/-- Rows that are made and hold nothing yet. -/
theorem OwnSS.made {w : World} {lo n : Nat} {v : Value} (h : OwnV w lo 49 v (List.replicate n (.slice none 0 0))) : OwnSS w lo w.heap.size v (List.replicate n []) := by
  refine ⟨_, h, fun k hk => (h.lt k hk).2, by simp, fun i u l hu hl => ?_, fun i j u u' k hu hu' h1 => ?_⟩
  · obtain ⟨_, rfl⟩ := List.getElem?_eq_some_iff.1 hu
    obtain ⟨_, rfl⟩ := List.getElem?_eq_some_iff.1 hl
    simp only [List.getElem_replicate]
    exact ⟨OwnV.nil _ _ _, fun k hk => by simp [Value.ownBlock] at hk⟩
  · obtain ⟨_, rfl⟩ := List.getElem?_eq_some_iff.1 hu
    simp [Value.ownBlock] at h1

theorem szIntS_sk (w : World) (a : Option Addr) (cap n : Nat) (left : Int) (h0 : 0 ≤ left) (h1 : left ≤ 1048576) (hm : n ≤ maxLen) :
    Calls Try.prog 35 #[.slice a n cap, .int .i64 left] w fun e w' => ∃ r : Int, e = .returned (.int .i64 r) ∧ (r = -1 ∨ 0 ≤ r ∧ r + (n : Int) = left) ∧ w' = w := by
  unfold maxLen at hm
  by_cases hA : left - n < 0
  · go_enter Try.func35, Try.ntmps35
    go_wp2
    go_ret
    exact ⟨_, rfl, .inl rfl, rfl⟩
  · go_enter Try.func35, Try.ntmps35
    go_wp2
    go_ret
    exact ⟨_, rfl, .inr ⟨by omega, by omega⟩, rfl⟩
set_option maxHeartbeats 1000000 in
theorem szIntSS_any (w : World) (a : Option Addr) (cap : Nat) (LL : List (List Int)) (hA : SSAt w a LL w.heap.size) (hm : LL.length ≤ maxLen) (hr : ∀ j (hj : j < LL.length), LL[j].length ≤ maxLen) :
    Calls Try.prog 87 #[.slice a LL.length cap, .int .i64 1048576] w fun e w' => ∃ r : Int, e = .returned (.int .i64 r) ∧ (r = -1 ∨ 0 ≤ r ∧ r + ((LL.length + tot LL LL.length : Nat) : Int) = 1048576) ∧ w' = w := by
  unfold maxLen at hm
  by_cases hN : (1048576 : Int) - LL.length < 0
  · go_enter Try.func87, Try.ntmps87
    go_wp2
    go_ret
    exact ⟨_, rfl, .inl rfl, rfl⟩
  · go_enter Try.func87, Try.ntmps87
    go_wp2
    go_loopw [1, 5] (fun n i wr => Box (∃ (j : Nat) (r : Int), j ≤ LL.length ∧ i = .int .i64 j ∧ n = .int .i64 r ∧ 0 ≤ r ∧ r ≤ 1048576 ∧ Hid (r + ((LL.length + tot LL j : Nat) : Int) = 1048576) ∧ w = wr))
      (fun _ i _ => LL.length - (intOf i).toNat)
    case atStart => exact ⟨⟨0, 1048576 - LL.length, by omega, rfl, rfl, by omega, by omega, (by show _ = _; rw [tot_zero]; omega), rfl⟩⟩
    case round =>
      obtain ⟨j, r, hj, rfl, rfl, hr0, hr1, HR, rfl⟩ := hrel.out
      by_cases hlt : j < LL.length
      · obtain ⟨g, off, ai, ci, rfl, hg, hc, _⟩ := hA j hlt
        have c := szIntS_sk w ai ci LL[j].length r hr0 hr1 (hr j hlt)
        have HS := tot_succ LL j hlt
        obtain ⟨m, hm1⟩ : ∃ m, LL[j].length = m := ⟨_, rfl⟩
        rw [hm1] at c hc HS
        have HT : Hid (tot LL (j + 1) = tot LL j + m) := HS
        clear hrel hm1 HS
        have hi1 : (0 : Int) ≤ (j : Int) := by omega
        have hi2 : (j : Int) < (LL.length : Int) := by omega
        go_wp2_with fail
        refine c.mono ?_
        rintro e w2 ⟨q, rfl, hq, rfl⟩
        rcases hq with rfl | ⟨hq0, hq1⟩
        · go_wp2_with fail
          go_ret
          exact ⟨_, rfl, .inl rfl, rfl⟩
        · have hq2 : ¬ q < 0 := by omega
          have HQ : Hid (q + (m : Int) = r) := hq1
          have hq3 : q ≤ 1048576 := by omega
          clear hq1
          go_wp2_with fail
          go_roundw
          case rel =>
            try ((repeat apply Exists.intro); refine ⟨?_, rfl⟩)
            exact ⟨⟨j + 1, q, by omega, by go_num, rfl, hq0, hq3, (by show _ = _; have := HR.out; have := HQ.out; have := HT.out; omega), by first | rfl | trivial⟩⟩
          case measure => simp [intOf]; omega
      · go_wp2_with fail
        go_ret
        have hje : j = LL.length := by omega
        subst hje
        exact ⟨_, rfl, .inr ⟨hr0, HR.out⟩, rfl⟩

set_option maxHeartbeats 2000000 in
theorem toIntSS_any (w : World) (a : Option Addr) (cap : Nat) (LL : List (List Int)) (hA : SSAt w a LL w.heap.size) (hm : LL.length + tot LL LL.length ≤ 1048576) :
    Calls Try.prog 88 #[.slice a LL.length cap] w fun e w' => ∃ v, e = .returned v ∧ OwnSS w' w.heap.size w'.heap.size v LL ∧ Below w.heap.size w w' := by
  obtain ⟨i0, hi, hz0, hz1, hz2⟩ := info_parts Try.infoIntS
  obtain ⟨w0, hmk, hown0, hgr0⟩ := run_make_full (P := Try.prog) w w.heap.size 24 49 i0 (.slice none 0 0) 1 Try.underlying24 hi hz0 hz1 .i64 .i64 LL.length (by rw [hz2]; omega) (by unfold maxLen; omega) (Nat.le_refl _)
  have hb0 : Below w.heap.size w w0 := ⟨hgr0.os, hgr0.tape, hgr0.output, hgr0.size, fun j hj => hgr0.block j hj (by simp)⟩
  obtain ⟨G, hG⟩ : ∃ G, w.heap.size = G := ⟨_, rfl⟩
  have hown : OwnSS w0 G w0.heap.size (.slice (some ⟨G, 0, none⟩) LL.length LL.length) (List.replicate LL.length []) := by
    rw [← hG]
    refine OwnSS.made ?_
    have := hown0
    rw [show (Value.slice none 0 0).cells = #[Value.slice none 0 0] from rfl, toList_madeCells_one, Nat.mul_one] at this
    unfold OwnV
    rw [List.length_replicate]
    exact this
  rw [hG] at hmk
  clear hown0 hgr0 hi hz0 hz1 hz2
  go_enter Try.func88, Try.ntmps88
  go_wp2
  go_loopw [4] (fun i wr => Box (∃ (k : Nat), k ≤ LL.length ∧ i = .int .i64 k ∧ OwnSS wr G wr.heap.size (.slice (some ⟨G, 0, none⟩) LL.length LL.length) (LL.take k ++ List.replicate (LL.length - k) []) ∧ Below w.heap.size w wr))
    (fun i _ => LL.length - (intOf i).toNat)
  case atStart => exact ⟨⟨0, by omega, rfl, by simpa using hown, hb0⟩⟩
  case round =>
    obtain ⟨k, hk, rfl, hown1, hbel⟩ := hrel.out
    by_cases hlt : k < LL.length
    · obtain ⟨g, off, ai, ci, rfl, hg, hc0, hI⟩ := (hA.below hbel (Nat.le_refl _)) k hlt
      have hlen := tot_at LL k hlt
      have c := toIntS_any wr ai ci LL[k] (hI.mono hbel.size) (by omega)
      have HL : Hid (k < (LL.take k ++ List.replicate (LL.length - k) ([] : List Int)).length) := by show _ < _; simp; omega
      have HF := fill_set LL [] k hlt
      obtain ⟨r, hrr⟩ : ∃ r, LL[k] = r := ⟨_, rfl⟩
      rw [hrr] at hc0 c HF
      have HF' : Hid ((LL.take k ++ List.replicate (LL.length - k) ([] : List Int)).set k r = LL.take (k + 1) ++ List.replicate (LL.length - (k + 1)) []) := HF
      have hGs : G ≤ wr.heap.size := by rw [← hG]; exact hbel.size
      have HA : Hid (OwnSS wr G wr.heap.size (.slice (some ⟨G, 0, none⟩) LL.length LL.length) (LL.take k ++ List.replicate (LL.length - k) [])) := hown1
      clear hrel hA hmk hown hb0 HF hrr hI hlen hown1
      have hi1 : (0 : Int) ≤ (k : Int) := by omega
      have hi2 : (k : Int) < (LL.length : Int) := by omega
      go_wp2_with fail
      refine c.mono ?_
      rintro e w1 ⟨u, rfl, hu, hb1⟩
      obtain ⟨ua, uc, rfl, _⟩ := hu.ints
      obtain ⟨g1, cap1, x, hv, xc, xf, hg1, _, hput⟩ := (HA.out.below hb1 (Nat.le_refl _)).put hu hGs k HL.out
      simp only [Value.slice.injEq, Option.some.injEq, Addr.mk.injEq, and_true] at hv
      obtain ⟨rfl, e1, e2⟩ := hv
      clear e1 e2
      rw [HF'.out] at hput
      have HX : Hid (OwnSS (w1.setCell ⟨G, k, none⟩ (.slice ua r.length uc)) G (w1.setCell ⟨G, k, none⟩ (.slice ua r.length uc)).heap.size (.slice (some ⟨G, 0, none⟩) LL.length LL.length) (LL.take (k + 1) ++ List.replicate (LL.length - (k + 1)) []) ∧ Below w.heap.size w (w1.setCell ⟨G, k, none⟩ (.slice ua r.length uc))) := ⟨by simpa using hput, (hbel.trans (hb1.mono hbel.size)).setCell (show w.heap.size ≤ G by omega) _⟩
      clear c hput hu hb1 HA HL
      go_wp2_with fail
      go_roundw
      case rel =>
        try ((repeat apply Exists.intro); refine ⟨?_, rfl⟩)
        exact ⟨⟨k + 1, by omega, by go_num, HX.out.1, HX.out.2⟩⟩
      case measure => simp [intOf]; omega
    · go_wp2_with fail
      go_ret
      have hke : k = LL.length := by omega
      subst hke
      simp only [List.take_length, Nat.sub_self, List.replicate_zero, List.append_nil] at hown1
      exact ⟨_, rfl, by rw [hG]; exact hown1, hbel⟩

set_option maxHeartbeats 1000000 in
theorem eqIntSS_same (w : World) (a b : Option Addr) (c1 c2 : Nat) (LL : List (List Int)) (hA : SSAt w a LL w.heap.size) (hB : SSAt w b LL w.heap.size) (hl : LL.length + tot LL LL.length ≤ 1048576) :
    Calls Try.prog 91 #[.slice a LL.length c1, .slice b LL.length c2] w fun e w' => e = .returned (.bool true) ∧ Below w.heap.size w w' := by
  go_enter Try.func91, Try.ntmps91
  go_wp2
  go_loopw [5] (fun i wr => Box (∃ (k : Nat), k ≤ LL.length ∧ i = .int .i64 k ∧ Below w.heap.size w wr))
    (fun i _ => LL.length - (intOf i).toNat)
  case atStart => exact ⟨⟨0, by omega, rfl, Below.refl _ _⟩⟩
  case round =>
    obtain ⟨k, hk, rfl, hbel⟩ := hrel.out
    by_cases hlt : k < LL.length
    · obtain ⟨g, off, ai, ci, rfl, hg, hc0, hI⟩ := (hA.below hbel (Nat.le_refl _)) k hlt
      obtain ⟨g', off', bi, di, rfl, hg', hd0, hJ⟩ := (hB.below hbel (Nat.le_refl _)) k hlt
      have hlen := tot_at LL k hlt
      have hI' := hI.mono hbel.size
      have hJ' := hJ.mono hbel.size
      obtain ⟨f, hf⟩ : ∃ f, LL[k] = f := ⟨_, rfl⟩
      rw [hf] at hc0 hd0 hI' hJ' hlen
      have k0 := cell_regrown hc0
      have l0 := cell_regrown hd0
      have cV : ∀ d os, Calls Try.prog 41 #[.slice ai f.length ci, .slice bi f.length di] (grow (redrawn wr d) os) fun e w'' => e = .returned (.bool true) ∧ ∃ p : Regrown, w'' = grow (redrawn wr p.d) p.os := fun d os => Calls.regrown_of (by have h := below_regrown wr d os; have := eqIntS_same (grow (redrawn wr d) os) ai bi ci di f (hI'.on h) (hJ'.on h) (by omega); simpa using this)
      clear hA hB hrel hc0 hd0 hI hJ hI' hJ' hf hlen
      have hi1 : (0 : Int) ≤ (k : Int) := by omega
      have hi2 : (k : Int) < (LL.length : Int) := by omega
      go_wp2
      refine wp_region_quiet_below (by kernel_rfl) (by kernel_rfl) ?_
      repeat (first | go_big_quiet_step (exact cV _ _) | quiet_step (exact cV _ _))
      refine wpQuiet_nil ?_
      intro _ hw'
      obtain ⟨⟨dq, osq⟩, hw''⟩ := hw'
      subst hw''
      go_wp2
      go_roundw
      case rel =>
        try ((repeat apply Exists.intro); refine ⟨?_, rfl⟩)
        exact ⟨⟨k + 1, by omega, by go_num, hbel.trans ((below_regrown wr dq osq).mono hbel.size)⟩⟩
      case measure => simp [intOf]; omega
    · go_wp2
      go_ret
      exact ⟨rfl, hbel⟩

end Go.Proofs.Ytpgcfgbhkodmeaa
