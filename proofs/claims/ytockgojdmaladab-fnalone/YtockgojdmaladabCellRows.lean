/- Cells are laid, and listed again. -/
import Derived.Test.YtockgojdmaladabCellBase
import Derived.Test.YtockgojdmaladabInts
namespace Go.Proofs.Ytockgojdmaladab
open Go.RowKit Go.Sort

theorem Try.infoRow : (Try.prog.info? 117).map (fun i => (i.zero.map (fun z => z.cells), i.size, i.bytes)) = some (some (Array.replicate 80 (.int .i64 0)), 80, 640) := by kernel_rfl

theorem cat_made {w : World} {z : Value} (hz : z.cells = Array.replicate 80 (Value.int .i64 0)) {base g m cap : Nat} (h : w.ownsRow base 117 80 (.slice (some ⟨g, 0, none⟩) m cap) m (madeCells z.cells (m * 80)).toList) (hc : cap = m) : CAt w g m (fun _ => 0) := by
  subst hc
  rcases h.2 with ⟨h', _⟩ | ⟨g', cap', cur, h', hb, hg, hnc, hcm, hcs, htake⟩
  · simp at h'
  · simp only [Value.slice.injEq, Option.some.injEq, Addr.mk.injEq, and_true, true_and] at h'
    obtain ⟨rfl, rfl⟩ := h'
    refine ⟨cur, hg, hcs, fun j hj => ?_⟩
    have e : cur = madeCells z.cells (cap * 80) := by
      apply Array.toList_inj.1
      rw [← htake, List.take_of_length_le]
      rw [Array.length_toList, hcs]; exact Nat.le_refl _
    rw [e, hz]
    simp [madeCells, hj, Nat.mod_lt]

theorem getD_step (l : List Int) (k j : Nat) (x : Int) (hx : l.getD k 0 = x) : (if j = k then x else if j < k then l.getD j 0 else 0) = (if j < k + 1 then l.getD j 0 else 0) := by
  by_cases h : j = k
  · subst h; rw [if_pos rfl, if_pos (by omega), hx]
  · rw [if_neg h]
    by_cases h2 : j < k
    · rw [if_pos h2, if_pos (by omega)]
    · rw [if_neg h2, if_neg (by omega)]

set_option maxHeartbeats 2000000 in
theorem cellsOf_any (w : World) (a : Option Addr) (cap : Nat) (l : List Int) (hL : IAt w a l w.heap.size) (hm : l.length ≤ 1048576) :
    Calls Try.prog 50 #[.slice a l.length cap] w fun e w' => ∃ g m, e = .returned (.agg #[.slice (some ⟨g, 0, none⟩) m m, .int .i64 l.length]) ∧ l.length ≤ m * 80 ∧ m ≤ 1048576 ∧ w.heap.size ≤ g ∧ CAt w' g m (fun j => l.getD j 0) ∧ Below w.heap.size w w' := by
  obtain ⟨m, hme, hm1, hm2⟩ : ∃ m : Nat, ((l.length : Int) + 80 - 1) / 80 = (m : Int) ∧ l.length ≤ m * 80 ∧ m ≤ 1048576 := ⟨(l.length + 79) / 80, by omega, by omega, by omega⟩
  obtain ⟨w1, hw1⟩ : ∃ w1, w.alloc (.cells #[.slice none 0 0, .int .i64 0] 75) = w1 := ⟨_, rfl⟩
  have hb1 : Below w.heap.size w w1 := by rw [← hw1]; exact (Below.refl _ _).alloc (Nat.le_refl _) _
  have hR1 : CBox w1 w.heap.size (.slice none 0 0) (.int .i64 0) := by rw [← hw1]; exact CBox.new _ _ _
  obtain ⟨i0, hi, hq⟩ : ∃ i, Try.prog.info? 117 = some i ∧ (i.zero.map (fun z => z.cells), i.size, i.bytes) = (some (Array.replicate 80 (Value.int .i64 0)), 80, 640) := by
    have := Try.infoRow
    rw [Option.map_eq_some_iff] at this
    exact this
  simp only [Prod.mk.injEq, Option.map_eq_some_iff] at hq
  obtain ⟨⟨z, hz0, hzc⟩, hz1, hz2⟩ := hq
  obtain ⟨w2, hmk, hown2, hgr2⟩ := run_make_full (P := Try.prog) w1 w1.heap.size 73 117 i0 z 80 Try.underlying73 hi hz0 hz1 .i64 .i64 m (by rw [hz2]; omega) (by unfold maxLen; omega) (Nat.le_refl _)
  have hC2 := cat_made hzc hown2 rfl
  have hb2 : Below w1.heap.size w1 w2 := ⟨hgr2.os, hgr2.tape, hgr2.output, hgr2.size, fun j hj => hgr2.block j hj (by simp)⟩
  have hR2 := hR1.on hb2
  rw [← hw1] at hmk
  have hwG : w.heap.size < w1.heap.size := hR1.lt
  obtain ⟨G, hG⟩ : ∃ G, (w.alloc (.cells #[.slice none 0 0, .int .i64 0] 75)).heap.size = G := ⟨_, rfl⟩
  rw [hG] at hmk
  rw [hw1] at hG
  rw [hG] at hC2 hwG
  obtain ⟨w3, hw3⟩ : ∃ w3, w2.alloc (.cells #[.slice (some ⟨G, 0, none⟩) m m, .int .i64 l.length] 75) = w3 := ⟨_, rfl⟩
  have hb3 : Below w2.heap.size w2 w3 := by rw [← hw3]; exact (Below.refl _ _).alloc (Nat.le_refl _) _
  have hV3 : CBox w3 w2.heap.size (.slice (some ⟨G, 0, none⟩) m m) (.int .i64 l.length) := by rw [← hw3]; exact CBox.new _ _ _
  have hR3 := hR2.on hb3
  have hC3 := hC2.on hb3
  have hB3 : Below w.heap.size w w3 := (hb1.trans (hb2.mono hb1.size)).trans (hb3.mono (Nat.le_trans hb1.size hb2.size))
  obtain ⟨C, hCe⟩ : ∃ C, w2.heap.size = C := ⟨_, rfl⟩
  rw [hCe] at hV3
  have HW : Hid (w2.alloc (.cells #[.slice (some ⟨G, 0, none⟩) m m, .int .i64 l.length] 75) = w3) := hw3
  have HR : Hid (w.heap.size ≤ G ∧ w.heap.size ≤ C) := ⟨by omega, by rw [← hCe]; exact Nat.le_trans hb1.size hb2.size⟩
  clear hb1 hR1 hi hz0 hzc hz1 hz2 hown2 hgr2 hb2 hR2 hC2 hw3 hb3 hw1 hG hwG
  go_enter Try.func50, Try.ntmps50
  go_wp2
  rw [HW.out]
  go_loopw [17] (fun i wr => Box (∃ (k : Nat), k ≤ l.length ∧ i = .int .i64 k ∧ CAt wr G m (fun j => if j < k then l.getD j 0 else 0) ∧ CBox wr C (.slice (some ⟨G, 0, none⟩) m m) (.int .i64 l.length) ∧ CBox wr w.heap.size (.slice none 0 0) (.int .i64 0) ∧ Below w.heap.size w wr))
    (fun i _ => l.length - (intOf i).toNat)
  case atStart => exact ⟨⟨0, by omega, rfl, hC3.congr (fun j _ => by simp), hV3, hR3, hB3⟩⟩
  case round =>
    obtain ⟨k, hk, rfl, hC, hV, hR, hB⟩ := hrel.out
    clear hrel hC3 hV3 hR3 hB3 hmk hme
    by_cases hlt : k < l.length
    · obtain ⟨g0, off0, rfl, hg0, hc0⟩ := (hL.below hB (Nat.le_refl _)) k hlt
      obtain ⟨x, hx⟩ : ∃ x, l[k] = x := ⟨_, rfl⟩
      rw [hx] at hc0
      have HX : Hid (l.getD k 0 = x) := by show l.getD k 0 = x; rw [← hx]; simp [List.getD, hlt]
      have hi1 : (0 : Int) ≤ (k : Int) := by omega
      have hi2 : (k : Int) < (l.length : Int) := by omega
      obtain ⟨v0, v1⟩ := hV.cells
      have c1 := cellAt_in wr G m l.length k hm1 hm2 hlt
      clear hx hL
      go_wp2_with fail
      refine c1.mono ?_
      rintro e wa ⟨rfl, hba⟩
      have hCa := hC.on hba
      have hVa := hV.on hba
      have hRa := hR.on hba
      have hBa := hB.trans (hba.mono hB.size)
      have hxa := hCa.cell (j := k) (by omega)
      have hfa := hCa.frozen k
      have c2 := cellStore_any wa G k _ x hxa hfa
      have hCs := (hCa.set k x).congr (fun j _ => getD_step l k j x HX.out)
      have hVs := hVa.other (A := ⟨G, k, none⟩) (hVa.ne hCa) (.int .i64 x)
      have hRs := hRa.other (A := ⟨G, k, none⟩) (hRa.ne hCa) (.int .i64 x)
      have hBs := hBa.setCell (p := ⟨G, k, none⟩) HR.out.1 (.int .i64 x)
      have HH : Hid (CAt (wa.setCell ⟨G, k, none⟩ (.int .i64 x)) G m (fun j => if j < k + 1 then l.getD j 0 else 0) ∧ CBox (wa.setCell ⟨G, k, none⟩ (.int .i64 x)) C (.slice (some ⟨G, 0, none⟩) m m) (.int .i64 l.length) ∧ CBox (wa.setCell ⟨G, k, none⟩ (.int .i64 x)) w.heap.size (.slice none 0 0) (.int .i64 0) ∧ Below w.heap.size w (wa.setCell ⟨G, k, none⟩ (.int .i64 x))) := ⟨hCs, hVs, hRs, hBs⟩
      clear hC hV hR hB hCa hVa hRa hBa hxa hfa hCs hVs hRs hBs v0 v1 c1 hc0
      go_wp2_with fail
      refine c2.mono ?_
      rintro e wb ⟨rfl, rfl⟩
      clear c2
      go_wp2
      go_roundw
      case rel =>
        try ((repeat apply Exists.intro); refine ⟨?_, rfl⟩)
        exact ⟨⟨k + 1, by omega, by go_num, HH.out.1, HH.out.2.1, HH.out.2.2.1, HH.out.2.2.2⟩⟩
      case measure => simp [intOf]; omega
    · have hke : k = l.length := by omega
      subst hke
      have hC' := hC.congr (f' := fun j => l.getD j 0) (fun j _ => by
        by_cases h : j < l.length
        · simp [h]
        · simp [h, List.getD])
      obtain ⟨v0, v1⟩ := hV.cells
      obtain ⟨r0, r1⟩ := hR.cells
      obtain ⟨z0, z1⟩ := hR.thaw
      have hR' := (hR.set0 (.slice (some ⟨G, 0, none⟩) m m)).set1 (.int .i64 l.length)
      obtain ⟨s0, s1⟩ := hR'.cells
      have hne := hR.ne hC
      have hCC := (hC'.other (A := ⟨w.heap.size, 0, none⟩) (fun e => hne e.symm) (.slice (some ⟨G, 0, none⟩) m m)).other (A := ⟨w.heap.size, 1, none⟩) (fun e => hne e.symm) (.int .i64 l.length)
      have hBB := (hB.setCell (p := ⟨w.heap.size, 0, none⟩) (Nat.le_refl _) (.slice (some ⟨G, 0, none⟩) m m)).setCell (p := ⟨w.heap.size, 1, none⟩) (Nat.le_refl _) (.int .i64 l.length)
      have HH : Hid (CAt ((wr.setCell ⟨w.heap.size, 0, none⟩ (.slice (some ⟨G, 0, none⟩) m m)).setCell ⟨w.heap.size, 1, none⟩ (.int .i64 l.length)) G m (fun j => l.getD j 0) ∧ Below w.heap.size w ((wr.setCell ⟨w.heap.size, 0, none⟩ (.slice (some ⟨G, 0, none⟩) m m)).setCell ⟨w.heap.size, 1, none⟩ (.int .i64 l.length))) := ⟨hCC, hBB⟩
      clear hC hV hR hB hR' hC' hCC hBB hne hL
      go_wp2
      refine bodyPost_ret (v := .agg #[.slice (some ⟨G, 0, none⟩) m m, .int .i64 l.length]) (by simp [results, Try.results50, go_sem, s0, s1]) rfl ⟨G, m, rfl, hm1, hm2, HR.out.1, HH.out.1, HH.out.2⟩

set_option maxHeartbeats 2000000 in
theorem cellsList_any (w : World) (g m : Nat) (f : Nat → Int) (s : Nat) (hC : CAt w g m f) (hs : s ≤ m * 80) (hm : m ≤ 1048576) (hs2 : s ≤ 1048576) :
    Calls Try.prog 53 #[.agg #[.slice (some ⟨g, 0, none⟩) m m, .int .i64 s]] w fun e w' => ∃ v, e = .returned v ∧ OwnV w' w.heap.size 3 v (ints ((List.range s).map f)) ∧ Below w.heap.size w w' := by
  obtain ⟨w1, hw1⟩ : ∃ w1, w.alloc (.cells #[.slice (some ⟨g, 0, none⟩) m m, .int .i64 s] 75) = w1 := ⟨_, rfl⟩
  have hb1 : Below w.heap.size w w1 := by rw [← hw1]; exact (Below.refl _ _).alloc (Nat.le_refl _) _
  have hV1 : CBox w1 w.heap.size (.slice (some ⟨g, 0, none⟩) m m) (.int .i64 s) := by rw [← hw1]; exact CBox.new _ _ _
  have hC1 := hC.on hb1
  obtain ⟨i0, hi, hz0, hz1, hz2⟩ := info_parts Try.infoInt
  obtain ⟨w2, hmk, hown0, hgr0⟩ := run_make_full (P := Try.prog) w1 w1.heap.size 24 3 i0 (.int .i64 0) 1 Try.underlying24 hi hz0 hz1 .i64 .i64 s (by rw [hz2]; omega) (by unfold maxLen; omega) (Nat.le_refl _)
  have hb2 : Below w1.heap.size w1 w2 := ⟨hgr0.os, hgr0.tape, hgr0.output, hgr0.size, fun j hj => hgr0.block j hj (by simp)⟩
  have hV2 := hV1.on hb2
  have hC2 := hC1.on hb2
  have hB2 : Below w.heap.size w w2 := hb1.trans (hb2.mono hb1.size)
  have hwG : w.heap.size < w1.heap.size := hV1.lt
  obtain ⟨G, hG⟩ : ∃ G, w1.heap.size = G := ⟨_, rfl⟩
  have hown : OwnV w2 G 3 (.slice (some ⟨G, 0, none⟩) s s) (ints ((List.range 0).map f) ++ List.replicate s (.int .i64 0)) := by
    rw [← hG]
    have := hown0
    simp only [Value.cells, Nat.mul_one, toList_madeCells_one] at this
    unfold OwnV
    simpa [Go.Proofs.Ytockgojdmaladab.ints] using this
  rw [hG] at hmk hwG
  rw [← hw1] at hmk
  have hgG : Hid (g < G) := by rw [← hG]; exact hC1.lt
  clear hown0 hgr0 hi hz0 hz1 hz2 hb1 hb2 hV1 hC1 hw1 hG hC
  go_enter Try.func53, Try.ntmps53
  go_wp2
  go_loopw [10] (fun i wr => Box (∃ (k : Nat), k ≤ s ∧ i = .int .i64 k ∧ OwnV wr G 3 (.slice (some ⟨G, 0, none⟩) s s) (ints ((List.range k).map f) ++ List.replicate (s - k) (.int .i64 0)) ∧ CAt wr g m f ∧ CBox wr w.heap.size (.slice (some ⟨g, 0, none⟩) m m) (.int .i64 s) ∧ Below w.heap.size w wr))
    (fun i _ => s - (intOf i).toNat)
  case atStart => exact ⟨⟨0, by omega, rfl, by simpa using hown, hC2, hV2, hB2⟩⟩
  case round =>
    obtain ⟨k, hk, rfl, hown1, hC, hV, hB⟩ := hrel.out
    clear hrel hown hC2 hV2 hB2 hmk
    by_cases hlt : k < s
    · obtain ⟨v0, v1⟩ := hV.cells
      have c1 := cellAt_in wr g m s k hs hm hlt
      have hi1 : (0 : Int) ≤ (k : Int) := by omega
      have hi2 : (k : Int) < (s : Int) := by omega
      go_wp2_with fail
      refine c1.mono ?_
      rintro e wa ⟨rfl, hba⟩
      have hCa := hC.on hba
      have hVa := hV.on hba
      have hBa := hB.trans (hba.mono hB.size)
      have hxa := hCa.cell (j := k) (by omega)
      obtain ⟨x, hx⟩ : ∃ x, f k = x := ⟨_, rfl⟩
      rw [hx] at hxa
      have c2 := cellLoad_any wa g k x hxa
      have hownA := hown1.below hba (Nat.le_refl _)
      have hlen : s = (ints ((List.range k).map f) ++ List.replicate (s - k) (Value.int .i64 0)).length := by simp [ints_length]; omega
      have hst := hownA.stored hlen k (.int .i64 x)
      have hset : (ints ((List.range k).map f) ++ List.replicate (s - k) (Value.int .i64 0)).set k (.int .i64 x) = ints ((List.range (k + 1)).map f) ++ List.replicate (s - (k + 1)) (.int .i64 0) := by
        rw [List.set_append_right _ _ (by simp [ints_length]), ints_length, List.length_map, List.length_range, Nat.sub_self, show s - k = (s - (k + 1)) + 1 by omega, List.replicate_succ, List.set_cons_zero, List.range_succ]
        simp only [Go.Proofs.Ytockgojdmaladab.ints, List.map_append, List.map_cons, List.map_nil, List.append_assoc, hx]
        rfl
      rw [hset] at hst
      obtain ⟨a', cap', hv, hc⟩ := hownA.shape
      obtain ⟨g', hg', hcell, hfr, _, hgs⟩ := hc k (by omega)
      rw [hg'] at hv
      simp only [Value.slice.injEq, Option.some.injEq, Addr.mk.injEq, and_true] at hv
      obtain ⟨rfl, e1, e2⟩ := hv
      clear e1 e2
      obtain ⟨u, hu⟩ : ∃ u, (ints ((List.range k).map f) ++ List.replicate (s - k) (Value.int .i64 0))[k]'(by omega) = u := ⟨_, rfl⟩
      rw [hu] at hcell
      have HST : Hid (OwnV (wa.setCell ⟨G, k, none⟩ (.int .i64 x)) G 3 (.slice (some ⟨G, 0, none⟩) s s) (ints ((List.range (k + 1)).map f) ++ List.replicate (s - (k + 1)) (.int .i64 0)) ∧ CAt (wa.setCell ⟨G, k, none⟩ (.int .i64 x)) g m f ∧ CBox (wa.setCell ⟨G, k, none⟩ (.int .i64 x)) w.heap.size (.slice (some ⟨g, 0, none⟩) m m) (.int .i64 s) ∧ Below w.heap.size w (wa.setCell ⟨G, k, none⟩ (.int .i64 x))) :=
        ⟨hst.1, hCa.other (A := ⟨G, k, none⟩) (Nat.ne_of_lt hgG.out) _, hVa.other (A := ⟨G, k, none⟩) (Nat.ne_of_lt hwG) _, hBa.setCell (p := ⟨G, k, none⟩) (Nat.le_of_lt hwG) _⟩
      clear hst hset hlen hc hu hx hg' hown1 hownA hC hV hB hCa hVa hBa v0 v1 c1 hba
      go_wp2_with fail
      refine c2.mono ?_
      rintro e wb ⟨rfl, rfl⟩
      clear c2
      go_wp2
      go_roundw
      case rel =>
        try ((repeat apply Exists.intro); refine ⟨?_, rfl⟩)
        exact ⟨⟨k + 1, by omega, by go_num, HST.out.1, HST.out.2.1, HST.out.2.2.1, HST.out.2.2.2⟩⟩
      case measure => simp [intOf]; omega
    · have hke : k = s := by omega
      subst hke
      simp only [Nat.sub_self, List.replicate_zero, List.append_nil] at hown1
      go_wp2
      go_ret
      exact ⟨_, rfl, hown1.mono (Nat.le_of_lt hwG), hB⟩
end Go.Proofs.Ytockgojdmaladab
