/- The program's copy of a sketch. -/
import Derived.Test.YtcaakommnglnbaaGreatDoorFetPlusJ
import Derived.Test.YtcaakommnglnbaaGreatDoorSkLaw2J
import Derived.Test.YtcaakommnglnbaaGreatDoorKeysCopyJ
import Derived.Deep.DeepCutAuto
namespace Go.Proofs.YtcaakommnglnbaaGreatDoor
open Go.RowKit Go.Sort

theorem ownV_of_rowI {w : World} {base : Nat} {v : Value} {l : List Int} (h : w.ownsRow base 3 1 v l.length (ints l)) : OwnV w base 3 v (ints l) := by unfold OwnV; rw [ints_length]; exact h
set_option maxRecDepth 100000 in
set_option maxHeartbeats 4000000 in
theorem sketchCopy_any (w : World) (a : Option Addr) (c : Nat) (S : Sk) (hA : SSAt w a S.rows w.heap.size) (hm : SkSz S) :
    Calls Tryz.prog 114 #[.agg #[.slice a S.rows.length c, .int .i64 S.added]] w fun e w' => ∃ v, e = .returned v ∧ SkOwn w' w.heap.size w'.heap.size v S ∧ Below w.heap.size w w' := by
  obtain ⟨rows, added⟩ := S
  unfold SkSz at hm
  dsimp only at *
  obtain ⟨w0, hw0⟩ : ∃ x, w.alloc (.cells #[.slice a rows.length c, .int .i64 added] 35) = x := ⟨_, rfl⟩
  obtain ⟨w1, hw1⟩ : ∃ x, w0.alloc (.cells #[.slice none 0 0, .int .i64 0] 35) = x := ⟨_, rfl⟩
  have hb0 : Below w.heap.size w w0 := by rw [← hw0]; exact (Below.refl _ _).alloc (Nat.le_refl _) _
  have hb1 : Below w0.heap.size w0 w1 := by rw [← hw1]; exact (Below.refl _ _).alloc (Nat.le_refl _) _
  have s0 : w0.heap.size = w.heap.size + 1 := by rw [← hw0]; simp
  have s1 : w1.heap.size = w.heap.size + 1 + 1 := by rw [← hw1]; simp; omega
  have hbw1 : Below w.heap.size w w1 := hb0.trans (hb1.mono hb0.size)
  have hB1 : SkBox w1 w.heap.size (.slice a rows.length c) (.int .i64 added) := by
    have h : SkBox w0 w.heap.size (.slice a rows.length c) (.int .i64 added) := by rw [← hw0]; exact SkBox.new _ _ _
    exact h.on hb1
  have hR1 : SkBox w1 (w.heap.size + 1) (.slice none 0 0) (.int .i64 0) := by rw [← hw1, ← s0]; exact SkBox.new _ _ _
  have HW : Hid ((w.alloc (.cells #[.slice a rows.length c, .int .i64 added] 35)).alloc (.cells #[.slice none 0 0, .int .i64 0] 35) = w1) := by rw [hw0]; exact hw1
  have HM : ∀ wx : World, ∃ w2, (Instr.makeSlice 24 (.int .i64 (rows.length : Int)) (.int .i64 (rows.length : Int))).run Tryz.prog wx.drew = .ok (.slice (some ⟨wx.heap.size, 0, none⟩) rows.length rows.length) w2 ∧ OwnSS w2 wx.heap.size w2.heap.size (.slice (some ⟨wx.heap.size, 0, none⟩) rows.length rows.length) (List.replicate rows.length []) ∧ Below wx.heap.size wx w2 := by
    intro wx
    obtain ⟨i0, hi, hz0, hz1, hz2⟩ := info_parts Tryz.infoIntS
    obtain ⟨w2, hmk, hown0, hgr0⟩ := run_make_full (P := Tryz.prog) wx.drew wx.drew.heap.size 24 139 i0 (.slice none 0 0) 1 Tryz.underlying24 hi hz0 hz1 .i64 .i64 rows.length (by rw [hz2]; omega) (by unfold maxLen; omega) (Nat.le_refl _)
    refine ⟨w2, hmk, OwnSS.made ?_, (bdrewS wx).trans ⟨hgr0.os, hgr0.tape, hgr0.output, hgr0.size, fun j hj => hgr0.block j hj (by simp)⟩⟩
    have := hown0
    rw [show (Value.slice none 0 0).cells = #[Value.slice none 0 0] from rfl, toList_madeCells_one, Nat.mul_one] at this
    unfold OwnV
    rw [List.length_replicate]
    exact this
  obtain ⟨wz, hwz⟩ : ∃ x, w1.alloc (.cells #[.slice none 0 0, .int .i64 0] 35) = x := ⟨_, rfl⟩
  have hbz : Below w1.heap.size w1 wz := by rw [← hwz]; exact (Below.refl _ _).alloc (Nat.le_refl _) _
  have hTz : SkBox wz w1.heap.size (.slice none 0 0) (.int .i64 0) := by rw [← hwz]; exact SkBox.new _ _ _
  have hzs : wz.heap.size = w1.heap.size + 1 := by rw [← hwz]; simp
  obtain ⟨w2, hmk, hown2, hb2⟩ := HM w1
  obtain ⟨w2', hmk', hown2', hb2'⟩ := HM wz
  have hb2w : Below w1.heap.size w1 w2' := hbz.trans (hb2'.mono hbz.size)
  obtain ⟨x0, x1⟩ := hB1.cells
  obtain ⟨y0, y1⟩ := (hB1.on hb2).cells
  obtain ⟨z0, z1⟩ := ((hB1.on hb2).on (w' := w2.alloc (.cells #[.slice none 0 0, .int .i64 0] 35)) ((Below.refl _ _).alloc (Nat.le_refl _) _)).cells
  obtain ⟨u0, u1⟩ := (hB1.on hbz).cells
  obtain ⟨v0, v1⟩ := (hB1.on hb2w).cells
  have hT2' := hTz.on hb2'
  obtain ⟨t0, t1⟩ := hT2'.cells
  have tf0 := hT2'.thaw 0
  have tf1 := hT2'.thaw 1
  -- what both orders leave
  have HP : Hid (SkBox (w2.alloc (.cells #[.slice (some ⟨w1.heap.size, 0, none⟩) rows.length rows.length, .int .i64 added] 35)) w2.heap.size (.slice (some ⟨w1.heap.size, 0, none⟩) rows.length rows.length) (.int .i64 added) ∧ SkBox (w2.alloc (.cells #[.slice (some ⟨w1.heap.size, 0, none⟩) rows.length rows.length, .int .i64 added] 35)) w.heap.size (.slice a rows.length c) (.int .i64 added) ∧ SkBox (w2.alloc (.cells #[.slice (some ⟨w1.heap.size, 0, none⟩) rows.length rows.length, .int .i64 added] 35)) (w.heap.size + 1) (.slice none 0 0) (.int .i64 0) ∧ OwnSS (w2.alloc (.cells #[.slice (some ⟨w1.heap.size, 0, none⟩) rows.length rows.length, .int .i64 added] 35)) (w.heap.size + 2) (w2.alloc (.cells #[.slice (some ⟨w1.heap.size, 0, none⟩) rows.length rows.length, .int .i64 added] 35)).heap.size (.slice (some ⟨w1.heap.size, 0, none⟩) rows.length rows.length) (List.replicate rows.length []) ∧ Below w.heap.size w (w2.alloc (.cells #[.slice (some ⟨w1.heap.size, 0, none⟩) rows.length rows.length, .int .i64 added] 35)) ∧ w.heap.size + 1 < w2.heap.size ∧ w1.heap.size ≠ w2.heap.size ∧ w.heap.size + 1 < w1.heap.size) := by
    have hb3 : Below w2.heap.size w2 (w2.alloc (.cells #[.slice (some ⟨w1.heap.size, 0, none⟩) rows.length rows.length, .int .i64 added] 35)) := (Below.refl _ _).alloc (Nat.le_refl _) _
    have hs := hb2.size
    refine ⟨SkBox.new _ _ _, (hB1.on hb2).on hb3, (hR1.on hb2).on hb3, (hown2.below hb3 (Nat.le_refl _)).up.mono (by omega) (Nat.le_refl _), (hbw1.trans (hb2.mono hbw1.size)).trans (hb3.mono (by omega)), by omega, ?_, by omega⟩
    obtain ⟨vs, hv, hb, _⟩ := hown2
    have := hb w1.heap.size rfl
    omega
  have HQ : Hid (SkBox ((w2'.setCell ⟨w1.heap.size, 0, none⟩ (.slice (some ⟨w1.heap.size + 1, 0, none⟩) rows.length rows.length)).setCell ⟨w1.heap.size, 1, none⟩ (.int .i64 added)) w1.heap.size (.slice (some ⟨w1.heap.size + 1, 0, none⟩) rows.length rows.length) (.int .i64 added) ∧ SkBox ((w2'.setCell ⟨w1.heap.size, 0, none⟩ (.slice (some ⟨w1.heap.size + 1, 0, none⟩) rows.length rows.length)).setCell ⟨w1.heap.size, 1, none⟩ (.int .i64 added)) w.heap.size (.slice a rows.length c) (.int .i64 added) ∧ SkBox ((w2'.setCell ⟨w1.heap.size, 0, none⟩ (.slice (some ⟨w1.heap.size + 1, 0, none⟩) rows.length rows.length)).setCell ⟨w1.heap.size, 1, none⟩ (.int .i64 added)) (w.heap.size + 1) (.slice none 0 0) (.int .i64 0) ∧ OwnSS ((w2'.setCell ⟨w1.heap.size, 0, none⟩ (.slice (some ⟨w1.heap.size + 1, 0, none⟩) rows.length rows.length)).setCell ⟨w1.heap.size, 1, none⟩ (.int .i64 added)) (w.heap.size + 2) ((w2'.setCell ⟨w1.heap.size, 0, none⟩ (.slice (some ⟨w1.heap.size + 1, 0, none⟩) rows.length rows.length)).setCell ⟨w1.heap.size, 1, none⟩ (.int .i64 added)).heap.size (.slice (some ⟨w1.heap.size + 1, 0, none⟩) rows.length rows.length) (List.replicate rows.length []) ∧ Below w.heap.size w ((w2'.setCell ⟨w1.heap.size, 0, none⟩ (.slice (some ⟨w1.heap.size + 1, 0, none⟩) rows.length rows.length)).setCell ⟨w1.heap.size, 1, none⟩ (.int .i64 added)) ∧ w.heap.size + 1 < w1.heap.size ∧ w1.heap.size + 1 ≠ w1.heap.size ∧ w.heap.size + 1 < w1.heap.size + 1) := by
    have hs := hb2'.size
    rw [hzs] at hown2'
    refine ⟨hT2'.put _ _, (hB1.on hb2w).kept (put2_other _ _ _ _ _ (by omega)), (hR1.on hb2w).kept (put2_other _ _ _ _ _ (by omega)), ?_, Below.put2 (hbw1.trans (hb2w.mono hbw1.size)) (by omega) _ _, by omega, by omega, by omega⟩
    refine (hown2'.put2 hT2' _ _).mono (by omega) ?_
    simp
  rw [hzs] at hmk'
  rw [← hwz] at hmk' u0 u1
  clear s1
  clear hw0 hw1 hwz s0 hb0 hb1 hbz hTz hzs hb2 hb2' hb2w hown2 hown2' hB1 hR1 hT2' hbw1 HM
  go_enter Tryz.func114, Tryz.ntmps114
  go_upto_region 1 with fail
  rw [HW.out]
  go_cut [3] (fun p wc => ∃ V G, p = .pointer (some ⟨V, 0, none⟩) ∧ SkBox wc V (.slice (some ⟨G, 0, none⟩) rows.length rows.length) (.int .i64 added) ∧ SkBox wc w.heap.size (.slice a rows.length c) (.int .i64 added) ∧ SkBox wc (w.heap.size + 1) (.slice none 0 0) (.int .i64 0) ∧ OwnSS wc (w.heap.size + 2) wc.heap.size (.slice (some ⟨G, 0, none⟩) rows.length rows.length) (List.replicate rows.length []) ∧ Below w.heap.size w wc ∧ w.heap.size + 1 < V ∧ G ≠ V ∧ w.heap.size + 1 < G)
  case first =>
    go_region_law (fail)
    all_goals go_wp2_with fail
    all_goals go_meet
    all_goals first | exact ⟨_, _, rfl, HP.out.1, HP.out.2.1, HP.out.2.2.1, HP.out.2.2.2.1, HP.out.2.2.2.2.1, HP.out.2.2.2.2.2.1, HP.out.2.2.2.2.2.2.1, HP.out.2.2.2.2.2.2.2⟩ | exact ⟨_, _, rfl, HQ.out.1, HQ.out.2.1, HQ.out.2.2.1, HQ.out.2.2.2.1, HQ.out.2.2.2.2.1, HQ.out.2.2.2.2.2.1, HQ.out.2.2.2.2.2.2.1, HQ.out.2.2.2.2.2.2.2⟩
  case rest =>
    obtain ⟨V, G, rfl, hT, hB, hR, hown, hbw, hV, hGV, hGw⟩ := hcut
    clear HP HQ hmk hmk' x0 x1 y0 y1 z0 z1 u0 u1 v0 v1 t0 t1 tf0 tf1 HW
    obtain ⟨b0, b1⟩ := hB.cells
    have hsz0 : w.heap.size + 2 ≤ wc.heap.size := by have := hT.lt; omega
    clear hB
    go_wp2
    clear b0 b1
    go_loopw [4, 5, 16] (fun _ _ i wr => Box (∃ (k : Nat), k ≤ rows.length ∧ i = .int .i64 k ∧ SkBox wr V (.slice (some ⟨G, 0, none⟩) rows.length rows.length) (.int .i64 added) ∧ SkBox wr (w.heap.size + 1) (.slice none 0 0) (.int .i64 0) ∧ OwnSS wr (w.heap.size + 2) wr.heap.size (.slice (some ⟨G, 0, none⟩) rows.length rows.length) (rows.take k ++ List.replicate (rows.length - k) []) ∧ Below w.heap.size w wr ∧ w.heap.size + 2 ≤ wr.heap.size))
      (fun _ _ i _ => rows.length - (intOf i).toNat)
    case atStart => exact ⟨⟨0, by omega, rfl, hT, hR, by simpa using hown, hbw, hsz0⟩⟩
    case round =>
      obtain ⟨k, hk, rfl, hT1, hR1, hown1, hbel, hsz⟩ := hrel.out
      by_cases hlt : k < rows.length
      · obtain ⟨g, off, ai, ci, rfl, hg, hc, hI⟩ := (hA.below hbel (Nat.le_refl _)) k hlt
        have hlen := tot_at rows k hlt
        have HL : Hid (k < (rows.take k ++ List.replicate (rows.length - k) ([] : List Int)).length) := by show _ < _; simp; omega
        have HF := fill_set rows [] k hlt
        have hgs : g < wr.heap.size := Nat.lt_of_lt_of_le hg hbel.size
        obtain ⟨r, hr⟩ : ∃ r, rows[k] = r := ⟨_, rfl⟩
        rw [hr] at hc hI HF hlen
        have HSI : Hid ((ai = none → r.length = 0) ∧ ∀ W, Below wr.heap.size wr W → ∀ ad, ai = some ad → ∀ j u, (ints r)[j]? = some u → W.cell? (ad.add j) = some u) := ⟨hI.srcI.1, fun W hW => ((hI.mono hbel.size).on hW).srcI.2⟩
        have HKC : Hid (∀ W, Below wr.heap.size wr W → W.cell? ⟨V, 0, none⟩ = some (.slice (some ⟨G, 0, none⟩) rows.length rows.length)) := fun W h => (hT1.on h).cells.1
        have hbE : Below wr.heap.size wr (wr.alloc (.cells #[] 3)) := (Below.refl _ _).alloc (Nat.le_refl _) _
        have hbEd : Below wr.heap.size wr (wr.alloc (.cells #[] 3)).drew := hbE.trans ⟨rfl, rfl, rfl, Nat.le_refl _, fun _ _ => rfl⟩
        have d0 := HKC.out wr (Below.refl _ _)
        have e0 := HKC.out _ hbE
        have HN : Hid (∀ g4 c4 w4, Below wr.heap.size wr w4 → OwnV w4 wr.heap.size 3 (.slice (some ⟨g4, 0, none⟩) r.length c4) (ints r) → ∃ x, w4.cell? ⟨G, k, none⟩ = some x ∧ w4.frozen? ⟨G, k, none⟩ = false ∧ Hid (SkBox (w4.setCell ⟨G, k, none⟩ (.slice (some ⟨g4, 0, none⟩) r.length c4)) V (.slice (some ⟨G, 0, none⟩) rows.length rows.length) (.int .i64 added) ∧ SkBox (w4.setCell ⟨G, k, none⟩ (.slice (some ⟨g4, 0, none⟩) r.length c4)) (w.heap.size + 1) (.slice none 0 0) (.int .i64 0) ∧ OwnSS (w4.setCell ⟨G, k, none⟩ (.slice (some ⟨g4, 0, none⟩) r.length c4)) (w.heap.size + 2) (w4.setCell ⟨G, k, none⟩ (.slice (some ⟨g4, 0, none⟩) r.length c4)).heap.size (.slice (some ⟨G, 0, none⟩) rows.length rows.length) (rows.take (k + 1) ++ List.replicate (rows.length - (k + 1)) []) ∧ Below w.heap.size w (w4.setCell ⟨G, k, none⟩ (.slice (some ⟨g4, 0, none⟩) r.length c4)) ∧ w.heap.size + 2 ≤ (w4.setCell ⟨G, k, none⟩ (.slice (some ⟨g4, 0, none⟩) r.length c4)).heap.size)) := by
          intro g4 c4 w4 hb4 hu4
          obtain ⟨g1, cap1, x, hv, xc, xf, hg1, hg2, hput⟩ := (hown1.below hb4 (Nat.le_refl _)).put hu4 hsz k HL.out
          simp only [Value.slice.injEq, Option.some.injEq, Addr.mk.injEq, and_true] at hv
          obtain ⟨rfl, _, _⟩ := hv
          rw [HF] at hput
          have hs4 := hb4.size
          refine ⟨x, xc, xf, (hT1.on hb4).far _ _ (fun e => hGV e.symm), (hR1.on hb4).far _ _ (by omega), by simpa using hput, (hbel.trans (hb4.mono hbel.size)).setCell (show w.heap.size ≤ G by omega) _, by simp; omega⟩
        have hrl : r.length ≤ 1048576 := by omega
        clear hrel hA hT hR hown hbw hT1 hR1 hown1 hbel HF hlen hr hI hbE HL
        have hi1 : (0 : Int) ≤ (k : Int) := by omega
        have hi2 : (k : Int) < (rows.length : Int) := by omega
        go_wp2
        go_region_law (refine step_allI rfl (.tmp 24) (.tmp 25) 139 rfl 3 Tryz.underlying139 (.int .i64 0) 1 8 Tryz.infoInt rfl (by omega) (by omega) wr.heap.size rfl (by exact heap_alloc_new _ _) ai r.length ci (ints r) rfl (by rw [ints_length]; omega) HSI.out.1 (HSI.out.2 _ hbEd) (ints_one' r) hrl ?_; rintro g4 c4 w4 o4 b4 n4 k4; have hb4 : Below wr.heap.size wr w4 := hbEd.trans b4; have hu4 := ownV_of_rowI o4; have f1 := HKC.out _ hb4; obtain ⟨x4, xc, xf, HX⟩ := HN.out g4 c4 w4 hb4 hu4; clear o4 b4 n4 k4)
        all_goals (
          clear hb4 hu4 f1 xc xf HN HSI HKC d0 e0 hbEd
          go_wp2
          refine ⟨?_, ?_⟩
          · exact ⟨⟨k + 1, by omega, by go_num, HX.out.1, HX.out.2.1, HX.out.2.2.1, HX.out.2.2.2.1, HX.out.2.2.2.2⟩⟩
          · simp [intOf]; omega)
      · have hke : k = rows.length := by omega
        subst hke
        simp only [List.take_length, Nat.sub_self, List.replicate_zero, List.append_nil] at hown1
        obtain ⟨t0, t1⟩ := hT1.cells
        obtain ⟨r0, r1⟩ := hR1.cells
        have f0 := hR1.thaw 0
        have f1 := hR1.thaw 1
        have HO : Hid (OwnSS wr (w.heap.size + 2) wr.heap.size (.slice (some ⟨G, 0, none⟩) rows.length rows.length) rows) := hown1
        clear hrel hown1 hT1 hlt hA hT hR hown hbw
        go_wp2
        obtain ⟨q0, q1⟩ := (hR1.put (.slice (some ⟨G, 0, none⟩) rows.length rows.length) (.int .i64 added)).cells
        refine bodyPost_ret (v := .agg #[.slice (some ⟨G, 0, none⟩) rows.length rows.length, .int .i64 added]) (by simp [results, Tryz.results114, go_sem, q0, q1]) rfl ⟨_, rfl, ⟨_, rfl, ?_⟩, Below.put2 hbel (by omega) _ _⟩
        refine (HO.out.put2 hR1 _ _).mono (by omega) ?_
        simp
end Go.Proofs.YtcaakommnglnbaaGreatDoor
