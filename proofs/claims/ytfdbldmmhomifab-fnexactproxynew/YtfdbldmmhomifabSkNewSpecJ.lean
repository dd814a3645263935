/- Texts that stand in one: SkNewSpec, PolNewSpec. -/
import Derived.Test.YtfdbldmmhomifabSkStep
import Derived.Test.YtfdbldmmhomifabStrsJ
import Derived.Test.YtfdbldmmhomifabPolLaw
namespace Go.Proofs.Ytfdbldmmhomifab
open Go.RowKit Go.Sort

set_option maxRecDepth 100000 in
set_option maxHeartbeats 4000000 in
theorem specSketchNew_any (w : World) :
    Calls Try.prog 45 #[] w fun e w' => ∃ v, e = .returned v ∧ SkOwn w' w.heap.size w'.heap.size v newS ∧ Below w.heap.size w w' := by
  obtain ⟨w0, hw0⟩ : ∃ x, w.alloc (.cells #[.slice none 0 0, .int .i64 0] 26) = x := ⟨_, rfl⟩
  obtain ⟨w1, hw1⟩ : ∃ x, w0.alloc (.cells #[.slice none 0 0, .int .i64 0] 26) = x := ⟨_, rfl⟩
  have hb0 : Below w.heap.size w w0 := by rw [← hw0]; exact (Below.refl _ _).alloc (Nat.le_refl _) _
  have hb1 : Below w0.heap.size w0 w1 := by rw [← hw1]; exact (Below.refl _ _).alloc (Nat.le_refl _) _
  have s0 : w0.heap.size = w.heap.size + 1 := by rw [← hw0]; simp
  have s1 : w1.heap.size = w.heap.size + 2 := by rw [← hw1]; simp; omega
  have hR : SkBox w1 w.heap.size (.slice none 0 0) (.int .i64 0) := by
    have h : SkBox w0 w.heap.size (.slice none 0 0) (.int .i64 0) := by rw [← hw0]; exact SkBox.new _ _ _
    exact h.on hb1
  have hT : SkBox w1 (w.heap.size + 1) (.slice none 0 0) (.int .i64 0) := by rw [← hw1, ← s0]; exact SkBox.new _ _ _
  have hbw : Below w.heap.size w w1 := hb0.trans (hb1.mono hb0.size)
  have HW : Hid ((w.alloc (.cells #[.slice none 0 0, .int .i64 0] 26)).alloc (.cells #[.slice none 0 0, .int .i64 0] 26) = w1) := by rw [hw0]; exact hw1
  clear hw0 hw1 hb0 hb1 s0
  go_enter Try.func45, Try.ntmps45
  go_wp2
  rw [HW.out]
  go_loopw [2] (fun i wr => Box (∃ (k : Nat) (v : Value), k ≤ 3 ∧ i = .int .i64 k ∧ SkBox wr w.heap.size (.slice none 0 0) (.int .i64 0) ∧ SkBox wr (w.heap.size + 1) v (.int .i64 0) ∧ OwnSS wr (w.heap.size + 2) wr.heap.size v (List.replicate k (List.replicate 16 0)) ∧ Below w.heap.size w wr))
    (fun i _ => 3 - (intOf i).toNat)
  case atStart => exact ⟨⟨0, _, by omega, rfl, hR, hT, OwnSS.nil _ _ _, hbw⟩⟩
  case round =>
    obtain ⟨k, v, hk, rfl, hR1, hT1, hown, hbel⟩ := hrel.out
    by_cases hlt : k < 3
    · obtain ⟨vs, hv, hvb, hvl, hvr, hvd⟩ := hown
      obtain ⟨i0, hi, hz0, hz1, hz2⟩ := info_parts Try.infoInt
      obtain ⟨w2, hmk, hown0, hgr0⟩ := run_make_full (P := Try.prog) wr.drew wr.drew.heap.size 107 3 i0 (.int .i64 0) 1 Try.underlying107 hi hz0 hz1 .i64 .i64 16 (by rw [hz2]; omega) (by unfold maxLen; omega) (Nat.le_refl _)
      have hb2 : Below wr.heap.size wr w2 := (bdrewS wr).trans ⟨hgr0.os, hgr0.tape, hgr0.output, hgr0.size, fun j hj => hgr0.block j hj (by simp)⟩
      have hu : OwnV w2 wr.heap.size 3 (.slice (some ⟨wr.heap.size, 0, none⟩) 16 16) (ints (List.replicate 16 0)) := by
        have h := hown0
        rw [show (Value.int .i64 0).cells = #[Value.int .i64 0] from rfl, toList_madeCells_one, Nat.mul_one] at h
        have e : ints (List.replicate 16 0) = List.replicate 16 (Value.int .i64 0) := by simp [ints]
        unfold OwnV
        rw [e, List.length_replicate]
        exact h
      rw [show ((16 : Nat) : Int) = 16 from rfl, show wr.drew.heap.size = wr.heap.size from rfl] at hmk
      have hb3 : Below wr.heap.size wr (w2.alloc (.cells #[.slice (some ⟨wr.heap.size, 0, none⟩) 16 16] 107)) := hb2.alloc hb2.size _
      have hu3 : OwnV (w2.alloc (.cells #[.slice (some ⟨wr.heap.size, 0, none⟩) 16 16] 107)) wr.heap.size 3 (.slice (some ⟨wr.heap.size, 0, none⟩) 16 16) (ints (List.replicate 16 0)) := hu.alloc _
      have hT2 := hT1.on hb2
      have hT3 := hT1.on hb3
      have t0 := hT1.cells.1
      have t2 := hT2.cells.1
      have t3 := hT3.cells.1
      have hTs := hT1.lt
      have HOV : Hid (OwnV (w2.alloc (.cells #[.slice (some ⟨wr.heap.size, 0, none⟩) 16 16] 107)) (w.heap.size + 2) 107 v vs) := hv.below hb3 (Nat.le_refl _)
      have hvk : vs.length = k := by simpa using hvl
      have HS : Hid (w.heap.size + 2 ≤ w2.heap.size ∧ w2.heap.size ≤ (w2.alloc (.cells #[.slice (some ⟨wr.heap.size, 0, none⟩) 16 16] 107)).heap.size) := ⟨by have := hb2.size; omega, by simp⟩
      have HG : Hid (∀ v' w3, OwnV w3 (w.heap.size + 2) 107 v' (vs ++ [.slice (some ⟨wr.heap.size, 0, none⟩) 16 16]) → (w2.alloc (.cells #[.slice (some ⟨wr.heap.size, 0, none⟩) 16 16] 107)).grownBy w3 v.ownBlock → w3.cell? ⟨w.heap.size + 1, 0, none⟩ = some v ∧ w3.frozen? ⟨w.heap.size + 1, 0, none⟩ = false ∧ Hid (SkBox (w3.setCell ⟨w.heap.size + 1, 0, none⟩ v') w.heap.size (.slice none 0 0) (.int .i64 0) ∧ SkBox (w3.setCell ⟨w.heap.size + 1, 0, none⟩ v') (w.heap.size + 1) v' (.int .i64 0) ∧ OwnSS (w3.setCell ⟨w.heap.size + 1, 0, none⟩ v') (w.heap.size + 2) (w3.setCell ⟨w.heap.size + 1, 0, none⟩ v').heap.size v' (List.replicate (k + 1) (List.replicate 16 0)) ∧ Below w.heap.size w (w3.setCell ⟨w.heap.size + 1, 0, none⟩ v'))) := by
        intro v' w3 ho hg
        obtain ⟨g1, g2, g3, g4, g5, g6⟩ := gatherSS hT1 (by omega) (by omega) hbel (by omega) hv hvl hvr hvd hb3 hu3 hg ho
        refine ⟨g1, g2, hR1.kept (g5 _ (by omega) (by omega)), g3, ?_, g6⟩
        rw [List.replicate_succ']
        exact g4
      clear hrel hR1 hT1 hv hvb hvr hvd hi hz0 hz1 hz2 hown0 hgr0 hb2 hb3 hu hu3 hT2 hT3 hvl hbel
      have hvk1 : (vs.length + 1) * 24 ≤ 140737488355328 := by omega
      have hvk2 : vs.length < 140737488355328 := by omega
      have HVK : Hid (vs.length = k) := hvk
      clear hvk
      go_wp2
      go_region_law (refine step_snocO (by rfl) _ _ 24 (by rfl) (w.heap.size + 2) 107 Try.underlying24 (.slice none 0 0) 24 Try.infoIntS rfl v vs (by rfl) (by exact HOV.out) w2.heap.size (.slice (some ⟨wr.heap.size, 0, none⟩) 16 16) (0, 0) (by rfl) (by exact heap_alloc_new w2 _) rfl hvk1 hvk2 (by have := HS.out; omega) ?_; intro g2 cap2 w3 hown2 hgr2; have hk2 := HG.out _ w3 hown2 hgr2; have q2 := hk2.1; have z2 := hk2.2.1; have HK2 := hk2.2.2; clear hk2 hown2 hgr2)
      all_goals (
        go_wp2
        refine ⟨?_, ?_⟩
        · exact ⟨⟨k + 1, _, by omega, by go_num, HK2.out.1, HK2.out.2.1, HK2.out.2.2.1, HK2.out.2.2.2⟩⟩
        · simp [intOf]; omega)
    · have hke : k = 3 := by omega
      subst hke
      obtain ⟨av, cv, rfl, _⟩ := hown.at
      obtain ⟨t0, t1⟩ := hT1.cells
      obtain ⟨r0, r1⟩ := hR1.cells
      have f0 := hR1.thaw 0
      have f1 := hR1.thaw 1
      have HO : Hid (OwnSS wr (w.heap.size + 2) wr.heap.size (.slice av 3 cv) newS.rows) := hown
      rw [show (List.replicate 3 (List.replicate 16 (0 : Int))).length = 3 from rfl] at t0
      clear hrel hown hT1 hlt
      go_wp2
      obtain ⟨q0, q1⟩ := (hR1.put (.slice av 3 cv) (.int .i64 0)).cells
      refine bodyPost_ret (v := .agg #[.slice av 3 cv, .int .i64 0]) (by simp [results, Try.results45, go_sem, q0, q1]) rfl ⟨_, rfl, ⟨_, rfl, ?_⟩, Below.put2 hbel (Nat.le_refl _) _ _⟩
      refine (HO.out.put2 hR1 _ _).mono (by omega) ?_
      simp
end Go.Proofs.Ytfdbldmmhomifab

namespace Go.Proofs.Ytfdbldmmhomifab
open Go.RowKit Go.Sort

theorem newP_sz : PolSz newP := by unfold PolSz; decide
set_option maxRecDepth 100000 in
set_option maxHeartbeats 4000000 in
theorem specPolicyNew_any (w : World) :
    Calls Try.prog 14 #[] w fun e w' => ∃ v, e = .returned v ∧ POwn w' w.heap.size w'.heap.size v newP ∧ Below w.heap.size w w' := by
  obtain ⟨w1, hw1⟩ : ∃ x, w.alloc (.cells #[.slice none 0 0, .slice none 0 0, .slice none 0 0, .int .i64 0] 28) = x := ⟨_, rfl⟩
  have hb1 : Below w.heap.size w w1 := by rw [← hw1]; exact (Below.refl _ _).alloc (Nat.le_refl _) _
  have hR : PBox w1 w.heap.size (.slice none 0 0) (.slice none 0 0) (.slice none 0 0) (.int .i64 0) := by rw [← hw1]; exact PBox.new _ _ _ _ _
  have HW : Hid (w.alloc (.cells #[.slice none 0 0, .slice none 0 0, .slice none 0 0, .int .i64 0] 28) = w1) := hw1
  have c1 := specSketchNew_any w1
  clear hw1
  go_enter Try.func14, Try.ntmps14
  go_wp2_with fail
  rw [HW.out]
  refine c1.mono ?_
  rintro e w2 ⟨v, rfl, ⟨u, rfl, ho⟩, hb2⟩
  obtain ⟨a, c, rfl, _⟩ := ho.at
  have hR2 := hR.on hb2
  have hbw := hb1.trans (hb2.mono hb1.size)
  obtain ⟨r0, r1, r2, r3⟩ := hR2.cells
  have f0 := hR2.thaw 0
  have f1 := hR2.thaw 1
  have f2 := hR2.thaw 2
  have f3 := hR2.thaw 3
  have HO : Hid (POwn w2 w1.heap.size w2.heap.size (.agg #[.slice none 0 0, .slice none 0 0, .slice a newS.rows.length c, .int .i64 0]) newP) := ⟨_, _, _, rfl, OwnV.nil _ _ _, OwnV.nil _ _ _, fun k hk => by simp [Value.ownBlock] at hk, fun k hk => by simp [Value.ownBlock] at hk, ho⟩
  obtain ⟨n, hn⟩ : ∃ n, newS.rows.length = n := ⟨_, rfl⟩
  have hz : newS.added = 0 := rfl
  rw [hn] at HO ⊢
  rw [hz]
  clear c1 ho hR hb2 HW hn hz
  go_wp2_with fail
  obtain ⟨q0, q1, q2, q3⟩ := (hR2.put (.slice none 0 0) (.slice none 0 0) (.slice a n c) (.int .i64 0)).cells
  refine bodyPost_ret (v := .agg #[.slice none 0 0, .slice none 0 0, .slice a n c, .int .i64 0]) (by simp [results, Try.results14, go_sem, q0, q1, q2, q3]) rfl ⟨_, rfl, ?_, Below.put4 hbw (Nat.le_refl _) _ _ _ _⟩
  refine (HO.out.put4 hR2 _ _ _ _).mono hb1.size ?_
  simp
end Go.Proofs.Ytfdbldmmhomifab
