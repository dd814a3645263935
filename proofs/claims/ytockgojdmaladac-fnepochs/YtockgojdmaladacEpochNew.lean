/- New epochs, of both texts. -/
import Derived.Test.YtockgojdmaladacEpochMore
namespace Go.Proofs.Ytockgojdmaladac
open Go.RowKit Go.Sort
theorem OwnP.nil (w : World) (base : Nat) (e : TypeId) : OwnP w base e (.slice none 0 0) [] := World.ownsRow_nil w base e 2
set_option maxRecDepth 100000 in
set_option maxHeartbeats 2000000 in
theorem specEpochsNew_any (w : World) (n : Int) :
    Calls Try.prog 94 #[.int .i64 n] w fun e w' => ∃ v, e = .returned v ∧ EOwn w' w.heap.size v (newE n) ∧ Below w.heap.size w w' := by
  obtain ⟨m, hm, hm1, hm2⟩ : ∃ m : Nat, newE n = ⟨2, List.replicate m 0, []⟩ ∧ 1 ≤ m ∧ m ≤ 4 ∧ ((m : Int) = max 1 (min n 4)) := ⟨(max 1 (min n 4)).toNat, rfl, by omega, by omega, by omega⟩
  obtain ⟨hm2, hm3⟩ := hm2
  obtain ⟨w1, hw1⟩ : ∃ x, w.alloc (.cells #[.int .i64 0, .slice none 0 0, .slice none 0 0] 50) = x := ⟨_, rfl⟩
  have hb1 : Below w.heap.size w w1 := by rw [← hw1]; exact (Below.refl _ _).alloc (Nat.le_refl _) _
  have hR : EBox w1 w.heap.size (.int .i64 0) (.slice none 0 0) (.slice none 0 0) := by rw [← hw1]; exact EBox.new _ _ _ _
  obtain ⟨i0, hi, hz0, hz1, hz2⟩ := info_parts Try.infoInt
  obtain ⟨w2, hmk, hown0, hgr0⟩ := run_make_full (P := Try.prog) w1 w1.heap.size 27 3 i0 (.int .i64 0) 1 Try.underlying27 hi hz0 hz1 .i64 .i64 m (by rw [hz2]; omega) (by unfold maxLen; omega) (Nat.le_refl _)
  have hb2 : Below w1.heap.size w1 w2 := ⟨hgr0.os, hgr0.tape, hgr0.output, hgr0.size, fun j hj => hgr0.block j hj (by simp)⟩
  have hown : OwnV w2 w1.heap.size 3 (.slice (some ⟨w1.heap.size, 0, none⟩) m m) (ints (List.replicate m 0)) := by
    have h := hown0
    rw [show (Value.int .i64 0).cells = #[Value.int .i64 0] from rfl, toList_madeCells_one, Nat.mul_one] at h
    have e : ints (List.replicate m 0) = List.replicate m (Value.int .i64 0) := by simp [ints]
    unfold OwnV
    rw [e, List.length_replicate]
    exact h
  have s1 : w1.heap.size = w.heap.size + 1 := by rw [← hw1]; simp
  rw [s1] at hmk
  have hown' : OwnV w2 w1.heap.size 3 (.slice (some ⟨w.heap.size + 1, 0, none⟩) m m) (ints (List.replicate m 0)) := by rw [← s1]; exact hown
  have hR2 := hR.on hb2
  obtain ⟨r0, r1, r2⟩ := hR2.cells
  obtain ⟨f0, f1, f2⟩ := (⟨hR2.thaw 0, hR2.thaw 1, hR2.thaw 2⟩ : _ ∧ _ ∧ _)
  obtain ⟨q0, q1, q2⟩ := (hR2.put (.int .i64 2) (.slice (some ⟨w.heap.size + 1, 0, none⟩) m m) (.slice none 0 0)).cells
  have HE : Hid (EOwn w2 w.heap.size (.agg #[.int .i64 2, .slice (some ⟨w.heap.size + 1, 0, none⟩) m m, .slice none 0 0]) (newE n) ∧ Below w.heap.size w w2) := by
    refine ⟨?_, hb1.trans (hb2.mono hb1.size)⟩
    rw [hm]
    exact (EOwn.mk hown' (OwnP.nil _ _ _)).mono hb1.size
  have HW : Hid (w.alloc (.cells #[.int .i64 0, .slice none 0 0, .slice none 0 0] 50) = w1) := hw1
  rw [← hw1] at hmk
  clear hw1 hown0 hgr0 hi hz0 hz1 hz2 hb1 hb2 hR hown hown' s1 hm
  by_cases h1 : n < 1
  · rw [show (m : Int) = 1 by omega] at hmk
    clear hm1 hm2 hm3
    go_enter Try.func94, Try.ntmps94
    go_wp2
    refine bodyPost_ret (v := .agg #[.int .i64 2, .slice (some ⟨w.heap.size + 1, 0, none⟩) m m, .slice none 0 0]) (by simp [results, Try.results94, go_sem, q0, q1, q2]) rfl ⟨_, rfl, HE.out.1.put hR2 _ _ _, Below.put3 HE.out.2 (Nat.le_refl _) _ _ _⟩
  · by_cases h4 : 4 < n
    · rw [show (m : Int) = 4 by omega] at hmk
      clear hm1 hm2 hm3
      go_enter Try.func94, Try.ntmps94
      go_wp2
      refine bodyPost_ret (v := .agg #[.int .i64 2, .slice (some ⟨w.heap.size + 1, 0, none⟩) m m, .slice none 0 0]) (by simp [results, Try.results94, go_sem, q0, q1, q2]) rfl ⟨_, rfl, HE.out.1.put hR2 _ _ _, Below.put3 HE.out.2 (Nat.le_refl _) _ _ _⟩
    · obtain rfl : n = (m : Int) := by omega
      clear hm3
      have g1 : ¬ ((m : Int) < 1) := h1
      have g4 : ¬ ((4 : Int) < (m : Int)) := h4
      go_enter Try.func94, Try.ntmps94
      go_wp2
      refine bodyPost_ret (v := .agg #[.int .i64 2, .slice (some ⟨w.heap.size + 1, 0, none⟩) m m, .slice none 0 0]) (by simp [results, Try.results94, go_sem, q0, q1, q2]) rfl ⟨_, rfl, HE.out.1.put hR2 _ _ _, Below.put3 HE.out.2 (Nat.le_refl _) _ _ _⟩
set_option maxRecDepth 100000 in
set_option maxHeartbeats 2000000 in
theorem implEpochsNew_any (w : World) (n : Int) :
    Calls Try.prog 41 #[.int .i64 n] w fun e w' => ∃ v, e = .returned v ∧ EOwn w' w.heap.size v (newE n) ∧ Below w.heap.size w w' := by
  obtain ⟨m, hm, hm1, hm2⟩ : ∃ m : Nat, newE n = ⟨2, List.replicate m 0, []⟩ ∧ 1 ≤ m ∧ m ≤ 4 ∧ ((m : Int) = max 1 (min n 4)) := ⟨(max 1 (min n 4)).toNat, rfl, by omega, by omega, by omega⟩
  obtain ⟨hm2, hm3⟩ := hm2
  obtain ⟨w1, hw1⟩ : ∃ x, w.alloc (.cells #[.int .i64 0, .slice none 0 0, .slice none 0 0] 50) = x := ⟨_, rfl⟩
  have hb1 : Below w.heap.size w w1 := by rw [← hw1]; exact (Below.refl _ _).alloc (Nat.le_refl _) _
  have hR : EBox w1 w.heap.size (.int .i64 0) (.slice none 0 0) (.slice none 0 0) := by rw [← hw1]; exact EBox.new _ _ _ _
  obtain ⟨i0, hi, hz0, hz1, hz2⟩ := info_parts Try.infoInt
  obtain ⟨w2, hmk, hown0, hgr0⟩ := run_make_full (P := Try.prog) w1 w1.heap.size 27 3 i0 (.int .i64 0) 1 Try.underlying27 hi hz0 hz1 .i64 .i64 m (by rw [hz2]; omega) (by unfold maxLen; omega) (Nat.le_refl _)
  have hb2 : Below w1.heap.size w1 w2 := ⟨hgr0.os, hgr0.tape, hgr0.output, hgr0.size, fun j hj => hgr0.block j hj (by simp)⟩
  have hown : OwnV w2 w1.heap.size 3 (.slice (some ⟨w1.heap.size, 0, none⟩) m m) (ints (List.replicate m 0)) := by
    have h := hown0
    rw [show (Value.int .i64 0).cells = #[Value.int .i64 0] from rfl, toList_madeCells_one, Nat.mul_one] at h
    have e : ints (List.replicate m 0) = List.replicate m (Value.int .i64 0) := by simp [ints]
    unfold OwnV
    rw [e, List.length_replicate]
    exact h
  have s1 : w1.heap.size = w.heap.size + 1 := by rw [← hw1]; simp
  rw [s1] at hmk
  have hown' : OwnV w2 w1.heap.size 3 (.slice (some ⟨w.heap.size + 1, 0, none⟩) m m) (ints (List.replicate m 0)) := by rw [← s1]; exact hown
  have hR2 := hR.on hb2
  obtain ⟨r0, r1, r2⟩ := hR2.cells
  obtain ⟨f0, f1, f2⟩ := (⟨hR2.thaw 0, hR2.thaw 1, hR2.thaw 2⟩ : _ ∧ _ ∧ _)
  obtain ⟨q0, q1, q2⟩ := (hR2.put (.int .i64 2) (.slice (some ⟨w.heap.size + 1, 0, none⟩) m m) (.slice none 0 0)).cells
  have HE : Hid (EOwn w2 w.heap.size (.agg #[.int .i64 2, .slice (some ⟨w.heap.size + 1, 0, none⟩) m m, .slice none 0 0]) (newE n) ∧ Below w.heap.size w w2) := by
    refine ⟨?_, hb1.trans (hb2.mono hb1.size)⟩
    rw [hm]
    exact (EOwn.mk hown' (OwnP.nil _ _ _)).mono hb1.size
  have HW : Hid (w.alloc (.cells #[.int .i64 0, .slice none 0 0, .slice none 0 0] 50) = w1) := hw1
  rw [← hw1] at hmk
  clear hw1 hown0 hgr0 hi hz0 hz1 hz2 hb1 hb2 hR hown hown' s1 hm
  by_cases h1 : n < 1
  · rw [show (m : Int) = 1 by omega] at hmk
    clear hm1 hm2 hm3
    go_enter Try.func41, Try.ntmps41
    go_wp2
    refine bodyPost_ret (v := .agg #[.int .i64 2, .slice (some ⟨w.heap.size + 1, 0, none⟩) m m, .slice none 0 0]) (by simp [results, Try.results41, go_sem, q0, q1, q2]) rfl ⟨_, rfl, HE.out.1.put hR2 _ _ _, Below.put3 HE.out.2 (Nat.le_refl _) _ _ _⟩
  · by_cases h4 : 4 < n
    · rw [show (m : Int) = 4 by omega] at hmk
      clear hm1 hm2 hm3
      go_enter Try.func41, Try.ntmps41
      go_wp2
      refine bodyPost_ret (v := .agg #[.int .i64 2, .slice (some ⟨w.heap.size + 1, 0, none⟩) m m, .slice none 0 0]) (by simp [results, Try.results41, go_sem, q0, q1, q2]) rfl ⟨_, rfl, HE.out.1.put hR2 _ _ _, Below.put3 HE.out.2 (Nat.le_refl _) _ _ _⟩
    · obtain rfl : n = (m : Int) := by omega
      clear hm3
      have g1 : ¬ ((m : Int) < 1) := h1
      have g4 : ¬ ((4 : Int) < (m : Int)) := h4
      go_enter Try.func41, Try.ntmps41
      go_wp2
      refine bodyPost_ret (v := .agg #[.int .i64 2, .slice (some ⟨w.heap.size + 1, 0, none⟩) m m, .slice none 0 0]) (by simp [results, Try.results41, go_sem, q0, q1, q2]) rfl ⟨_, rfl, HE.out.1.put hR2 _ _ _, Below.put3 HE.out.2 (Nat.le_refl _) _ _ _⟩
end Go.Proofs.Ytockgojdmaladac
