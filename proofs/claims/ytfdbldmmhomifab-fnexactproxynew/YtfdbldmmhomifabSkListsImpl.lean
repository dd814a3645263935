/- The program's lists out of an array, and its new sketch. -/
import Derived.Test.YtfdbldmmhomifabSkFlat
import Derived.Test.YtfdbldmmhomifabSkLaw
import Derived.Test.YtfdbldmmhomifabCellSpec
namespace Go.Proofs.Ytfdbldmmhomifab
open Go.RowKit Go.Sort

/-- A row that was just made is put into its place. -/
theorem OwnSS.put_new {wr w4 : World} {lo G n c k : Nat} {v4 : Value} {LL : List (List Int)} {r : List Int} (h : OwnSS wr lo wr.heap.size (.slice (some ⟨G, 0, none⟩) n c) LL) (hk : k < LL.length) (hlo : lo ≤ wr.heap.size)
    (ho : OwnV w4 wr.heap.size 3 v4 (ints r)) (hg : (wr.alloc (.cells #[] 3)).grownBy w4 (some wr.heap.size)) :
    ∃ ua uc x, v4 = .slice ua r.length uc ∧ w4.cell? ⟨G, k, none⟩ = some x ∧ w4.frozen? ⟨G, k, none⟩ = false ∧ OwnSS (w4.setCell ⟨G, k, none⟩ (.slice ua r.length uc)) lo (w4.setCell ⟨G, k, none⟩ (.slice ua r.length uc)).heap.size (.slice (some ⟨G, 0, none⟩) n c) (LL.set k r) ∧ Below wr.heap.size wr w4 ∧ lo ≤ G ∧ G < wr.heap.size := by
  have hb : Below wr.heap.size wr w4 := ((Below.refl _ wr).alloc (Nat.le_refl _) _).grown hg (by simp) (fun k e => by cases e; exact Nat.le_refl _)
  obtain ⟨ua, uc, rfl, _⟩ := ho.ints
  obtain ⟨g1, cap1, x, hv, xc, xf, hg1, hg2, hput⟩ := (h.below hb (Nat.le_refl _)).put ho hlo k hk
  simp only [Value.slice.injEq, Option.some.injEq, Addr.mk.injEq, and_true] at hv
  obtain ⟨rfl, _, _⟩ := hv
  exact ⟨ua, uc, x, rfl, xc, xf, by simpa using hput, hb, hg1, hg2⟩

set_option maxRecDepth 100000 in
set_option maxHeartbeats 4000000 in
theorem lists_any (w : World) (rows : List (List Int)) (h3 : rows.length = 3) (h16 : All16 rows) :
    Calls Try.prog 80 #[.agg (ints rows.flatten).toArray] w fun e w' => ∃ v, e = .returned v ∧ OwnSS w' w.heap.size w'.heap.size v rows ∧ Below w.heap.size w w' := by
  obtain ⟨w1, hw1⟩ : ∃ x, w.alloc (.cells (ints rows.flatten).toArray 110) = x := ⟨_, rfl⟩
  have hb1 : Below w.heap.size w w1 := by rw [← hw1]; exact (Below.refl _ _).alloc (Nat.le_refl _) _
  have hR : RBox w1 w.heap.size rows := by rw [← hw1]; exact RBox.new _ _
  have s1 : w1.heap.size = w.heap.size + 1 := by rw [← hw1]; simp
  have HW : Hid (w.alloc (.cells (ints rows.flatten).toArray 110) = w1) := hw1
  obtain ⟨i0, hi, hz0, hz1, hz2⟩ := info_parts Try.infoIntS
  obtain ⟨w2, hmk, hown0, hgr0⟩ := run_make_full (P := Try.prog) w1 w1.heap.size 24 107 i0 (.slice none 0 0) 1 Try.underlying24 hi hz0 hz1 .i64 .i64 3 (by rw [hz2]; omega) (by unfold maxLen; omega) (Nat.le_refl _)
  have hb2 : Below w1.heap.size w1 w2 := ⟨hgr0.os, hgr0.tape, hgr0.output, hgr0.size, fun j hj => hgr0.block j hj (by simp)⟩
  obtain ⟨G, hG⟩ : ∃ G, w1.heap.size = G := ⟨_, rfl⟩
  have hown : OwnSS w2 G w2.heap.size (.slice (some ⟨G, 0, none⟩) 3 3) (List.replicate 3 []) := by
    rw [← hG]
    refine OwnSS.made ?_
    have := hown0
    rw [show (Value.slice none 0 0).cells = #[Value.slice none 0 0] from rfl, toList_madeCells_one, Nat.mul_one] at this
    unfold OwnV
    rw [List.length_replicate]
    exact this
  rw [hG] at hmk
  have hbw : Below w.heap.size w w2 := hb1.trans (hb2.mono hb1.size)
  have hR2 := hR.on hb2
  rw [← hw1, show ((3 : Nat) : Int) = 3 from rfl] at hmk
  have hGw : w.heap.size < G := by omega
  clear hown0 hgr0 hi hz0 hz1 hz2 hw1 hb1 hb2 hR s1
  go_enter Try.func80, Try.ntmps80
  go_wp2
  go_loopw [4, 6] (fun _ i wr => Box (∃ (k : Nat), k ≤ 3 ∧ i = .int .i64 k ∧ OwnSS wr G wr.heap.size (.slice (some ⟨G, 0, none⟩) 3 3) (rows.take k ++ List.replicate (rows.length - k) []) ∧ RBox wr w.heap.size rows ∧ Below w.heap.size w wr))
    (fun _ i _ => 3 - (intOf i).toNat)
  case atStart => exact ⟨⟨0, by omega, rfl, by simpa [h3] using hown, hR2, hbw⟩⟩
  case round =>
    obtain ⟨k, hk, rfl, hown1, hR1, hbel⟩ := hrel.out
    by_cases hlt : k < 3
    · have hk3 : k < rows.length := by omega
      have hI := hR1.at h16 hk3
      have hl16 := all16_get h16 hk3
      have HL : Hid (k < (rows.take k ++ List.replicate (rows.length - k) ([] : List Int)).length) := by show _ < _; simp; omega
      have HF := fill_set rows [] k hk3
      obtain ⟨r, hrr⟩ : ∃ r, rows[k] = r := ⟨_, rfl⟩
      rw [hrr] at hI HF hl16
      have HF' : Hid ((rows.take k ++ List.replicate (rows.length - k) ([] : List Int)).set k r = rows.take (k + 1) ++ List.replicate (rows.length - (k + 1)) []) := HF
      have HLr : Hid (rows.length = 3 ∧ r.length = 16) := ⟨h3, hl16⟩
      have hGs : G ≤ wr.heap.size := by
        obtain ⟨vs, hv, hb, _⟩ := hown1
        have := hb G rfl
        omega
      have HN : Hid (∀ v4 w4, OwnV w4 wr.heap.size 3 v4 (ints r) → (wr.alloc (.cells #[] 3)).grownBy w4 (some wr.heap.size) → ∃ ua uc x, v4 = .slice ua r.length uc ∧ w4.cell? ⟨G, k, none⟩ = some x ∧ w4.frozen? ⟨G, k, none⟩ = false ∧ Hid (OwnSS (w4.setCell ⟨G, k, none⟩ (.slice ua r.length uc)) G (w4.setCell ⟨G, k, none⟩ (.slice ua r.length uc)).heap.size (.slice (some ⟨G, 0, none⟩) 3 3) (rows.take (k + 1) ++ List.replicate (rows.length - (k + 1)) []) ∧ RBox (w4.setCell ⟨G, k, none⟩ (.slice ua r.length uc)) w.heap.size rows ∧ Below w.heap.size w (w4.setCell ⟨G, k, none⟩ (.slice ua r.length uc)))) := by
        intro v4 w4 ho hg
        obtain ⟨ua, uc, x, e, xc, xf, hput, hb, _, _⟩ := hown1.put_new HL.out hGs ho hg
        rw [HF] at hput
        exact ⟨ua, uc, x, e, xc, xf, hput, (hR1.on hb).kept (Below.heap_setCell _ _ _ _ (show w.heap.size ≠ G by omega)), (hbel.trans (hb.mono hbel.size)).setCell (show w.heap.size ≤ G by omega) _⟩
      clear hrel hmk hown hR2 hbw HF HF' hrr hown1 hR1 hbel h3 hl16 HL
      have hi1 : (0 : Int) ≤ (k : Int) := by omega
      have hi2 : (k : Int) < 3 := by omega
      go_wp2_with (at_builtin; refine wpList_allI rfl (.tmp 11) (.tmp 14) 107 rfl wr.heap.size 3 Try.underlying107 Try.infoInt wr.heap.size rfl (own_empty wr) ⟨w.heap.size, k * 16, none⟩ 16 r _ (by rw [HLr.out.2]; rfl) (hI.alloc _) (by have := HLr.out.2; omega) (by simp) ?_; intro v4 w4 hown4 hgr4; obtain ⟨ua, uc, x4, rfl, xc, xf, HX⟩ := HN.out v4 w4 hown4 hgr4; clear hown4 hgr4)
      go_roundw
      case rel =>
        try ((repeat apply Exists.intro); refine ⟨?_, rfl⟩)
        exact ⟨⟨k + 1, by omega, by go_num, HX.out.1, HX.out.2.1, HX.out.2.2⟩⟩
      case measure => simp [intOf]; omega
    · go_wp2_with fail
      go_ret
      have hke : k = rows.length := by omega
      subst hke
      simp only [List.take_length, Nat.sub_self, List.replicate_zero, List.append_nil] at hown1
      exact ⟨_, rfl, hown1.mono (by omega) (Nat.le_refl _), hbel⟩
end Go.Proofs.Ytfdbldmmhomifab
