/- Texts that stand in one: SameInts, SketchesDraw. -/
import Derived.Test.YtbcjkinalghokafDoorStrsJ
import Derived.Test.YtbcjkinalghokafDoorSketchAny
import Derived.Test.YtbcjkinalghokafDoorSkLaw2
import Derived.Lib.QuietBelow
import Derived.BigQuiet
namespace Go.Proofs.YtbcjkinalghokafDoor
open Go.RowKit Go.Sort

set_option maxHeartbeats 1000000 in
theorem sameInts_same (w : World) (a b : Option Addr) (c1 c2 : Nat) (l : List Int) (hA : IAt w a l w.heap.size) (hB : IAt w b l w.heap.size) (hl : l.length ≤ 1048576) :
    Calls Tryd.prog 65 #[.slice a l.length c1, .slice b l.length c2] w fun e w' => e = .returned (.bool true) ∧ Below w.heap.size w w' := by
  go_enter Tryd.func65, Tryd.ntmps65
  go_wp2
  go_loopw [5] (fun i wr => Box (∃ (k nq : Nat), k ≤ l.length ∧ i = .int .i64 k ∧ wr = w.drewN nq))
    (fun i _ => l.length - (intOf i).toNat)
  case atStart => exact ⟨⟨0, 0, by omega, rfl, rfl⟩⟩
  case round =>
    obtain ⟨k, nq, hk, rfl, rfl⟩ := hrel.out
    by_cases hlt : k < l.length
    · obtain ⟨g, off, rfl, _, hc1⟩ := hA k hlt
      obtain ⟨g2, off2, rfl, _, hc2⟩ := hB k hlt
      obtain ⟨x, hx⟩ : ∃ x, l[k] = x := ⟨_, rfl⟩
      rw [hx] at hc1 hc2
      clear hA hB hx hrel
      have hi1 : (0 : Int) ≤ (k : Int) := by omega
      have hi2 : (k : Int) < (l.length : Int) := by omega
      go_wp2
      go_quiet (fail)
      go_wp2
      go_roundw
      case rel =>
        try ((repeat apply Exists.intro); refine ⟨?_, rfl⟩)
        exact ⟨⟨k + 1, _, by omega, by go_num, rfl⟩⟩
      case measure => simp [intOf]; omega
    · go_wp2
      go_ret
      exact ⟨rfl, ⟨rfl, rfl, rfl, Nat.le_refl _, fun _ _ => rfl⟩⟩
end Go.Proofs.YtbcjkinalghokafDoor

namespace Go.Proofs.YtbcjkinalghokafDoor
open Go.RowKit Go.Sort

set_option maxRecDepth 100000 in
set_option maxHeartbeats 2000000 in
theorem sameSketch_same (w : World) (a b : Option Addr) (c d : Nat) (S : Sk) (hA : SSAt w a S.rows w.heap.size) (hB : SSAt w b S.rows w.heap.size) (hm : SkSz S) :
    Calls Tryd.prog 39 #[.agg #[.slice a S.rows.length c, .int .i64 S.added], .agg #[.slice b S.rows.length d, .int .i64 S.added]] w fun e w' => e = .returned (.bool true) ∧ Below w.heap.size w w' := by
  obtain ⟨rows, added⟩ := S
  unfold SkSz at hm
  dsimp only at *
  obtain ⟨w0, hw0⟩ : ∃ x, w.alloc (.cells #[.slice a rows.length c, .int .i64 added] 27) = x := ⟨_, rfl⟩
  obtain ⟨w1, hw1⟩ : ∃ x, w0.alloc (.cells #[.slice b rows.length d, .int .i64 added] 27) = x := ⟨_, rfl⟩
  have hb0 : Below w.heap.size w w0 := by rw [← hw0]; exact (Below.refl _ _).alloc (Nat.le_refl _) _
  have hb1 : Below w0.heap.size w0 w1 := by rw [← hw1]; exact (Below.refl _ _).alloc (Nat.le_refl _) _
  have s0 : w0.heap.size = w.heap.size + 1 := by rw [← hw0]; simp
  have hX : SkBox w1 w.heap.size (.slice a rows.length c) (.int .i64 added) := by
    have h : SkBox w0 w.heap.size (.slice a rows.length c) (.int .i64 added) := by rw [← hw0]; exact SkBox.new _ _ _
    exact h.on hb1
  have hY : SkBox w1 (w.heap.size + 1) (.slice b rows.length d) (.int .i64 added) := by rw [← hw1, ← s0]; exact SkBox.new _ _ _
  have hbw : Below w.heap.size w w1 := hb0.trans (hb1.mono hb0.size)
  obtain ⟨x0, x1⟩ := hX.cells
  obtain ⟨y0, y1⟩ := hY.cells
  have HW : Hid ((w.alloc (.cells #[.slice a rows.length c, .int .i64 added] 27)).alloc (.cells #[.slice b rows.length d, .int .i64 added] 27) = w1) := by rw [hw0]; exact hw1
  rw [← hw1, ← hw0] at x0 x1 y0 y1
  have hnn : (added != added) = false := by simp
  have hA1 := hA.on hbw
  have hB1 := hB.on hbw
  clear hw0 hw1 s0 hb0 hb1 hA hB
  go_enter Tryd.func39, Tryd.ntmps39
  go_wp2
  rw [HW.out]
  clear x0 x1 y0 y1
  go_loopw [5] (fun i wr => Box (∃ (k : Nat), k ≤ rows.length ∧ i = .int .i64 k ∧ Below w1.heap.size w1 wr))
    (fun i _ => rows.length - (intOf i).toNat)
  case atStart => exact ⟨⟨0, by omega, rfl, Below.refl _ _⟩⟩
  case round =>
    obtain ⟨k, hk, rfl, hbel⟩ := hrel.out
    obtain ⟨x0, x1⟩ := (hX.on hbel).cells
    obtain ⟨y0, y1⟩ := (hY.on hbel).cells
    by_cases hlt : k < rows.length
    · obtain ⟨g, off, ai, ci, rfl, hg, hc0, hI⟩ := hA1.on hbel k hlt
      obtain ⟨g', off', bi, di, rfl, hg', hd0, hJ⟩ := hB1.on hbel k hlt
      have hlen := tot_at rows k hlt
      obtain ⟨f, hf⟩ : ∃ f, rows[k] = f := ⟨_, rfl⟩
      rw [hf] at hc0 hd0 hI hJ hlen
      have k0 := cell_regrown hc0
      have l0 := cell_regrown hd0
      have k1 := cell_regrown x0
      have l1 := cell_regrown y0
      have cV : ∀ dd os, Calls Tryd.prog 65 #[.slice ai f.length ci, .slice bi f.length di] (grow (redrawn wr dd) os) fun e w'' => e = .returned (.bool true) ∧ ∃ p : Regrown, w'' = grow (redrawn wr p.d) p.os := fun dd os => Calls.regrown_of (by have h := below_regrown wr dd os; have := sameInts_same (grow (redrawn wr dd) os) ai bi ci di f (hI.on h) (hJ.on h) (by omega); simpa using this)
      clear hrel hc0 hd0 hI hJ hf hlen x1 y1 hA1 hB1
      have hi1 : (0 : Int) ≤ (k : Int) := by omega
      have hi2 : (k : Int) < (rows.length : Int) := by omega
      go_wp2
      refine wp_region_quiet_below (by kernel_rfl) (by kernel_rfl) ?_
      repeat (first | go_big_quiet_step (exact cV _ _) | quiet_step (exact cV _ _))
      refine wpQuiet_nil ?_
      intro _ hw'
      obtain ⟨⟨dq, osq⟩, hw''⟩ := hw'
      subst hw''
      go_wp2
      go_roundw
      case rel =>
        try ((repeat apply Exists.intro); refine ⟨?_, rfl⟩)
        exact ⟨⟨k + 1, by omega, by go_num, hbel.trans ((below_regrown wr dq osq).mono hbel.size)⟩⟩
      case measure => simp [intOf]; omega
    · go_wp2
      go_ret
      exact ⟨rfl, hbw.trans (hbel.mono hbw.size)⟩
end Go.Proofs.YtbcjkinalghokafDoor
