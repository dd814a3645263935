/- A task that is right: the program's, part two. -/
import Derived.Test.YtockgojdmaladabTaskKit
import Derived.Test.YtockgojdmaladabNodeImpl
namespace Go.Proofs.Ytockgojdmaladab
open Go.RowKit Go.Sort

set_option maxRecDepth 100000 in
set_option maxHeartbeats 4000000 in
theorem taskOk_two (t : Tk) (w : World) (h0 : 1 ≤ t.kind) (h1 : t.kind ≤ 3) (h2 : 1 ≤ t.key) (h3 : t.key ≤ 99) (h4 : 0 ≤ t.val) (hno : ¬ (t.val ≤ 99 ∧ 1 ≤ t.node ∧ t.node ≤ 20 ∧ 0 ≤ t.pc ∧ t.pc ≤ 6)) :
    Calls Try.prog 35 #[.agg (tcs t)] w fun e w' => e = .returned (.bool t.ok) ∧ Below w.heap.size w w' := by
  have HNO : Hid _ := hno
  clear hno
  obtain ⟨w1, hw1⟩ : ∃ w1, w.alloc (.cells (tcs t) 43) = w1 := ⟨_, rfl⟩
  have hb : Below w.heap.size w w1 := by rw [← hw1]; exact (Below.refl _ _).alloc (Nat.le_refl _) _
  have hT : TBox w1 w.heap.size t := by rw [← hw1]; exact TBox.new _ _
  have HW : Hid (w.alloc (.cells (tcs t) 43) = w1) := hw1
  obtain ⟨b0, b1, b2, b3, b4, b5, b6, b7, b8, _⟩ := hT.cells
  have HC : Hid (∀ x, Calls Try.prog 72 #[.int .i64 x] w1 fun e w' => e = .returned (.bool (btw x 0 20)) ∧ w' = w1) := fun x => nodeOrNone_any x w1
  have HOK : Hid (t.ok = (btw t.kind 1 3 && (btw t.key 1 99 && (btw t.val 0 99 && (btw t.node 1 20 && (btw t.pc 0 6 && (btw t.prev 0 20 && (btw t.cur 0 20 && (btw t.next 0 20 && (btw t.mark 0 1)))))))))) := rfl
  clear hw1 hT
  unfold tcs at *
  have d0 : decide ((1 : Int) ≤ t.kind) = true := decide_eq_true h0
  have d1 : decide (t.kind ≤ 3) = true := decide_eq_true h1
  have d2 : decide ((1 : Int) ≤ t.key) = true := decide_eq_true h2
  have d3 : decide (t.key ≤ 99) = true := decide_eq_true h3
  have d4 : decide ((0 : Int) ≤ t.val) = true := decide_eq_true h4
  by_cases h5 : t.val ≤ 99
  case neg =>
    have d5 : decide (t.val ≤ 99) = false := decide_eq_false h5
    have HF : Hid (t.ok = false) := by
      show t.ok = false
      cases h : t.ok
      · rfl
      · have := Tk.ok_iff.1 h
        omega
    clear h0
    clear h1
    clear h2
    clear h3
    clear h4
    clear h5
    go_enter Try.func35, Try.ntmps35
    go_wp2
    all_goals rw [HW.out]
    all_goals go_ret
    all_goals exact ⟨by rw [HF.out]; rfl, hb⟩
  have d5 : decide (t.val ≤ 99) = true := decide_eq_true h5
  by_cases h6 : 1 ≤ t.node
  case neg =>
    have d6 : decide ((1 : Int) ≤ t.node) = false := decide_eq_false h6
    have HF : Hid (t.ok = false) := by
      show t.ok = false
      cases h : t.ok
      · rfl
      · have := Tk.ok_iff.1 h
        omega
    clear h0
    clear h1
    clear h2
    clear h3
    clear h4
    clear h5
    clear h6
    go_enter Try.func35, Try.ntmps35
    go_wp2
    all_goals rw [HW.out]
    all_goals go_ret
    all_goals exact ⟨by rw [HF.out]; rfl, hb⟩
  have d6 : decide ((1 : Int) ≤ t.node) = true := decide_eq_true h6
  by_cases h7 : t.node ≤ 20
  case neg =>
    have d7 : decide (t.node ≤ 20) = false := decide_eq_false h7
    have HF : Hid (t.ok = false) := by
      show t.ok = false
      cases h : t.ok
      · rfl
      · have := Tk.ok_iff.1 h
        omega
    clear h0
    clear h1
    clear h2
    clear h3
    clear h4
    clear h5
    clear h6
    clear h7
    go_enter Try.func35, Try.ntmps35
    go_wp2
    all_goals rw [HW.out]
    all_goals go_ret
    all_goals exact ⟨by rw [HF.out]; rfl, hb⟩
  have d7 : decide (t.node ≤ 20) = true := decide_eq_true h7
  by_cases h8 : 0 ≤ t.pc
  case neg =>
    have d8 : decide ((0 : Int) ≤ t.pc) = false := decide_eq_false h8
    have HF : Hid (t.ok = false) := by
      show t.ok = false
      cases h : t.ok
      · rfl
      · have := Tk.ok_iff.1 h
        omega
    clear h0
    clear h1
    clear h2
    clear h3
    clear h4
    clear h5
    clear h6
    clear h7
    clear h8
    go_enter Try.func35, Try.ntmps35
    go_wp2
    all_goals rw [HW.out]
    all_goals go_ret
    all_goals exact ⟨by rw [HF.out]; rfl, hb⟩
  have d8 : decide ((0 : Int) ≤ t.pc) = true := decide_eq_true h8
  by_cases h9 : t.pc ≤ 6
  case neg =>
    have d9 : decide (t.pc ≤ 6) = false := decide_eq_false h9
    have HF : Hid (t.ok = false) := by
      show t.ok = false
      cases h : t.ok
      · rfl
      · have := Tk.ok_iff.1 h
        omega
    clear h0
    clear h1
    clear h2
    clear h3
    clear h4
    clear h5
    clear h6
    clear h7
    clear h8
    clear h9
    go_enter Try.func35, Try.ntmps35
    go_wp2
    all_goals rw [HW.out]
    all_goals go_ret
    all_goals exact ⟨by rw [HF.out]; rfl, hb⟩
  have d9 : decide (t.pc ≤ 6) = true := decide_eq_true h9
  exact absurd ⟨h5, h6, h7, h8, h9⟩ HNO.out
end Go.Proofs.Ytockgojdmaladab
