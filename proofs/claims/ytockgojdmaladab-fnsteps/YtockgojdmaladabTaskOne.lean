/- A task that is right: the program's, part one. -/
import Derived.Test.YtockgojdmaladabTaskKit
import Derived.Test.YtockgojdmaladabNodeImpl
namespace Go.Proofs.Ytockgojdmaladab
open Go.RowKit Go.Sort

set_option maxRecDepth 100000 in
set_option maxHeartbeats 4000000 in
theorem taskOk_one (t : Tk) (w : World) (hno : ¬ (1 ≤ t.kind ∧ t.kind ≤ 3 ∧ 1 ≤ t.key ∧ t.key ≤ 99 ∧ 0 ≤ t.val)) :
    Calls Try.prog 35 #[.agg (tcs t)] w fun e w' => e = .returned (.bool t.ok) ∧ Below w.heap.size w w' := by
  have HNO : Hid _ := hno
  clear hno
  obtain ⟨w1, hw1⟩ : ∃ w1, w.alloc (.cells (tcs t) 43) = w1 := ⟨_, rfl⟩
  have hb : Below w.heap.size w w1 := by rw [← hw1]; exact (Below.refl _ _).alloc (Nat.le_refl _) _
  have hT : TBox w1 w.heap.size t := by rw [← hw1]; exact TBox.new _ _
  have HW : Hid (w.alloc (.cells (tcs t) 43) = w1) := hw1
  obtain ⟨b0, b1, b2, b3, b4, b5, b6, b7, b8, _⟩ := hT.cells
  have HC : Hid (∀ x, Calls Try.prog 72 #[.int .i64 x] w1 fun e w' => e = .returned (.bool (btw x 0 20)) ∧ w' = w1) := fun x => nodeOrNone_any x w1
  have HOK : Hid (t.ok = (btw t.kind 1 3 && (btw t.key 1 99 && (btw t.val 0 99 && (btw t.node 1 20 && (btw t.pc 0 6 && (btw t.prev 0 20 && (btw t.cur 0 20 && (btw t.next 0 20 && (btw t.mark 0 1)))))))))) := rfl
  clear hw1 hT
  unfold tcs at *
  by_cases h0 : 1 ≤ t.kind
  case neg =>
    have d0 : decide ((1 : Int) ≤ t.kind) = false := decide_eq_false h0
    have HF : Hid (t.ok = false) := by
      show t.ok = false
      cases h : t.ok
      · rfl
      · have := Tk.ok_iff.1 h
        omega
    clear h0
    go_enter Try.func35, Try.ntmps35
    go_wp2
    all_goals rw [HW.out]
    all_goals go_ret
    all_goals exact ⟨by rw [HF.out]; rfl, hb⟩
  have d0 : decide ((1 : Int) ≤ t.kind) = true := decide_eq_true h0
  by_cases h1 : t.kind ≤ 3
  case neg =>
    have d1 : decide (t.kind ≤ 3) = false := decide_eq_false h1
    have HF : Hid (t.ok = false) := by
      show t.ok = false
      cases h : t.ok
      · rfl
      · have := Tk.ok_iff.1 h
        omega
    clear h0
    clear h1
    go_enter Try.func35, Try.ntmps35
    go_wp2
    all_goals rw [HW.out]
    all_goals go_ret
    all_goals exact ⟨by rw [HF.out]; rfl, hb⟩
  have d1 : decide (t.kind ≤ 3) = true := decide_eq_true h1
  by_cases h2 : 1 ≤ t.key
  case neg =>
    have d2 : decide ((1 : Int) ≤ t.key) = false := decide_eq_false h2
    have HF : Hid (t.ok = false) := by
      show t.ok = false
      cases h : t.ok
      · rfl
      · have := Tk.ok_iff.1 h
        omega
    clear h0
    clear h1
    clear h2
    go_enter Try.func35, Try.ntmps35
    go_wp2
    all_goals rw [HW.out]
    all_goals go_ret
    all_goals exact ⟨by rw [HF.out]; rfl, hb⟩
  have d2 : decide ((1 : Int) ≤ t.key) = true := decide_eq_true h2
  by_cases h3 : t.key ≤ 99
  case neg =>
    have d3 : decide (t.key ≤ 99) = false := decide_eq_false h3
    have HF : Hid (t.ok = false) := by
      show t.ok = false
      cases h : t.ok
      · rfl
      · have := Tk.ok_iff.1 h
        omega
    clear h0
    clear h1
    clear h2
    clear h3
    go_enter Try.func35, Try.ntmps35
    go_wp2
    all_goals rw [HW.out]
    all_goals go_ret
    all_goals exact ⟨by rw [HF.out]; rfl, hb⟩
  have d3 : decide (t.key ≤ 99) = true := decide_eq_true h3
  by_cases h4 : 0 ≤ t.val
  case neg =>
    have d4 : decide ((0 : Int) ≤ t.val) = false := decide_eq_false h4
    have HF : Hid (t.ok = false) := by
      show t.ok = false
      cases h : t.ok
      · rfl
      · have := Tk.ok_iff.1 h
        omega
    clear h0
    clear h1
    clear h2
    clear h3
    clear h4
    go_enter Try.func35, Try.ntmps35
    go_wp2
    all_goals rw [HW.out]
    all_goals go_ret
    all_goals exact ⟨by rw [HF.out]; rfl, hb⟩
  have d4 : decide ((0 : Int) ≤ t.val) = true := decide_eq_true h4
  exact absurd ⟨h0, h1, h2, h3, h4⟩ HNO.out
end Go.Proofs.Ytockgojdmaladab
