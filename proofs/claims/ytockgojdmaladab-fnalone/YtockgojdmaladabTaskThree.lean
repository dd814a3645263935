/- A task that is right: the program's, part three. -/
import Derived.Test.YtockgojdmaladabTaskKit
import Derived.Test.YtockgojdmaladabNodeImpl
namespace Go.Proofs.Ytockgojdmaladab
open Go.RowKit Go.Sort

theorem taskNode_any (n : Int) (w : World) (h1 : 1 ≤ n) (h2 : n ≤ 20) :
    Calls Try.prog 71 #[.int .i64 n] w fun e w' => e = .returned (.bool true) ∧ w' = w := by
  go_enter Try.func71, Try.ntmps71
  go_wp2
  go_ret
  exact ⟨rfl, rfl⟩
set_option maxRecDepth 100000 in
set_option maxHeartbeats 4000000 in
theorem taskOk_three (t : Tk) (w : World) (h0 : 1 ≤ t.kind) (h1 : t.kind ≤ 3) (h2 : 1 ≤ t.key) (h3 : t.key ≤ 99) (h4 : 0 ≤ t.val) (h5 : t.val ≤ 99) (h6 : 1 ≤ t.node) (h7 : t.node ≤ 20) (h8 : 0 ≤ t.pc) (h9 : t.pc ≤ 6) :
    Calls Try.prog 35 #[.agg (tcs t)] w fun e w' => e = .returned (.bool t.ok) ∧ Below w.heap.size w w' := by
  obtain ⟨w1, hw1⟩ : ∃ w1, w.alloc (.cells (tcs t) 43) = w1 := ⟨_, rfl⟩
  have hb : Below w.heap.size w w1 := by rw [← hw1]; exact (Below.refl _ _).alloc (Nat.le_refl _) _
  have hT : TBox w1 w.heap.size t := by rw [← hw1]; exact TBox.new _ _
  have HW : Hid (w.alloc (.cells (tcs t) 43) = w1) := hw1
  obtain ⟨b0, b1, b2, b3, b4, b5, b6, b7, b8, _⟩ := hT.cells
  have HC : Hid (∀ x, Calls Try.prog 72 #[.int .i64 x] w1 fun e w' => e = .returned (.bool (btw x 0 20)) ∧ w' = w1) := fun x => nodeOrNone_any x w1
  have HNode : Hid (Calls Try.prog 71 #[.int .i64 t.node] w1 fun e w' => e = .returned (.bool true) ∧ w' = w1) := taskNode_any t.node w1 h6 h7
  have HOK : Hid (t.ok = (btw t.kind 1 3 && (btw t.key 1 99 && (btw t.val 0 99 && (btw t.node 1 20 && (btw t.pc 0 6 && (btw t.prev 0 20 && (btw t.cur 0 20 && (btw t.next 0 20 && (btw t.mark 0 1)))))))))) := rfl
  clear hw1 hT
  unfold tcs at *
  have d0 : decide ((1 : Int) ≤ t.kind) = true := decide_eq_true h0
  have d1 : decide (t.kind ≤ 3) = true := decide_eq_true h1
  have d2 : decide ((1 : Int) ≤ t.key) = true := decide_eq_true h2
  have d3 : decide (t.key ≤ 99) = true := decide_eq_true h3
  have d4 : decide ((0 : Int) ≤ t.val) = true := decide_eq_true h4
  have d5 : decide (t.val ≤ 99) = true := decide_eq_true h5
  have d6 : decide ((1 : Int) ≤ t.node) = true := decide_eq_true h6
  have d7 : decide (t.node ≤ 20) = true := decide_eq_true h7
  have d8 : decide ((0 : Int) ≤ t.pc) = true := decide_eq_true h8
  have d9 : decide (t.pc ≤ 6) = true := decide_eq_true h9
  cases pprev : btw t.prev 0 20
  case false =>
    have qprev : ¬ (0 ≤ t.prev ∧ t.prev ≤ 20) := by unfold btw at pprev; simpa using pprev
    have HF : Hid (t.ok = false) := by
      show t.ok = false
      cases h : t.ok
      · rfl
      · have := Tk.ok_iff.1 h
        omega
    clear h0 h1 h2 h3 h4 h5 h6 h7 h8 h9 qprev
    go_enter Try.func35, Try.ntmps35
    go_wp2_with fail
    rw [HW.out]
    refine HNode.out.mono ?_
    rintro e w2 ⟨rfl, rfl⟩
    go_wp2_with fail
    refine (HC.out t.prev).mono ?_
    rw [pprev]
    rintro e w2 ⟨rfl, rfl⟩
    go_wp2
    all_goals go_ret
    all_goals exact ⟨by rw [HF.out]; rfl, hb⟩
  cases pcur : btw t.cur 0 20
  case false =>
    have qcur : ¬ (0 ≤ t.cur ∧ t.cur ≤ 20) := by unfold btw at pcur; simpa using pcur
    have HF : Hid (t.ok = false) := by
      show t.ok = false
      cases h : t.ok
      · rfl
      · have := Tk.ok_iff.1 h
        omega
    clear h0 h1 h2 h3 h4 h5 h6 h7 h8 h9 qcur
    go_enter Try.func35, Try.ntmps35
    go_wp2_with fail
    rw [HW.out]
    refine HNode.out.mono ?_
    rintro e w2 ⟨rfl, rfl⟩
    go_wp2_with fail
    refine (HC.out t.prev).mono ?_
    rw [pprev]
    rintro e w2 ⟨rfl, rfl⟩
    go_wp2_with fail
    refine (HC.out t.cur).mono ?_
    rw [pcur]
    rintro e w2 ⟨rfl, rfl⟩
    go_wp2
    all_goals go_ret
    all_goals exact ⟨by rw [HF.out]; rfl, hb⟩
  cases pnext : btw t.next 0 20
  case false =>
    have qnext : ¬ (0 ≤ t.next ∧ t.next ≤ 20) := by unfold btw at pnext; simpa using pnext
    have HF : Hid (t.ok = false) := by
      show t.ok = false
      cases h : t.ok
      · rfl
      · have := Tk.ok_iff.1 h
        omega
    clear h0 h1 h2 h3 h4 h5 h6 h7 h8 h9 qnext
    go_enter Try.func35, Try.ntmps35
    go_wp2_with fail
    rw [HW.out]
    refine HNode.out.mono ?_
    rintro e w2 ⟨rfl, rfl⟩
    go_wp2_with fail
    refine (HC.out t.prev).mono ?_
    rw [pprev]
    rintro e w2 ⟨rfl, rfl⟩
    go_wp2_with fail
    refine (HC.out t.cur).mono ?_
    rw [pcur]
    rintro e w2 ⟨rfl, rfl⟩
    go_wp2_with fail
    refine (HC.out t.next).mono ?_
    rw [pnext]
    rintro e w2 ⟨rfl, rfl⟩
    go_wp2
    all_goals go_ret
    all_goals exact ⟨by rw [HF.out]; rfl, hb⟩
  have HN : Hid ((0 ≤ t.prev ∧ t.prev ≤ 20) ∧ (0 ≤ t.cur ∧ t.cur ≤ 20) ∧ (0 ≤ t.next ∧ t.next ≤ 20)) := by
    show _ ∧ _ ∧ _
    unfold btw at pprev pcur pnext
    exact ⟨of_decide_eq_true pprev, of_decide_eq_true pcur, of_decide_eq_true pnext⟩
  by_cases hm0 : t.mark = 0
  case pos =>
    have HF : Hid (t.ok = true) := Tk.ok_iff.2 ⟨⟨h0, h1⟩, ⟨h2, h3⟩, ⟨h4, h5⟩, ⟨h6, h7⟩, ⟨h8, h9⟩, HN.out.1, HN.out.2.1, HN.out.2.2, by omega⟩
    rw [hm0] at b8
    clear h0 h1 h2 h3 h4 h5 h6 h7 h8 h9 hm0
    go_enter Try.func35, Try.ntmps35
    go_wp2_with fail
    rw [HW.out]
    refine HNode.out.mono ?_
    rintro e w2 ⟨rfl, rfl⟩
    go_wp2_with fail
    refine (HC.out t.prev).mono ?_
    rw [pprev]
    rintro e w2 ⟨rfl, rfl⟩
    go_wp2_with fail
    refine (HC.out t.cur).mono ?_
    rw [pcur]
    rintro e w2 ⟨rfl, rfl⟩
    go_wp2_with fail
    refine (HC.out t.next).mono ?_
    rw [pnext]
    rintro e w2 ⟨rfl, rfl⟩
    go_wp2
    all_goals go_ret
    all_goals exact ⟨by rw [HF.out]; rfl, hb⟩
  by_cases hm1 : t.mark = 1
  case pos =>
    have HF : Hid (t.ok = true) := Tk.ok_iff.2 ⟨⟨h0, h1⟩, ⟨h2, h3⟩, ⟨h4, h5⟩, ⟨h6, h7⟩, ⟨h8, h9⟩, HN.out.1, HN.out.2.1, HN.out.2.2, by omega⟩
    rw [hm1] at b8
    clear h0 h1 h2 h3 h4 h5 h6 h7 h8 h9 hm0 hm1
    go_enter Try.func35, Try.ntmps35
    go_wp2_with fail
    rw [HW.out]
    refine HNode.out.mono ?_
    rintro e w2 ⟨rfl, rfl⟩
    go_wp2_with fail
    refine (HC.out t.prev).mono ?_
    rw [pprev]
    rintro e w2 ⟨rfl, rfl⟩
    go_wp2_with fail
    refine (HC.out t.cur).mono ?_
    rw [pcur]
    rintro e w2 ⟨rfl, rfl⟩
    go_wp2_with fail
    refine (HC.out t.next).mono ?_
    rw [pnext]
    rintro e w2 ⟨rfl, rfl⟩
    go_wp2
    all_goals go_ret
    all_goals exact ⟨by rw [HF.out]; rfl, hb⟩
  case neg =>
    have m0 : (t.mark == 0) = false := by simpa using hm0
    have m1 : (t.mark == 1) = false := by simpa using hm1
    have HF : Hid (t.ok = false) := by
      show t.ok = false
      cases h : t.ok
      · rfl
      · have := Tk.ok_iff.1 h
        omega
    clear h0 h1 h2 h3 h4 h5 h6 h7 h8 h9
    go_enter Try.func35, Try.ntmps35
    go_wp2_with fail
    rw [HW.out]
    refine HNode.out.mono ?_
    rintro e w2 ⟨rfl, rfl⟩
    go_wp2_with fail
    refine (HC.out t.prev).mono ?_
    rw [pprev]
    rintro e w2 ⟨rfl, rfl⟩
    go_wp2_with fail
    refine (HC.out t.cur).mono ?_
    rw [pcur]
    rintro e w2 ⟨rfl, rfl⟩
    go_wp2_with fail
    refine (HC.out t.next).mono ?_
    rw [pnext]
    rintro e w2 ⟨rfl, rfl⟩
    go_wp2
    all_goals go_ret
    all_goals exact ⟨by rw [HF.out]; rfl, hb⟩
end Go.Proofs.Ytockgojdmaladab
