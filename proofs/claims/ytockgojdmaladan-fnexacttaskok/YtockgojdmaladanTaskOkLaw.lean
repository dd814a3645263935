/- The walks of the laws on TaskOk and TaskNew, given the program's contracts. -/
import Derived.Test.YtockgojdmaladanTaskLaw
namespace Go.Proofs.Ytockgojdmaladan
open Go.RowKit Go.Sort

set_option maxRecDepth 100000 in
set_option maxHeartbeats 2000000 in
theorem taskOk_given (CI0 : ∀ (t : Tk) (w : World), Calls Try.prog 19 #[.agg (tcs t)] w fun e w' => e = .returned (.bool t.ok) ∧ Below w.heap.size w w') (t : Tk) (w : World) :
    Calls Try.prog 5 #[.agg (tcs t)] w fun e w' => e = .returned (.bool true) ∧ Below w.heap.size w w' := by
  obtain ⟨wb, hwb⟩ : ∃ wb, w.alloc (.cells (tcs t) 32) = wb := ⟨_, rfl⟩
  have hb : Below w.heap.size w wb := by rw [← hwb]; exact (Below.refl _ _).alloc (Nat.le_refl _) _
  have hbs : w.heap.size < wb.heap.size := by rw [← hwb]; simp
  have hbox : wb.heap[w.heap.size]? = some (.cells (tcs t) 32 (0, 0)) := by rw [← hwb]; exact heap_alloc_new _ _
  have HC : Hid (∀ wi, Below wb.heap.size wb wi → wi.cell? ⟨w.heap.size, 0, none⟩ = some (.int .i64 t.kind) ∧ wi.cell? ⟨w.heap.size, 1, none⟩ = some (.int .i64 t.key) ∧ wi.cell? ⟨w.heap.size, 2, none⟩ = some (.int .i64 t.val) ∧ wi.cell? ⟨w.heap.size, 3, none⟩ = some (.int .i64 t.node) ∧ wi.cell? ⟨w.heap.size, 4, none⟩ = some (.int .i64 t.pc) ∧ wi.cell? ⟨w.heap.size, 5, none⟩ = some (.int .i64 t.prev) ∧ wi.cell? ⟨w.heap.size, 6, none⟩ = some (.int .i64 t.cur) ∧ wi.cell? ⟨w.heap.size, 7, none⟩ = some (.int .i64 t.next) ∧ wi.cell? ⟨w.heap.size, 8, none⟩ = some (.int .i64 t.mark) ∧ wi.cell? ⟨w.heap.size, 9, none⟩ = some (.bool t.done) ∧ wi.cell? ⟨w.heap.size, 10, none⟩ = some (.int .i64 t.ans)) := by
    intro wi hi
    have e := (hi.block _ hbs).trans hbox
    unfold tcs at e
    refine ⟨?_, ?_, ?_, ?_, ?_, ?_, ?_, ?_, ?_, ?_, ?_⟩ <;> simp [World.cell?, e]
  have HW : Hid (w.alloc (.cells #[.int .i64 t.kind, .int .i64 t.key, .int .i64 t.val, .int .i64 t.node, .int .i64 t.pc, .int .i64 t.prev, .int .i64 t.cur, .int .i64 t.next, .int .i64 t.mark, .bool t.done, .int .i64 t.ans] 32) = wb) := hwb
  have cT : ∀ w, Calls Try.prog 18 #[.agg #[.int .i64 t.kind, .int .i64 t.key, .int .i64 t.val, .int .i64 t.node, .int .i64 t.pc, .int .i64 t.prev, .int .i64 t.cur, .int .i64 t.next, .int .i64 t.mark, .bool t.done, .int .i64 t.ans]] w fun e w' => e = .returned (.agg #[.int .i64 t.kind, .int .i64 t.key, .int .i64 t.val, .int .i64 t.node, .int .i64 t.pc, .int .i64 t.prev, .int .i64 t.cur, .int .i64 t.next, .int .i64 t.mark, .bool t.done, .int .i64 t.ans]) ∧ Below w.heap.size w w' := fun w => toTask_any t w
  have cS : ∀ w, Calls Try.prog 17 #[.agg #[.int .i64 t.kind, .int .i64 t.key, .int .i64 t.val, .int .i64 t.node, .int .i64 t.pc, .int .i64 t.prev, .int .i64 t.cur, .int .i64 t.next, .int .i64 t.mark, .bool t.done, .int .i64 t.ans]] w fun e w' => e = .returned (.bool t.ok) ∧ Below w.heap.size w w' := fun w => specTaskOk_any t w
  have cI : ∀ w, Calls Try.prog 19 #[.agg #[.int .i64 t.kind, .int .i64 t.key, .int .i64 t.val, .int .i64 t.node, .int .i64 t.pc, .int .i64 t.prev, .int .i64 t.cur, .int .i64 t.next, .int .i64 t.mark, .bool t.done, .int .i64 t.ans]] w fun e w' => e = .returned (.bool t.ok) ∧ Below w.heap.size w w' := fun w => CI0 t w
  have CT : Hid _ := cT
  have CSS : Hid _ := cS
  have CII : Hid _ := cI
  clear hwb hbox CI0 cT cS cI
  unfold tcs
  go_enter Try.func5, Try.ntmps5
  go_wp2_with fail
  rw [HW.out]
  refine (CT.out wb).mono ?_
  rintro e w1 ⟨rfl, hb1⟩
  go_wp2_with fail
  refine (CSS.out w1).mono ?_
  rintro e w2 ⟨rfl, hb2⟩
  have hB2 := hb1.trans (hb2.mono hb1.size)
  obtain ⟨b0, b1, b2, b3, b4, b5, b6, b7, b8, b9, b10⟩ := HC.out w2 hB2
  go_wp2_with fail
  refine (CT.out w2).mono ?_
  rintro e w3 ⟨rfl, hb3⟩
  have hB3 := hB2.trans (hb3.mono hB2.size)
  go_wp2_with fail
  refine (CII.out w3).mono ?_
  rintro e w4 ⟨rfl, hb4⟩
  go_wp2
  go_ret
  exact ⟨rfl, hb.trans ((hB3.trans (hb4.mono hB3.size)).mono hb.size)⟩
set_option maxRecDepth 100000 in
set_option maxHeartbeats 2000000 in
theorem taskNew_given (CI0 : ∀ (kind key val node : Int) (w : World), Calls Try.prog 15 #[.int .i64 kind, .int .i64 key, .int .i64 val, .int .i64 node] w fun e w' => e = .returned (.agg (tcs (Tk.new kind key val node))) ∧ Below w.heap.size w w')
    (kind key val node : Int) (w : World) (_h0 : (Lit.int .i64 kind).wf = true) (_h1 : (Lit.int .i64 key).wf = true) (_h2 : (Lit.int .i64 val).wf = true) (_h3 : (Lit.int .i64 node).wf = true) :
    Calls Try.prog 4 #[.int .i64 kind, .int .i64 key, .int .i64 val, .int .i64 node] w fun e w' => e = .returned (.bool true) ∧ Below w.heap.size w w' := by
  have c1 := specTaskNew_any kind key val node w
  obtain ⟨t, ht⟩ : ∃ t, Tk.new kind key val node = t := ⟨_, rfl⟩
  have CI : Hid (∀ w, Calls Try.prog 15 #[.int .i64 kind, .int .i64 key, .int .i64 val, .int .i64 node] w fun e w' => e = .returned (.agg #[.int .i64 t.kind, .int .i64 t.key, .int .i64 t.val, .int .i64 t.node, .int .i64 t.pc, .int .i64 t.prev, .int .i64 t.cur, .int .i64 t.next, .int .i64 t.mark, .bool t.done, .int .i64 t.ans]) ∧ Below w.heap.size w w') := by
    intro w
    have := CI0 kind key val node w
    rw [ht] at this
    exact this
  rw [ht] at c1
  unfold tcs at c1
  clear ht CI0
  go_enter Try.func4, Try.ntmps4
  go_wp2_with fail
  refine c1.mono ?_
  rintro e w1 ⟨rfl, hb1⟩
  obtain ⟨w2, hw2⟩ : ∃ w2, w1.alloc (.cells (tcs t) 28) = w2 := ⟨_, rfl⟩
  have hb2 : Below w1.heap.size w1 w2 := by rw [← hw2]; exact (Below.refl _ _).alloc (Nat.le_refl _) _
  have hP : TBox w2 w1.heap.size t := by rw [← hw2]; exact TBox.new _ _
  have HW : Hid (w1.alloc (.cells #[.int .i64 t.kind, .int .i64 t.key, .int .i64 t.val, .int .i64 t.node, .int .i64 t.pc, .int .i64 t.prev, .int .i64 t.cur, .int .i64 t.next, .int .i64 t.mark, .bool t.done, .int .i64 t.ans] 28) = w2) := hw2
  clear hw2 c1
  go_wp2_with fail
  rw [HW.out]
  refine (CI.out w2).mono ?_
  rintro e w3 ⟨rfl, hb3⟩
  have hB3 := hb1.trans (((hb2.trans (hb3.mono hb2.size))).mono hb1.size)
  obtain ⟨w4, hw4⟩ : ∃ w4, w3.alloc (.cells (tcs t) 28) = w4 := ⟨_, rfl⟩
  have hb4 : Below w3.heap.size w3 w4 := by rw [← hw4]; exact (Below.refl _ _).alloc (Nat.le_refl _) _
  have hP4 := (hP.on hb3).on hb4
  obtain ⟨m0, m1, m2, m3, m4, m5, m6, m7, m8, m9, m10⟩ := hP4.cells
  rw [← hw4] at m0 m1 m2 m3 m4 m5 m6 m7 m8 m9 m10
  have HW4 : Hid (w3.alloc (.cells #[.int .i64 t.kind, .int .i64 t.key, .int .i64 t.val, .int .i64 t.node, .int .i64 t.pc, .int .i64 t.prev, .int .i64 t.cur, .int .i64 t.next, .int .i64 t.mark, .bool t.done, .int .i64 t.ans] 28) = w4) := hw4
  have cE : ∀ w, Calls Try.prog 16 #[.agg #[.int .i64 t.kind, .int .i64 t.key, .int .i64 t.val, .int .i64 t.node, .int .i64 t.pc, .int .i64 t.prev, .int .i64 t.cur, .int .i64 t.next, .int .i64 t.mark, .bool t.done, .int .i64 t.ans], .agg #[.int .i64 t.kind, .int .i64 t.key, .int .i64 t.val, .int .i64 t.node, .int .i64 t.pc, .int .i64 t.prev, .int .i64 t.cur, .int .i64 t.next, .int .i64 t.mark, .bool t.done, .int .i64 t.ans]] w fun e w' => e = .returned (.bool true) ∧ Below w.heap.size w w' := fun w => eqTask_same t w
  have CE : Hid _ := cE
  unfold tcs at m0 m1 m2 m3 m4 m5 m6 m7 m8 m9 m10
  clear hw4 hP hP4 cE
  go_wp2_with fail
  rw [HW4.out]
  refine (CE.out w4).mono ?_
  rintro e w5 ⟨rfl, hb5⟩
  go_wp2
  go_ret
  have hB4 := hB3.trans (hb4.mono hB3.size)
  exact ⟨rfl, hB4.trans (hb5.mono hB4.size)⟩
end Go.Proofs.Ytockgojdmaladan
