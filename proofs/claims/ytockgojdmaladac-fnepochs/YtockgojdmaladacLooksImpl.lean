/- The program's array of pins: how it is made, changed, compared, told. -/
import Derived.Test.YtockgojdmaladacLooksKit
import Derived.Test.YtockgojdmaladacEpochFree
import Derived.Test.YtockgojdmaladacEpochCopyI
import Derived.Laws.StructEq
import Derived.ChangeKeysEq
import Derived.Lib.QuietBelow
import Derived.BigQuiet
namespace Go.Proofs.Ytockgojdmaladac
open Go.RowKit Go.Sort

set_option maxRecDepth 100000 in
set_option maxHeartbeats 2000000 in
theorem looksOf_any (w : World) (pa : Option Addr) (pc : Nat) (pins : List Int) (hP : IAt w pa pins w.heap.size) (h0 : 1 ≤ pins.length) (hm : pins.length ≤ 4) :
    Calls Try.prog 95 #[.slice pa pins.length pc] w fun e w' => e = .returned (.agg #[.int .i64 (pins.getD 0 0), .int .i64 (pins.getD 1 0), .int .i64 (pins.getD 2 0), .int .i64 (pins.getD 3 0), .int .i64 pins.length]) ∧ Below w.heap.size w w' := by
  obtain ⟨w0, hw0⟩ : ∃ x, w.alloc (.cells #[.int .i64 0, .int .i64 0, .int .i64 0, .int .i64 0, .int .i64 0] 121) = x := ⟨_, rfl⟩
  obtain ⟨w1, hw1⟩ : ∃ x, w0.alloc (.cells #[.int .i64 0, .int .i64 0, .int .i64 0, .int .i64 0, .int .i64 pins.length] 121) = x := ⟨_, rfl⟩
  have hb0 : Below w.heap.size w w0 := by rw [← hw0]; exact (Below.refl _ _).alloc (Nat.le_refl _) _
  have hb1 : Below w0.heap.size w0 w1 := by rw [← hw1]; exact (Below.refl _ _).alloc (Nat.le_refl _) _
  have s0 : w0.heap.size = w.heap.size + 1 := by rw [← hw0]; simp
  have hR0 : LBox w0 w.heap.size 0 0 0 0 0 := by rw [← hw0]; exact LBox.new _ _ _ _ _ _
  have hL1 : LBox w1 (w.heap.size + 1) 0 0 0 0 pins.length := by rw [← hw1, ← s0]; exact LBox.new _ _ _ _ _ _
  have hR1 := hR0.on hb1
  have hbw : Below w.heap.size w w1 := hb0.trans (hb1.mono hb0.size)
  obtain ⟨hnone, hsrc⟩ := (hP.on hbw).src
  obtain ⟨ad, rfl⟩ : ∃ ad, pa = some ad := by
    cases pa with
    | none => have := hnone rfl; omega
    | some ad => exact ⟨ad, rfl⟩
  have hrun := run_copy_row (P := Try.prog) w1 27 27 3 3 (w.heap.size + 1) 0 4 4 ad pins.length pc #[.int .i64 0, .int .i64 0, .int .i64 0, .int .i64 0, .int .i64 pins.length] 121 (ints pins) Try.underlying27 (by kernel_rfl) hL1 (by rw [ints_length]; exact (Nat.min_eq_left hm).symm) (hsrc ad rfl) (by simp [ints_length]; omega) (ints_one' pins)
  obtain ⟨w2, hw2⟩ : ∃ x, w1.setRow (w.heap.size + 1) (List.take 0 #[Value.int .i64 0, .int .i64 0, .int .i64 0, .int .i64 0, .int .i64 pins.length].toList ++ ints pins ++ List.drop (0 + (ints pins).length) #[Value.int .i64 0, .int .i64 0, .int .i64 0, .int .i64 0, .int .i64 pins.length].toList).toArray = x := ⟨_, rfl⟩
  have hL2 : LBox w2 (w.heap.size + 1) (pins.getD 0 0) (pins.getD 1 0) (pins.getD 2 0) (pins.getD 3 0) pins.length := by
    rw [← hw2]
    have h := setRow_heap w1 (w.heap.size + 1) _ (List.take 0 #[Value.int .i64 0, .int .i64 0, .int .i64 0, .int .i64 0, .int .i64 pins.length].toList ++ ints pins ++ List.drop (0 + (ints pins).length) #[Value.int .i64 0, .int .i64 0, .int .i64 0, .int .i64 0, .int .i64 pins.length].toList).toArray 121 _ hL1
    have e := splice_pins pins pins.length hm
    unfold LBox
    rw [h]
    congr 2
    unfold splice at e
    simpa using congrArg List.toArray e
  have hR2 : LBox w2 w.heap.size 0 0 0 0 0 := by rw [← hw2]; exact hR1.kept (setRow_other w1 (w.heap.size + 1) w.heap.size _ (by omega))
  have hb2 : Below w.heap.size w w2 := by rw [← hw2]; exact below_setRow hbw (by omega) _
  rw [hw2] at hrun
  rw [← hw1, ← hw0] at hrun
  obtain ⟨l0, l1, l2, l3, l4⟩ := hL2.cells
  obtain ⟨r0, r1, r2, r3, r4⟩ := hR2.cells
  obtain ⟨f0, f1, f2, f3, f4⟩ := (⟨hR2.thaw 0, hR2.thaw 1, hR2.thaw 2, hR2.thaw 3, hR2.thaw 4⟩ : _ ∧ _ ∧ _ ∧ _ ∧ _)
  obtain ⟨q0, q1, q2, q3, q4⟩ := (hR2.put (pins.getD 0 0) (pins.getD 1 0) (pins.getD 2 0) (pins.getD 3 0) pins.length).cells
  generalize pins.getD 0 0 = p0 at *
  generalize pins.getD 1 0 = p1 at *
  generalize pins.getD 2 0 = p2 at *
  generalize pins.getD 3 0 = p3 at *
  clear hw0 hw1 hw2 hL1 hR1 hR0 hL2 hb0 hb1 hbw hP hsrc hnone s0
  go_enter Try.func95, Try.ntmps95
  go_wp2_with fail
  refine bodyPost_ret (v := .agg #[.int .i64 p0, .int .i64 p1, .int .i64 p2, .int .i64 p3, .int .i64 pins.length]) (by simp [results, Try.results95, go_sem, q0, q1, q2, q3, q4]) rfl ⟨rfl, Below.put5 hb2 (Nat.le_refl _) _ _ _ _ _⟩
/-- The array's cell n is x. -/
def put4 (p0 p1 p2 p3 : Int) (n : Nat) (x : Int) : Int × Int × Int × Int := if n = 0 then (x, p1, p2, p3) else if n = 1 then (p0, x, p2, p3) else if n = 2 then (p0, p1, x, p3) else (p0, p1, p2, x)
set_option maxRecDepth 100000 in
set_option maxHeartbeats 2000000 in
theorem looksWith_any (w : World) (p0 p1 p2 p3 m x : Int) (n : Nat) (hn : n < 4) :
    Calls Try.prog 97 #[.agg #[.int .i64 p0, .int .i64 p1, .int .i64 p2, .int .i64 p3, .int .i64 m], .int .i64 n, .int .i64 x] w fun e w' => e = .returned (.agg #[.int .i64 (put4 p0 p1 p2 p3 n x).1, .int .i64 (put4 p0 p1 p2 p3 n x).2.1, .int .i64 (put4 p0 p1 p2 p3 n x).2.2.1, .int .i64 (put4 p0 p1 p2 p3 n x).2.2.2, .int .i64 m]) ∧ Below w.heap.size w w' := by
  rcases (show n = 0 ∨ n = 1 ∨ n = 2 ∨ n = 3 by omega) with rfl | rfl | rfl | rfl
  all_goals
    go_enter Try.func97, Try.ntmps97
    go_wp2_with fail
    refine bodyPost_ret (by simp [results, Try.results97, go_sem, put4]) rfl ⟨rfl, ((Below.refl _ _).alloc (Nat.le_refl _) _).alloc (by simp) _⟩
set_option maxRecDepth 100000 in
theorem looks_neq (a0 a1 a2 a3 b0 b1 b2 b3 m : Int) (w : World) : (binOp .neq 121 (.agg #[.int .i64 a0, .int .i64 a1, .int .i64 a2, .int .i64 a3, .int .i64 m]) (.agg #[.int .i64 b0, .int .i64 b1, .int .i64 b2, .int .i64 b3, .int .i64 m])).run Try.prog w = .ok (.bool (!(decide (a0 = b0) && decide (a1 = b1) && decide (a2 = b2) && decide (a3 = b3)))) w := by
  have h0 := Try.underlying121
  have h2 : Try.prog.stoodInHeld 121 = false := by kernel_rfl
  obtain ⟨i0, hi, _, _, _⟩ := info_parts Try.infoInt
  have hc : Try.prog.cellsOf 3 = 1 := by kernel_rfl
  have ha : (Op.equalIn 9999 119 (.agg #[.int .i64 a0, .int .i64 a1, .int .i64 a2, .int .i64 a3]) (.agg #[.int .i64 b0, .int .i64 b1, .int .i64 b2, .int .i64 b3])).run Try.prog w = .ok (decide (a0 = b0) && decide (a1 = b1) && decide (a2 = b2) && decide (a3 = b3)) w := by
    rw [run_equalIn_array w 9998 _ _ Try.underlying119 hi, hc]
    by_cases e0 : a0 = b0 <;> by_cases e1 : a1 = b1 <;> by_cases e2 : a2 = b2 <;> by_cases e3 : a3 = b3 <;> simp [List.range, List.range.loop, Op.eqItems, go_sem, e0, e1, e2, e3]
  rw [run_neq_struct, run_equalIn_agg w 9999 121 _ _ (by unfold Program.fieldsOf; rw [h0]) h2]
  simp [go_sem, h0, Op.eqFields]
  rw [ha]
  cases (decide (a0 = b0)) <;> cases (decide (a1 = b1)) <;> cases (decide (a2 = b2)) <;> cases (decide (a3 = b3)) <;> rfl
set_option maxRecDepth 100000 in
set_option maxHeartbeats 2000000 in
theorem looking_any (w : World) (p0 p1 p2 p3 m : Int) (n : Nat) (hn : n < 4) (b : Bool) (hb : (!(decide (p0 = (put4 p0 p1 p2 p3 n 0).1) && decide (p1 = (put4 p0 p1 p2 p3 n 0).2.1) && decide (p2 = (put4 p0 p1 p2 p3 n 0).2.2.1) && decide (p3 = (put4 p0 p1 p2 p3 n 0).2.2.2))) = b) :
    Calls Try.prog 96 #[.agg #[.int .i64 p0, .int .i64 p1, .int .i64 p2, .int .i64 p3, .int .i64 m], .int .i64 n] w fun e w' => e = .returned (.bool b) ∧ Below w.heap.size w w' := by
  obtain ⟨w1, hw1⟩ : ∃ x, w.alloc (.cells #[.int .i64 p0, .int .i64 p1, .int .i64 p2, .int .i64 p3, .int .i64 m] 121) = x := ⟨_, rfl⟩
  have hb1 : Below w.heap.size w w1 := by rw [← hw1]; exact (Below.refl _ _).alloc (Nat.le_refl _) _
  have hL : LBox w1 w.heap.size p0 p1 p2 p3 m := by rw [← hw1]; exact LBox.new _ _ _ _ _ _
  obtain ⟨c0, c1, c2, c3, c4⟩ := hL.cells
  have k0 := cell_regrown c0
  have k1 := cell_regrown c1
  have k2 := cell_regrown c2
  have k3 := cell_regrown c3
  have k4 := cell_regrown c4
  have hne := fun W => looks_neq p0 p1 p2 p3 (put4 p0 p1 p2 p3 n 0).1 (put4 p0 p1 p2 p3 n 0).2.1 (put4 p0 p1 p2 p3 n 0).2.2.1 (put4 p0 p1 p2 p3 n 0).2.2.2 m W
  rw [hb] at hne
  have cV0 := fun W => looksWith_any W p0 p1 p2 p3 m 0 n hn
  generalize (put4 p0 p1 p2 p3 n 0).1 = x0 at hne cV0
  generalize (put4 p0 p1 p2 p3 n 0).2.1 = x1 at hne cV0
  generalize (put4 p0 p1 p2 p3 n 0).2.2.1 = x2 at hne cV0
  generalize (put4 p0 p1 p2 p3 n 0).2.2.2 = x3 at hne cV0
  have cV : ∀ d os, Calls Try.prog 97 #[.agg #[.int .i64 p0, .int .i64 p1, .int .i64 p2, .int .i64 p3, .int .i64 m], .int .i64 n, .int .i64 0] (grow (redrawn w1 d) os) fun e w'' => e = .returned (.agg #[.int .i64 x0, .int .i64 x1, .int .i64 x2, .int .i64 x3, .int .i64 m]) ∧ ∃ p : Regrown, w'' = grow (redrawn w1 p.d) p.os := fun d os => Calls.regrown_of (by have := cV0 (grow (redrawn w1 d) os); simpa using this)
  have HW : Hid (w.alloc (.cells #[.int .i64 p0, .int .i64 p1, .int .i64 p2, .int .i64 p3, .int .i64 m] 121) = w1) := hw1
  have HB : Hid (Below w.heap.size w w1) := hb1
  clear hw1 hb1 hL c0 c1 c2 c3 c4 cV0 hb
  go_enter Try.func96, Try.ntmps96
  go_wp2_with fail
  rw [HW.out]
  refine wp_region_quiet_below (by kernel_rfl) (by kernel_rfl) ?_
  repeat (first | go_big_quiet_step (with_reducible exact cV _ _) | quiet_step (with_reducible exact cV _ _))
  refine wpQuiet_nil ?_
  intro _ hw'
  obtain ⟨⟨dq, osq⟩, hw''⟩ := hw'
  subst hw''
  go_wp2_with fail
  go_ret
  exact ⟨rfl, HB.out.trans ((below_regrown w1 dq osq).mono HB.out.size)⟩
/-- 'append(v, all...)' of numbers onto a slice of the call's own that holds none. -/
theorem wpList_all4 {P : Program} {ops : Array Oper} {rest : List Oper} {o : Oper} {a : Act} {Q : Exit → Act → World → Prop} {w : World} (hgd : o.guard = none) (s x : Operand) (t : TypeId)
    (ho : o.op = .call { callee := .builtin .append, args := #[s, x], argTypes := #[t, t] }) (base : Nat) (ht : P.underlying t = some (.slice 3))
    (hinfo : (P.info? 3).map (fun i => (i.zero, i.size, i.bytes)) = some (some (.int .i64 0), 1, 8)) (E : Nat) (hs : a.eval s = .slice (some ⟨E, 0, none⟩) 0 0) (hown : OwnV w base 3 (.slice (some ⟨E, 0, none⟩) 0 0) [])
    (ad : Addr) (cap : Nat) (l : List Int) (B : Nat) (hx : a.eval x = .slice (some ad) l.length cap) (hI : IAt w (some ad) l B) (hlen : l.length ≤ 1048576) (hbase : base ≤ w.heap.size)
    (h : ∀ v' w', OwnV w' base 3 v' (ints l) → w.grownBy w' (some E) → wpList P ops Q rest (a.put o.dst v') w') :
    wpList P ops Q (o :: rest) a w := by
  obtain ⟨i0, hi, hz0, hz1, hz2⟩ := info_parts hinfo
  refine wpList_append_own _ hgd s x t ho base 3 i0 _ 1 8 ht hi hz0 hz1 hz2 rfl (by decide) _ 0 [] hs hown ad l.length cap (ints l) hx (by rw [ints_length, Nat.mul_one]) (hI.src.2 ad rfl) (ints_one' l) (by unfold maxLen; omega) (by omega) hbase ?_
  intro v' w' h1 h2 _
  exact h v' w' (by unfold OwnV; rw [ints_length]; simpa using h1) h2
set_option maxRecDepth 100000 in
set_option maxHeartbeats 2000000 in
theorem looksList_any (w : World) (pins : List Int) (hm : pins.length ≤ 4) :
    Calls Try.prog 98 #[.agg #[.int .i64 (pins.getD 0 0), .int .i64 (pins.getD 1 0), .int .i64 (pins.getD 2 0), .int .i64 (pins.getD 3 0), .int .i64 pins.length]] w fun e w' => ∃ v, e = .returned v ∧ OwnV w' w.heap.size 3 v (ints pins) ∧ Below w.heap.size w w' := by
  obtain ⟨w1, hw1⟩ : ∃ x, w.alloc (.cells #[.int .i64 (pins.getD 0 0), .int .i64 (pins.getD 1 0), .int .i64 (pins.getD 2 0), .int .i64 (pins.getD 3 0), .int .i64 pins.length] 121) = x := ⟨_, rfl⟩
  obtain ⟨w2, hw2⟩ : ∃ x, w1.alloc (.cells #[] 3) = x := ⟨_, rfl⟩
  have hb1 : Below w.heap.size w w1 := by rw [← hw1]; exact (Below.refl _ _).alloc (Nat.le_refl _) _
  have hb2 : Below w1.heap.size w1 w2 := by rw [← hw2]; exact (Below.refl _ _).alloc (Nat.le_refl _) _
  have s1 : w1.heap.size = w.heap.size + 1 := by rw [← hw1]; simp
  have hL : LBox w2 w.heap.size (pins.getD 0 0) (pins.getD 1 0) (pins.getD 2 0) (pins.getD 3 0) pins.length := by
    have h : LBox w1 w.heap.size (pins.getD 0 0) (pins.getD 1 0) (pins.getD 2 0) (pins.getD 3 0) pins.length := by rw [← hw1]; exact LBox.new _ _ _ _ _ _
    exact h.on hb2
  have hI := hL.pins hm
  have hE : OwnV w2 (w.heap.size + 1) 3 (.slice (some ⟨w.heap.size + 1, 0, none⟩) 0 0) [] := by rw [← hw2, ← s1]; exact OwnV.empty w1 3
  obtain ⟨l0, l1, l2, l3, l4⟩ := hL.cells
  have HW : Hid ((w.alloc (.cells #[.int .i64 (pins.getD 0 0), .int .i64 (pins.getD 1 0), .int .i64 (pins.getD 2 0), .int .i64 (pins.getD 3 0), .int .i64 pins.length] 121)).alloc (.cells #[] 3) = w2) := by rw [hw1]; exact hw2
  have HB : Hid (Below w.heap.size w w2 ∧ w.heap.size + 1 ≤ w2.heap.size) := ⟨hb1.trans (hb2.mono hb1.size), by have := hb2.size; omega⟩
  rw [← hw2, ← hw1] at l4 hI hE
  generalize pins.getD 0 0 = p0 at *
  generalize pins.getD 1 0 = p1 at *
  generalize pins.getD 2 0 = p2 at *
  generalize pins.getD 3 0 = p3 at *
  have hc0 : (0 : Int) ≤ (pins.length : Int) := by omega
  have hc4 : (pins.length : Int) ≤ 4 := by omega
  have hbs : w.heap.size + 1 ≤ ((w.alloc (.cells #[.int .i64 p0, .int .i64 p1, .int .i64 p2, .int .i64 p3, .int .i64 pins.length] 121)).alloc (.cells #[] 3)).heap.size := by rw [HW.out]; exact HB.out.2
  clear hw1 hw2 hb1 hb2 hL s1 l0 l1 l2 l3
  go_enter Try.func98, Try.ntmps98
  go_wp2_with (at_builtin; refine wpList_all4 rfl (.tmp 3) (.tmp 7) 27 rfl (w.heap.size + 1) Try.underlying27 Try.infoInt (w.heap.size + 1) rfl hE ⟨w.heap.size, 0, none⟩ 4 pins _ rfl hI (by omega) hbs ?_; intro v4 w4 hown4 hgr4)
  go_ret
  rw [HW.out] at hgr4
  exact ⟨_, rfl, hown4.mono (by omega), HB.out.1.grown hgr4 (by have := HB.out.2; omega) (fun k e => by cases e; omega)⟩
theorem put4_set : ∀ (pins : List Int) (n : Nat) (x : Int), pins.length ≤ 4 → n < pins.length → put4 (pins.getD 0 0) (pins.getD 1 0) (pins.getD 2 0) (pins.getD 3 0) n x = ((pins.set n x).getD 0 0, (pins.set n x).getD 1 0, (pins.set n x).getD 2 0, (pins.set n x).getD 3 0)
  | [], n, x, _, h => by simp at h
  | [a], n, x, _, h => by
    obtain rfl : n = 0 := by simp at h; omega
    rfl
  | [a, b], n, x, _, h => by
    simp at h
    rcases (show n = 0 ∨ n = 1 by omega) with rfl | rfl <;> rfl
  | [a, b, c], n, x, _, h => by
    simp at h
    rcases (show n = 0 ∨ n = 1 ∨ n = 2 by omega) with rfl | rfl | rfl <;> rfl
  | [a, b, c, d], n, x, _, h => by
    simp at h
    rcases (show n = 0 ∨ n = 1 ∨ n = 2 ∨ n = 3 by omega) with rfl | rfl | rfl | rfl <;> rfl
  | a :: b :: c :: d :: e :: r, n, x, h, _ => by simp at h
theorem looking_pins {pins : List Int} {n : Nat} (hl : pins.length ≤ 4) (hn : n < pins.length) : (!(decide (pins.getD 0 0 = (put4 (pins.getD 0 0) (pins.getD 1 0) (pins.getD 2 0) (pins.getD 3 0) n 0).1) && decide (pins.getD 1 0 = (put4 (pins.getD 0 0) (pins.getD 1 0) (pins.getD 2 0) (pins.getD 3 0) n 0).2.1) && decide (pins.getD 2 0 = (put4 (pins.getD 0 0) (pins.getD 1 0) (pins.getD 2 0) (pins.getD 3 0) n 0).2.2.1) && decide (pins.getD 3 0 = (put4 (pins.getD 0 0) (pins.getD 1 0) (pins.getD 2 0) (pins.getD 3 0) n 0).2.2.2))) = !decide (pins[n] = 0) := by
  have e : pins[n] = pins.getD n 0 := by simp [List.getD_eq_getElem?_getD, hn]
  rw [e]
  rcases (show n = 0 ∨ n = 1 ∨ n = 2 ∨ n = 3 by omega) with rfl | rfl | rfl | rfl <;> simp [put4]
end Go.Proofs.Ytockgojdmaladac
