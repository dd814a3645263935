/- The walk of the law on steps. -/
import Derived.Test.YtockgojdmaladabStepsDraw
import Derived.Test.YtockgojdmaladabStepImpl
import Derived.Test.YtockgojdmaladabKeysImpl
import Derived.Test.YtockgojdmaladabValueImpl
import Derived.Test.YtockgojdmaladabListNewWalk
import Derived.Test.YtockgojdmaladabSameInts
import Derived.Test.YtockgojdmaladabTaskEq
import Derived.Test.YtockgojdmaladabBig
import Derived.Deep.RegionHeld3
namespace Go.Proofs.Ytockgojdmaladab
open Go.RowKit Go.Sort

theorem okC_Bd6 {l : List Int} (h : l.all nOkC = true) : Bd l := by
  intro z hz
  have h2 := List.all_eq_true.1 h z hz
  unfold nOkC at h2
  have := of_decide_eq_true h2
  omega

theorem tB7 {a b c : World} (h : Below a.heap.size a b) (k : Below b.heap.size b c) : Below a.heap.size a c := h.trans (k.mono h.size)

set_option maxHeartbeats 8000000 in
set_option maxRecDepth 100000 in
theorem steps_walk (ca : Option Addr) (n cap : Nat) (w : World) (hcode : CodeAt w ca n w.heap.size) (hlen : n ≤ maxLen) :
    Calls Try.prog 6 #[.slice ca n cap] w fun e w' => e = .returned (.bool true) ∧ Below w.heap.size w w' := by
  unfold maxLen at hlen
  by_cases hn : n ≤ 1048576
  · have hcb : ∀ w', Below w.heap.size w w' → CodeAt w' ca n w'.heap.size := fun w' hb j hj => by
      obtain ⟨b, off, z, h1, h2, h3, h4⟩ := hcode j hj
      exact ⟨b, off, z, h1, Nat.lt_of_lt_of_le h2 hb.size, (hb.cell (p := ⟨b, off + j, none⟩) h2).trans h3, h4⟩
    have c1 := drawStepTask_any w ca n cap hcode hn
    have C6 : Hid (∀ w', Below w.heap.size w w' → _) := fun w' hb => drawValueOf_any w' ca n cap (hcb w' hb) hn
    have C7 : Hid (∀ w', Below w.heap.size w w' → _) := fun w' hb => drawTaskOk_any w' ca n cap (hcb w' hb) hn
    clear hcode hcb
    have cb := big_any ca n cap w hlen
    rw [show decide (1048576 < n) = false by simp; omega] at cb
    go_enter Try.func6, Try.ntmps6
    go_wp2_with fail
    refine cb.mono ?_
    rintro e w' ⟨rfl, rfl⟩
    unfold tcs at c1
    go_wp2_with fail
    refine c1.mono ?_
    rintro e w1 ⟨la, lc, l, t, rfl, hl63, hlok, hLi, hb1⟩
    clear c1 cb
    obtain ⟨w2, hw2⟩ : ∃ w2, w1.alloc (.cells #[.int .i64 t.kind, .int .i64 t.key, .int .i64 t.val, .int .i64 t.node, .int .i64 t.pc, .int .i64 t.prev, .int .i64 t.cur, .int .i64 t.next, .int .i64 t.mark, .bool t.done, .int .i64 t.ans] 43) = w2 := ⟨_, rfl⟩
    have HW2 : Hid (w1.alloc (.cells #[.int .i64 t.kind, .int .i64 t.key, .int .i64 t.val, .int .i64 t.node, .int .i64 t.pc, .int .i64 t.prev, .int .i64 t.cur, .int .i64 t.next, .int .i64 t.mark, .bool t.done, .int .i64 t.ans] 43) = w2) := hw2
    have hT2 : TBox w2 w1.heap.size t := by rw [← hw2]; exact TBox.new _ _
    have hb2 : Below w1.heap.size w1 w2 := by rw [← hw2]; exact (Below.refl _ _).alloc (Nat.le_refl _) _
    have hB2 : Below w.heap.size w w2 := hb1.trans (hb2.mono hb1.size)
    have hL2 := hLi.on hb2
    obtain ⟨M, s, hMs⟩ : ∃ M s, stepL l t = (M, s) := ⟨_, _, rfl⟩
    have hMl : Hid (M.length ≤ 1048576) := by show M.length ≤ 1048576; have := stepL_len l t; rw [hMs] at this; dsimp only at this; omega
    have CI : Hid (∀ wi, Below w2.heap.size w2 wi → Calls Try.prog 27 #[.slice la l.length lc, .agg #[.int .i64 t.kind, .int .i64 t.key, .int .i64 t.val, .int .i64 t.node, .int .i64 t.pc, .int .i64 t.prev, .int .i64 t.cur, .int .i64 t.next, .int .i64 t.mark, .bool t.done, .int .i64 t.ans]] wi fun e w' => ∃ v, e = .returned (.tuple #[v, .agg #[.int .i64 s.kind, .int .i64 s.key, .int .i64 s.val, .int .i64 s.node, .int .i64 s.pc, .int .i64 s.prev, .int .i64 s.cur, .int .i64 s.next, .int .i64 s.mark, .bool s.done, .int .i64 s.ans]]) ∧ OwnV w' wi.heap.size 3 v (ints M) ∧ Below wi.heap.size wi w') := fun wi hi => by
      have := implStep_any wi la lc l t (hL2.on hi) (by omega)
      rw [hMs] at this
      exact this
    have CS : Hid (∀ wi, Below w2.heap.size w2 wi → Calls Try.prog 32 #[.slice la l.length lc, .agg #[.int .i64 t.kind, .int .i64 t.key, .int .i64 t.val, .int .i64 t.node, .int .i64 t.pc, .int .i64 t.prev, .int .i64 t.cur, .int .i64 t.next, .int .i64 t.mark, .bool t.done, .int .i64 t.ans]] wi fun e w' => ∃ v, e = .returned (.tuple #[v, .agg #[.int .i64 s.kind, .int .i64 s.key, .int .i64 s.val, .int .i64 s.node, .int .i64 s.pc, .int .i64 s.prev, .int .i64 s.cur, .int .i64 s.next, .int .i64 s.mark, .bool s.done, .int .i64 s.ans]]) ∧ OwnV w' wi.heap.size 3 v (ints M) ∧ Below wi.heap.size wi w') := fun wi hi => by
      have := specStep_any wi la lc l t (hL2.on hi) (by omega)
      rw [hMs] at this
      exact this
    obtain ⟨TT, hTT⟩ : ∃ T, w1.heap.size = T := ⟨_, rfl⟩
    rw [hTT] at hT2
    have HTT : Hid (w1.heap.size = TT) := hTT
    obtain ⟨b0, b1, b2, b3, b4, b5, b6, b7, b8, b9, b10⟩ := hT2.cells
    clear hw2 hMs hLi hb1 hb2 hTT
    go_wp2_with fail
    rw [HW2.out, HTT.out]
    refine Calls.mono (CI.out w2 (Below.refl _ _)) ?_
    rintro e w3 ⟨v5, rfl, ho5, hb3⟩
    obtain ⟨w4, hw4⟩ : ∃ x, w3.alloc (.cells #[.int .i64 s.kind, .int .i64 s.key, .int .i64 s.val, .int .i64 s.node, .int .i64 s.pc, .int .i64 s.prev, .int .i64 s.cur, .int .i64 s.next, .int .i64 s.mark, .bool s.done, .int .i64 s.ans] 43) = x := ⟨_, rfl⟩
    have Hw4 : Hid (w3.alloc (.cells #[.int .i64 s.kind, .int .i64 s.key, .int .i64 s.val, .int .i64 s.node, .int .i64 s.pc, .int .i64 s.prev, .int .i64 s.cur, .int .i64 s.next, .int .i64 s.mark, .bool s.done, .int .i64 s.ans] 43) = w4) := hw4
    have nUU : TBox w4 w3.heap.size s := by rw [← hw4]; exact TBox.new _ _
    have hsw4 : Below w3.heap.size w3 w4 := by rw [← hw4]; exact (Below.refl _ _).alloc (Nat.le_refl _) _
    obtain ⟨UU, hUU⟩ : ∃ T, w3.heap.size = T := ⟨_, rfl⟩
    rw [hUU] at nUU
    have HUU : Hid (w3.heap.size = UU) := hUU
    clear hw4 hUU
    have hb4 : Below w2.heap.size w2 w4 := hb3.trans (hsw4.mono hb3.size)
    have o5 := (ho5.below hsw4 (Nat.le_refl _)).mono (base' := 0) (Nat.zero_le _)
    have hT4 := hT2.on hb4
    clear b0 b1 b2 b3 b4 b5 b6 b7 b8 b9 b10 hT2 ho5 hb3 hsw4
    obtain ⟨b0, b1, b2, b3, b4, b5, b6, b7, b8, b9, b10⟩ := hT4.cells
    go_upto_region 5 with fail
    rw [Hw4.out, HUU.out]
    go_wp2_with fail
    refine Calls.mono (CS.out w4 hb4) ?_
    rintro e w5 ⟨v7, rfl, ho7, hb5⟩
    obtain ⟨w6, hw6⟩ : ∃ x, w5.alloc (.cells #[.int .i64 s.kind, .int .i64 s.key, .int .i64 s.val, .int .i64 s.node, .int .i64 s.pc, .int .i64 s.prev, .int .i64 s.cur, .int .i64 s.next, .int .i64 s.mark, .bool s.done, .int .i64 s.ans] 43) = x := ⟨_, rfl⟩
    have Hw6 : Hid (w5.alloc (.cells #[.int .i64 s.kind, .int .i64 s.key, .int .i64 s.val, .int .i64 s.node, .int .i64 s.pc, .int .i64 s.prev, .int .i64 s.cur, .int .i64 s.next, .int .i64 s.mark, .bool s.done, .int .i64 s.ans] 43) = w6) := hw6
    have nVV : TBox w6 w5.heap.size s := by rw [← hw6]; exact TBox.new _ _
    have hsw6 : Below w5.heap.size w5 w6 := by rw [← hw6]; exact (Below.refl _ _).alloc (Nat.le_refl _) _
    obtain ⟨VV, hVV⟩ : ∃ T, w5.heap.size = T := ⟨_, rfl⟩
    rw [hVV] at nVV
    have HVV : Hid (w5.heap.size = VV) := hVV
    clear hw6 hVV
    have hb6 : Below w4.heap.size w4 w6 := hb5.trans (hsw6.mono hb5.size)
    have o7 := (ho7.below hsw6 (Nat.le_refl _)).mono (base' := 0) (Nat.zero_le _)
    have o56 := o5.below hb6 (Nat.le_refl _)
    have hT6 := hT4.on hb6
    have hU6 := nUU.on hb6
    have hB6 : Below w.heap.size w w6 := (hB2.trans (hb4.mono hB2.size)).trans (hb6.mono (Nat.le_trans hB2.size hb4.size))
    clear b0 b1 b2 b3 b4 b5 b6 b7 b8 b9 b10 hT4 ho7 hb5 hsw6 o5 nUU hb6 hb4 hL2 CI CS
    have c6 := C6.out w6 hB6
    go_upto_region 6 with fail
    rw [Hw6.out, HVV.out]
    go_wp2_with fail
    refine c6.mono ?_
    rintro e wx ⟨xa, xc, X, key, rfl, hX63, hXok, hXi, hbx⟩
    have hBx : Below w.heap.size w wx := hB6.trans (hbx.mono hB6.size)
    have c7 := C7.out wx hBx
    unfold tcs at c7
    clear c6
    go_wp2_with fail
    refine c7.mono ?_
    rintro e wy ⟨y, rfl, hby⟩
    clear c7
    obtain ⟨w7, hw7⟩ : ∃ x, wy.alloc (.cells #[.int .i64 y.kind, .int .i64 y.key, .int .i64 y.val, .int .i64 y.node, .int .i64 y.pc, .int .i64 y.prev, .int .i64 y.cur, .int .i64 y.next, .int .i64 y.mark, .bool y.done, .int .i64 y.ans] 43) = x := ⟨_, rfl⟩
    have Hw7 : Hid (wy.alloc (.cells #[.int .i64 y.kind, .int .i64 y.key, .int .i64 y.val, .int .i64 y.node, .int .i64 y.pc, .int .i64 y.prev, .int .i64 y.cur, .int .i64 y.next, .int .i64 y.mark, .bool y.done, .int .i64 y.ans] 43) = w7) := hw7
    have nYY : TBox w7 wy.heap.size y := by rw [← hw7]; exact TBox.new _ _
    have hsw7 : Below wy.heap.size wy w7 := by rw [← hw7]; exact (Below.refl _ _).alloc (Nat.le_refl _) _
    obtain ⟨YY, hYY⟩ : ∃ T, wy.heap.size = T := ⟨_, rfl⟩
    rw [hYY] at nYY
    have HYY : Hid (wy.heap.size = YY) := hYY
    clear hw7 hYY
    have hb7 : Below w6.heap.size w6 w7 := (hbx.trans (hby.mono hbx.size)).trans (hsw7.mono (Nat.le_trans hbx.size hby.size))
    have hB7 : Below w.heap.size w w7 := hB6.trans (hb7.mono hB6.size)
    have hX7 : IAt w7 xa X w7.heap.size := hXi.on (hby.trans (hsw7.mono hby.size))
    have hT7 := hT6.on hb7
    have hU7 := hU6.on hb7
    have hV7 := nVV.on hb7
    have o57 := o56.below hb7 (Nat.le_refl _)
    have o77 := o7.below hb7 (Nat.le_refl _)
    have HB : Hid (∀ wi, Below w7.heap.size w7 wi → TBox wi TT t ∧ TBox wi UU s ∧ TBox wi VV s ∧ TBox wi YY y ∧ OwnV wi 0 3 v5 (ints M) ∧ OwnV wi 0 3 v7 (ints M) ∧ IAt wi xa X wi.heap.size ∧ Below w.heap.size w wi) := fun wi hi => ⟨hT7.on hi, hU7.on hi, hV7.on hi, nYY.on hi, o57.below hi (Nat.le_refl _), o77.below hi (Nat.le_refl _), hX7.on hi, hB7.trans (hi.mono hB7.size)⟩
    obtain ⟨a5, k5, rfl, _⟩ := o57.ints
    obtain ⟨a7, k7, rfl, _⟩ := o77.ints
    have HX : Hid (X.length ≤ 1048576 ∧ Bd X) := ⟨by omega, okC_Bd6 hXok⟩
    clear hT6 hU6 nVV o56 o7 hB6 hbx hBx hby hsw7 hb7 hB7 hX7 hT7 hU7 hV7 o57 o77 nYY hXi hXok hX63 hl63 hlok hB2 C6 C7
    have KS : ∀ wi, Below w7.heap.size w7 wi → (Below w7.heap.size w7 wi ∧ (wi.cell? ⟨TT, 0, none⟩ = some (.int .i64 t.kind) ∧ wi.cell? ⟨TT, 1, none⟩ = some (.int .i64 t.key) ∧ wi.cell? ⟨TT, 2, none⟩ = some (.int .i64 t.val) ∧ wi.cell? ⟨TT, 3, none⟩ = some (.int .i64 t.node) ∧ wi.cell? ⟨TT, 4, none⟩ = some (.int .i64 t.pc) ∧ wi.cell? ⟨TT, 5, none⟩ = some (.int .i64 t.prev) ∧ wi.cell? ⟨TT, 6, none⟩ = some (.int .i64 t.cur) ∧ wi.cell? ⟨TT, 7, none⟩ = some (.int .i64 t.next) ∧ wi.cell? ⟨TT, 8, none⟩ = some (.int .i64 t.mark) ∧ wi.cell? ⟨TT, 9, none⟩ = some (.bool t.done) ∧ wi.cell? ⟨TT, 10, none⟩ = some (.int .i64 t.ans)) ∧ (wi.cell? ⟨UU, 0, none⟩ = some (.int .i64 s.kind) ∧ wi.cell? ⟨UU, 1, none⟩ = some (.int .i64 s.key) ∧ wi.cell? ⟨UU, 2, none⟩ = some (.int .i64 s.val) ∧ wi.cell? ⟨UU, 3, none⟩ = some (.int .i64 s.node) ∧ wi.cell? ⟨UU, 4, none⟩ = some (.int .i64 s.pc) ∧ wi.cell? ⟨UU, 5, none⟩ = some (.int .i64 s.prev) ∧ wi.cell? ⟨UU, 6, none⟩ = some (.int .i64 s.cur) ∧ wi.cell? ⟨UU, 7, none⟩ = some (.int .i64 s.next) ∧ wi.cell? ⟨UU, 8, none⟩ = some (.int .i64 s.mark) ∧ wi.cell? ⟨UU, 9, none⟩ = some (.bool s.done) ∧ wi.cell? ⟨UU, 10, none⟩ = some (.int .i64 s.ans)) ∧ (wi.cell? ⟨VV, 0, none⟩ = some (.int .i64 s.kind) ∧ wi.cell? ⟨VV, 1, none⟩ = some (.int .i64 s.key) ∧ wi.cell? ⟨VV, 2, none⟩ = some (.int .i64 s.val) ∧ wi.cell? ⟨VV, 3, none⟩ = some (.int .i64 s.node) ∧ wi.cell? ⟨VV, 4, none⟩ = some (.int .i64 s.pc) ∧ wi.cell? ⟨VV, 5, none⟩ = some (.int .i64 s.prev) ∧ wi.cell? ⟨VV, 6, none⟩ = some (.int .i64 s.cur) ∧ wi.cell? ⟨VV, 7, none⟩ = some (.int .i64 s.next) ∧ wi.cell? ⟨VV, 8, none⟩ = some (.int .i64 s.mark) ∧ wi.cell? ⟨VV, 9, none⟩ = some (.bool s.done) ∧ wi.cell? ⟨VV, 10, none⟩ = some (.int .i64 s.ans)) ∧ (wi.cell? ⟨YY, 0, none⟩ = some (.int .i64 y.kind) ∧ wi.cell? ⟨YY, 1, none⟩ = some (.int .i64 y.key) ∧ wi.cell? ⟨YY, 2, none⟩ = some (.int .i64 y.val) ∧ wi.cell? ⟨YY, 3, none⟩ = some (.int .i64 y.node) ∧ wi.cell? ⟨YY, 4, none⟩ = some (.int .i64 y.pc) ∧ wi.cell? ⟨YY, 5, none⟩ = some (.int .i64 y.prev) ∧ wi.cell? ⟨YY, 6, none⟩ = some (.int .i64 y.cur) ∧ wi.cell? ⟨YY, 7, none⟩ = some (.int .i64 y.next) ∧ wi.cell? ⟨YY, 8, none⟩ = some (.int .i64 y.mark) ∧ wi.cell? ⟨YY, 9, none⟩ = some (.bool y.done) ∧ wi.cell? ⟨YY, 10, none⟩ = some (.int .i64 y.ans))) := fun wi hi => ⟨hi, (HB.out wi hi).1.cells, (HB.out wi hi).2.1.cells, (HB.out wi hi).2.2.1.cells, (HB.out wi hi).2.2.2.1.cells⟩
    have heq : ∀ w, (binOp .eql 43 (.agg #[.int .i64 s.kind, .int .i64 s.key, .int .i64 s.val, .int .i64 s.node, .int .i64 s.pc, .int .i64 s.prev, .int .i64 s.cur, .int .i64 s.next, .int .i64 s.mark, .bool s.done, .int .i64 s.ans]) (.agg #[.int .i64 s.kind, .int .i64 s.key, .int .i64 s.val, .int .i64 s.node, .int .i64 s.pc, .int .i64 s.prev, .int .i64 s.cur, .int .i64 s.next, .int .i64 s.mark, .bool s.done, .int .i64 s.ans])).run Try.prog w = .ok (.bool true) w := tk_eql s
    have hfld := tk_fld
    have hdr : Below w7.heap.size w7 w7.drew := ⟨rfl, rfl, rfl, Nat.le_refl _, fun _ _ => rfl⟩
    go_upto_region 8 with fail
    rw [Hw7.out, HYY.out]
    obtain ⟨bt, hbt⟩ : ∃ b, t.ok = b := ⟨_, rfl⟩
    obtain ⟨by_, hby_⟩ : ∃ b, y.ok = b := ⟨_, rfl⟩
    obtain ⟨vv, hvv⟩ : ∃ v, valueL X key = v := ⟨_, rfl⟩
    obtain ⟨KX, hKX⟩ : ∃ K, keysL X = K := ⟨_, rfl⟩
    have hKl : KX.length ≤ 20 := by rw [← hKX]; unfold keysL; rw [List.length_map]; exact liveL_len X
    have CA : Hid (∀ wi, Below w7.heap.size w7 wi → Calls Try.prog 16 #[.slice a5 M.length k5, .slice a7 M.length k7] wi fun e w' => e = .returned (.bool true) ∧ Below wi.heap.size wi w') := fun wi hi => by
      obtain ⟨p1, q1, h1, i1⟩ := (HB.out wi hi).2.2.2.2.1.ints
      obtain ⟨p2, q2, h2, i2⟩ := (HB.out wi hi).2.2.2.2.2.1.ints
      simp only [Value.slice.injEq] at h1 h2
      obtain ⟨rfl, _, rfl⟩ := h1
      obtain ⟨rfl, _, rfl⟩ := h2
      exact sameInts_same wi _ _ _ _ M i1 i2 hMl.out
    have CT1 : Hid (∀ wi, Calls Try.prog 35 #[.agg #[.int .i64 t.kind, .int .i64 t.key, .int .i64 t.val, .int .i64 t.node, .int .i64 t.pc, .int .i64 t.prev, .int .i64 t.cur, .int .i64 t.next, .int .i64 t.mark, .bool t.done, .int .i64 t.ans]] wi fun e w' => e = .returned (.bool bt) ∧ Below wi.heap.size wi w') := fun wi => by have := implTaskOk_any t wi; rw [hbt] at this; exact this
    have CT2 : Hid (∀ wi, Calls Try.prog 36 #[.agg #[.int .i64 t.kind, .int .i64 t.key, .int .i64 t.val, .int .i64 t.node, .int .i64 t.pc, .int .i64 t.prev, .int .i64 t.cur, .int .i64 t.next, .int .i64 t.mark, .bool t.done, .int .i64 t.ans]] wi fun e w' => e = .returned (.bool bt) ∧ Below wi.heap.size wi w') := fun wi => by have := specTaskOk_any t wi; rw [hbt] at this; exact this
    have CY1 : Hid (∀ wi, Calls Try.prog 35 #[.agg #[.int .i64 y.kind, .int .i64 y.key, .int .i64 y.val, .int .i64 y.node, .int .i64 y.pc, .int .i64 y.prev, .int .i64 y.cur, .int .i64 y.next, .int .i64 y.mark, .bool y.done, .int .i64 y.ans]] wi fun e w' => e = .returned (.bool by_) ∧ Below wi.heap.size wi w') := fun wi => by have := implTaskOk_any y wi; rw [hby_] at this; exact this
    have CY2 : Hid (∀ wi, Calls Try.prog 36 #[.agg #[.int .i64 y.kind, .int .i64 y.key, .int .i64 y.val, .int .i64 y.node, .int .i64 y.pc, .int .i64 y.prev, .int .i64 y.cur, .int .i64 y.next, .int .i64 y.mark, .bool y.done, .int .i64 y.ans]] wi fun e w' => e = .returned (.bool by_) ∧ Below wi.heap.size wi w') := fun wi => by have := specTaskOk_any y wi; rw [hby_] at this; exact this
    have CK1 : Hid (∀ wi, Below w7.heap.size w7 wi → Calls Try.prog 29 #[.slice xa X.length xc] wi fun e w' => ∃ p q, e = .returned (.slice p KX.length q) ∧ IAt w' p KX w'.heap.size ∧ Below wi.heap.size wi w') := fun wi hi => (implKeys_any wi xa xc X (HB.out wi hi).2.2.2.2.2.2.1 HX.out.1 HX.out.2).mono (by
      rintro e w' ⟨v, rfl, ho, hb⟩
      rw [hKX] at ho
      obtain ⟨p, q, rfl, hI⟩ := ho.ints
      exact ⟨p, q, rfl, hI, hb⟩)
    have CK2 : Hid (∀ wi, Below w7.heap.size w7 wi → Calls Try.prog 37 #[.slice xa X.length xc] wi fun e w' => ∃ p q, e = .returned (.slice p KX.length q) ∧ IAt w' p KX w'.heap.size ∧ Below wi.heap.size wi w') := fun wi hi => (specKeys_any wi xa xc X (HB.out wi hi).2.2.2.2.2.2.1 HX.out.1 HX.out.2).mono (by
      rintro e w' ⟨v, rfl, ho, hb⟩
      rw [hKX] at ho
      obtain ⟨p, q, rfl, hI⟩ := ho.ints
      exact ⟨p, q, rfl, hI, hb⟩)
    have CV1 : Hid (∀ wi, Below w7.heap.size w7 wi → Calls Try.prog 30 #[.slice xa X.length xc, .int .i64 key] wi fun e w' => e = .returned (.int .i64 vv) ∧ Below wi.heap.size wi w') := fun wi hi => by have := implValue_any wi xa xc X key (HB.out wi hi).2.2.2.2.2.2.1 HX.out.1 HX.out.2; rw [hvv] at this; exact this
    have CV2 : Hid (∀ wi, Below w7.heap.size w7 wi → Calls Try.prog 38 #[.slice xa X.length xc, .int .i64 key] wi fun e w' => e = .returned (.int .i64 vv) ∧ Below wi.heap.size wi w') := fun wi hi => by have := specValue_any wi xa xc X key (HB.out wi hi).2.2.2.2.2.2.1 HX.out.1 HX.out.2; rw [hvv] at this; exact this
    have CN : Hid (∀ wi, Calls Try.prog 25 #[] wi fun e w' => ∃ p q, e = .returned (.slice p 63 q) ∧ Below wi.heap.size wi w') := fun wi => (implListNew_any wi).mono (by
      rintro e w' ⟨v, rfl, ho, hb⟩
      obtain ⟨p, q, rfl, _⟩ := ho.ints
      exact ⟨p, q, rfl, hb⟩)
    have CW : Hid (∀ wi, Calls Try.prog 26 #[.int .i64 1, .int .i64 2, .int .i64 3, .int .i64 4] wi fun e w' => e = .returned (.agg #[.int .i64 1, .int .i64 2, .int .i64 3, .int .i64 4, .int .i64 0, .int .i64 0, .int .i64 0, .int .i64 0, .int .i64 0, .bool false, .int .i64 0]) ∧ Below wi.heap.size wi w') := fun wi => implTaskNew_any 1 2 3 4 wi
    clear hbt hby_ hvv hKX hMl HX
    go_region_held3 (fun w' => Below w7.heap.size w7 w' ∧ (w'.cell? ⟨TT, 0, none⟩ = some (.int .i64 t.kind) ∧ w'.cell? ⟨TT, 1, none⟩ = some (.int .i64 t.key) ∧ w'.cell? ⟨TT, 2, none⟩ = some (.int .i64 t.val) ∧ w'.cell? ⟨TT, 3, none⟩ = some (.int .i64 t.node) ∧ w'.cell? ⟨TT, 4, none⟩ = some (.int .i64 t.pc) ∧ w'.cell? ⟨TT, 5, none⟩ = some (.int .i64 t.prev) ∧ w'.cell? ⟨TT, 6, none⟩ = some (.int .i64 t.cur) ∧ w'.cell? ⟨TT, 7, none⟩ = some (.int .i64 t.next) ∧ w'.cell? ⟨TT, 8, none⟩ = some (.int .i64 t.mark) ∧ w'.cell? ⟨TT, 9, none⟩ = some (.bool t.done) ∧ w'.cell? ⟨TT, 10, none⟩ = some (.int .i64 t.ans)) ∧ (w'.cell? ⟨UU, 0, none⟩ = some (.int .i64 s.kind) ∧ w'.cell? ⟨UU, 1, none⟩ = some (.int .i64 s.key) ∧ w'.cell? ⟨UU, 2, none⟩ = some (.int .i64 s.val) ∧ w'.cell? ⟨UU, 3, none⟩ = some (.int .i64 s.node) ∧ w'.cell? ⟨UU, 4, none⟩ = some (.int .i64 s.pc) ∧ w'.cell? ⟨UU, 5, none⟩ = some (.int .i64 s.prev) ∧ w'.cell? ⟨UU, 6, none⟩ = some (.int .i64 s.cur) ∧ w'.cell? ⟨UU, 7, none⟩ = some (.int .i64 s.next) ∧ w'.cell? ⟨UU, 8, none⟩ = some (.int .i64 s.mark) ∧ w'.cell? ⟨UU, 9, none⟩ = some (.bool s.done) ∧ w'.cell? ⟨UU, 10, none⟩ = some (.int .i64 s.ans)) ∧ (w'.cell? ⟨VV, 0, none⟩ = some (.int .i64 s.kind) ∧ w'.cell? ⟨VV, 1, none⟩ = some (.int .i64 s.key) ∧ w'.cell? ⟨VV, 2, none⟩ = some (.int .i64 s.val) ∧ w'.cell? ⟨VV, 3, none⟩ = some (.int .i64 s.node) ∧ w'.cell? ⟨VV, 4, none⟩ = some (.int .i64 s.pc) ∧ w'.cell? ⟨VV, 5, none⟩ = some (.int .i64 s.prev) ∧ w'.cell? ⟨VV, 6, none⟩ = some (.int .i64 s.cur) ∧ w'.cell? ⟨VV, 7, none⟩ = some (.int .i64 s.next) ∧ w'.cell? ⟨VV, 8, none⟩ = some (.int .i64 s.mark) ∧ w'.cell? ⟨VV, 9, none⟩ = some (.bool s.done) ∧ w'.cell? ⟨VV, 10, none⟩ = some (.int .i64 s.ans)) ∧ (w'.cell? ⟨YY, 0, none⟩ = some (.int .i64 y.kind) ∧ w'.cell? ⟨YY, 1, none⟩ = some (.int .i64 y.key) ∧ w'.cell? ⟨YY, 2, none⟩ = some (.int .i64 y.val) ∧ w'.cell? ⟨YY, 3, none⟩ = some (.int .i64 y.node) ∧ w'.cell? ⟨YY, 4, none⟩ = some (.int .i64 y.pc) ∧ w'.cell? ⟨YY, 5, none⟩ = some (.int .i64 y.prev) ∧ w'.cell? ⟨YY, 6, none⟩ = some (.int .i64 y.cur) ∧ w'.cell? ⟨YY, 7, none⟩ = some (.int .i64 y.next) ∧ w'.cell? ⟨YY, 8, none⟩ = some (.int .i64 y.mark) ∧ w'.cell? ⟨YY, 9, none⟩ = some (.bool y.done) ∧ w'.cell? ⟨YY, 10, none⟩ = some (.int .i64 y.ans))) (first | with_reducible exact KS _ hC | with_reducible exact KS _ hdr)
      (first
        | (go_at_call 16; first
            | (with_reducible refine Calls.mono (CA.out _ (by first | with_reducible exact hC | with_reducible exact hdr)) ?_; rintro e wn ⟨rfl, hbn⟩; have hC := tB7 (by first | with_reducible exact hC | with_reducible exact hdr) hbn)
            | (refine Calls.mono (sameInts_same _ _ _ _ _ KX hKI hKS (by omega)) ?_; rintro e wn ⟨rfl, hbn⟩; have hC := tB7 hC hbn))
        | (go_at_call 35; (first | with_reducible refine Calls.mono (CT1.out _) ?_ | with_reducible refine Calls.mono (CY1.out _) ?_); rintro e wn ⟨rfl, hbn⟩; have hC := tB7 hC hbn)
        | (go_at_call 36; (first | with_reducible refine Calls.mono (CT2.out _) ?_ | with_reducible refine Calls.mono (CY2.out _) ?_); rintro e wn ⟨rfl, hbn⟩; have hC := tB7 hC hbn)
        | (go_at_call 29; refine Calls.mono (CK1.out _ hC) ?_; rintro e wn ⟨pI, qI, rfl, hKI, hbn⟩; have hC := tB7 hC hbn; try (have hKS := hKS.on hbn))
        | (go_at_call 37; refine Calls.mono (CK2.out _ hC) ?_; rintro e wn ⟨pS, qS, rfl, hKS, hbn⟩; have hC := tB7 hC hbn; try (have hKI := hKI.on hbn))
        | (go_at_call 30; refine Calls.mono (CV1.out _ hC) ?_; rintro e wn ⟨rfl, hbn⟩; have hC := tB7 hC hbn)
        | (go_at_call 38; refine Calls.mono (CV2.out _ hC) ?_; rintro e wn ⟨rfl, hbn⟩; have hC := tB7 hC hbn)
        | (go_at_call 25; refine Calls.mono (CN.out _) ?_; rintro e wn ⟨pn, qn, rfl, hbn⟩; have hC := tB7 hC hbn)
        | (go_at_call 26; refine Calls.mono (CW.out _) ?_; rintro e wn ⟨rfl, hbn⟩; have hC := tB7 hC hbn))
    all_goals go_wp2
    all_goals go_ret
    all_goals exact ⟨rfl, (HB.out _ hC).2.2.2.2.2.2.2⟩
  · have cb := big_any ca n cap w hlen
    rw [show decide (1048576 < n) = true by simp; omega] at cb
    go_enter Try.func6, Try.ntmps6
    go_wp2_with fail
    refine cb.mono ?_
    rintro e w' ⟨rfl, rfl⟩
    go_wp2
    go_ret
    exact ⟨rfl, Below.refl _ _⟩
end Go.Proofs.Ytockgojdmaladab
