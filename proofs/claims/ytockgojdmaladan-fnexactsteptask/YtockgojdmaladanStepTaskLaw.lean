/- The walk of the law on StepTask, given the program's contract. -/
import Derived.Test.YtockgojdmaladanStepTaskSpec
import Derived.Test.YtockgojdmaladanTaskLaw
import Derived.Test.YtockgojdmaladanMarkInts
import Derived.Deep.DeepCutAuto
import Derived.Deep.RegionLaw
namespace Go.Proofs.Ytockgojdmaladan
open Go.RowKit Go.Sort

theorem tB {a b c : World} (h : Below a.heap.size a b) (k : Below b.heap.size b c) : Below a.heap.size a c := h.trans (k.mono h.size)
theorem pB {a b : World} (h : Below a.heap.size a b) (o : Obj) : Below a.heap.size a (b.alloc o) := h.alloc h.size o
/-- The task that was handed in, in its variable. -/
def LBox (w : World) (T : Nat) (t : Tk) : Prop := w.heap[T]? = some (.cells (tcs t) 32 (0, 0))
theorem LBox.cells {w : World} {T : Nat} {t : Tk} (h : LBox w T t) : w.cell? ⟨T, 0, none⟩ = some (.int .i64 t.kind) ∧ w.cell? ⟨T, 1, none⟩ = some (.int .i64 t.key) ∧ w.cell? ⟨T, 2, none⟩ = some (.int .i64 t.val) ∧ w.cell? ⟨T, 3, none⟩ = some (.int .i64 t.node) ∧ w.cell? ⟨T, 4, none⟩ = some (.int .i64 t.pc) ∧ w.cell? ⟨T, 5, none⟩ = some (.int .i64 t.prev) ∧ w.cell? ⟨T, 6, none⟩ = some (.int .i64 t.cur) ∧ w.cell? ⟨T, 7, none⟩ = some (.int .i64 t.next) ∧ w.cell? ⟨T, 8, none⟩ = some (.int .i64 t.mark) ∧ w.cell? ⟨T, 9, none⟩ = some (.bool t.done) ∧ w.cell? ⟨T, 10, none⟩ = some (.int .i64 t.ans) := by
  unfold LBox tcs at h
  refine ⟨?_, ?_, ?_, ?_, ?_, ?_, ?_, ?_, ?_, ?_, ?_⟩ <;> simp [World.cell?, h]
theorem toTaskU_any (t : Tk) (w : World) : Calls Try.prog 18 #[.agg #[.int .i64 t.kind, .int .i64 t.key, .int .i64 t.val, .int .i64 t.node, .int .i64 t.pc, .int .i64 t.prev, .int .i64 t.cur, .int .i64 t.next, .int .i64 t.mark, .bool t.done, .int .i64 t.ans]] w fun e w' => e = .returned (.agg #[.int .i64 t.kind, .int .i64 t.key, .int .i64 t.val, .int .i64 t.node, .int .i64 t.pc, .int .i64 t.prev, .int .i64 t.cur, .int .i64 t.next, .int .i64 t.mark, .bool t.done, .int .i64 t.ans]) ∧ Below w.heap.size w w' := toTask_any t w
theorem eqTaskU_same (t : Tk) (w : World) : Calls Try.prog 16 #[.agg #[.int .i64 t.kind, .int .i64 t.key, .int .i64 t.val, .int .i64 t.node, .int .i64 t.pc, .int .i64 t.prev, .int .i64 t.cur, .int .i64 t.next, .int .i64 t.mark, .bool t.done, .int .i64 t.ans], .agg #[.int .i64 t.kind, .int .i64 t.key, .int .i64 t.val, .int .i64 t.node, .int .i64 t.pc, .int .i64 t.prev, .int .i64 t.cur, .int .i64 t.next, .int .i64 t.mark, .bool t.done, .int .i64 t.ans]] w fun e w' => e = .returned (.bool true) ∧ Below w.heap.size w w' := eqTask_same t w
theorem ne_box {w : World} {R b : Nat} {t : Tk} {v : Value} {xs : List Int} (h : TBox w R t) (ho : OwnV w b 3 v (ints xs)) : ∀ k, v.ownBlock = some k → k ≠ R := by
  rintro k hk rfl
  rcases ho.2 with ⟨rfl, _⟩ | ⟨g, cap, cur, rfl, _, hg, _⟩
  · simp [Value.ownBlock] at hk
  · simp [Value.ownBlock] at hk
    subst hk
    have := h.symm.trans hg
    simp at this

/-- What the law has at hand: the two tasks in their variables, the two lists. -/
structure Sd (wb : World) (P0 G0 : Nat) (s : Tk) (v0 vg : Value) (M N : List Int) (wi : World) : Prop where
  p : TBox wi P0 s
  g : TBox wi G0 s
  o0 : OwnV wi 0 3 v0 (ints M)
  og : OwnV wi 0 3 vg (ints N)
  bel : Below wb.heap.size wb wi
theorem Sd.next {wb : World} {P0 G0 : Nat} {s : Tk} {v0 vg : Value} {M N : List Int} {wi wj : World} (h : Sd wb P0 G0 s v0 vg M N wi) (hb : Below wi.heap.size wi wj) : Sd wb P0 G0 s v0 vg M N wj := ⟨h.p.on hb, h.g.on hb, h.o0.below hb (Nat.le_refl _), h.og.below hb (Nat.le_refl _), tB h.bel hb⟩
theorem Sd.grown {wb : World} {P0 G0 : Nat} {s : Tk} {v0 vg : Value} {M N : List Int} {wi wj : World} {row : Option Nat} (h : Sd wb P0 G0 s v0 vg M N wi) (hg : wi.grownBy wj row) (hn : ∀ k, row = some k → k ≠ P0 ∧ k ≠ G0 ∧ v0.ownBlock ≠ some k ∧ vg.ownBlock ≠ some k ∧ wb.heap.size ≤ k) : Sd wb P0 G0 s v0 vg M N wj :=
  ⟨h.p.kept (hg.block _ h.p.lt (fun e => (hn _ e.symm).1 rfl)), h.g.kept (hg.block _ h.g.lt (fun e => (hn _ e.symm).2.1 rfl)), h.o0.grown hg (fun k hk e => (hn k e).2.2.1 hk), h.og.grown hg (fun k hk e => (hn k e).2.2.2.1 hk), Below.grown h.bel hg h.bel.size (fun k hk => (hn k hk).2.2.2.2)⟩
theorem Sd.marked {wb : World} {P0 G0 : Nat} {s : Tk} {v0 vg : Value} {M N K : List Int} {wi wj : World} (h : Sd wb P0 G0 s v0 vg M N wi) (hg : wi.grownBy wj vg.ownBlock) (hn : ∀ k, vg.ownBlock = some k → k ≠ P0 ∧ k ≠ G0 ∧ v0.ownBlock ≠ some k ∧ wb.heap.size ≤ k) (ho : OwnV wj 0 3 vg (ints K)) : Sd wb P0 G0 s v0 vg M K wj :=
  ⟨h.p.kept (hg.block _ h.p.lt (fun e => (hn _ e.symm).1 rfl)), h.g.kept (hg.block _ h.g.lt (fun e => (hn _ e.symm).2.1 rfl)), h.o0.grown hg (fun k hk e => (hn k e).2.2.1 hk), ho, Below.grown h.bel hg h.bel.size (fun k hk => (hn k hk).2.2.2)⟩

set_option maxRecDepth 100000 in
set_option maxHeartbeats 8000000 in
theorem stepTask_given (CI0 : ∀ (w : World) (a : Option Addr) (cap : Nat) (l : List Int) (t : Tk), IAt w a l w.heap.size → l.length ≤ 1048576 → Calls Try.prog 22 #[.slice a l.length cap, .agg (tcs t)] w fun e w' => ∃ v, e = .returned (.tuple #[v, .agg (tcs (stepL l t).2)]) ∧ OwnV w' w.heap.size 3 v (ints (stepL l t).1) ∧ Below w.heap.size w w')
    (a : Option Addr) (cap : Nat) (l : List Int) (t : Tk) (w : World) (hL : IAt w a l w.heap.size) (hi : l.length ≤ maxLen) :
    Calls Try.prog 6 #[.slice a l.length cap, .agg (tcs t)] w fun e w' => e = .returned (.bool true) ∧ Below w.heap.size w w' := by
  unfold maxLen at hi
  obtain ⟨wb, hwb⟩ : ∃ wb, w.alloc (.cells (tcs t) 32) = wb := ⟨_, rfl⟩
  have hb : Below w.heap.size w wb := by rw [← hwb]; exact (Below.refl _ _).alloc (Nat.le_refl _) _
  have hbs : w.heap.size < wb.heap.size := by rw [← hwb]; simp
  have hbox : LBox wb w.heap.size t := by rw [← hwb]; exact heap_alloc_new _ _
  have hLb : IAt wb a l wb.heap.size := hL.on hb
  have HB : Hid (∀ wi, Below wb.heap.size wb wi → LBox wi w.heap.size t ∧ IAt wi a l wi.heap.size ∧ Below w.heap.size w wi) := fun wi hi => ⟨(hi.block _ hbs).trans hbox, hLb.on hi, tB hb hi⟩
  have HW : Hid (w.alloc (.cells #[.int .i64 t.kind, .int .i64 t.key, .int .i64 t.val, .int .i64 t.node, .int .i64 t.pc, .int .i64 t.prev, .int .i64 t.cur, .int .i64 t.next, .int .i64 t.mark, .bool t.done, .int .i64 t.ans] 32) = wb) := hwb
  clear hL hb hwb hbox hLb
  by_cases hlf : l.length ≤ 1048576
  case neg =>
    unfold tcs
    go_enter Try.func6, Try.ntmps6
    go_wp2
    go_ret
    exact ⟨rfl, by rw [HW.out]; exact (HB.out wb (Below.refl _ _)).2.2⟩
  obtain ⟨M, s, hMs⟩ : ∃ M s, stepL l t = (M, s) := ⟨_, _, rfl⟩
  have hMl : M.length ≤ 1048576 := by have := stepL_len l t; rw [hMs] at this; dsimp only at this; omega
  have CS : Hid (∀ (wi : World) (x : Option Addr) (cx : Nat), IAt wi x l wi.heap.size → Calls Try.prog 20 #[.slice x l.length cx, .agg #[.int .i64 t.kind, .int .i64 t.key, .int .i64 t.val, .int .i64 t.node, .int .i64 t.pc, .int .i64 t.prev, .int .i64 t.cur, .int .i64 t.next, .int .i64 t.mark, .bool t.done, .int .i64 t.ans]] wi fun e w' => ∃ y cy, e = .returned (.tuple #[.slice y M.length cy, .agg #[.int .i64 s.kind, .int .i64 s.key, .int .i64 s.val, .int .i64 s.node, .int .i64 s.pc, .int .i64 s.prev, .int .i64 s.cur, .int .i64 s.next, .int .i64 s.mark, .bool s.done, .int .i64 s.ans]]) ∧ OwnV w' wi.heap.size 3 (.slice y M.length cy) (ints M) ∧ Below wi.heap.size wi w') := by
    intro wi x cx h1
    refine (specStep_any wi x cx l t h1 hlf).mono ?_
    rintro e w' ⟨v, he, ho, hb⟩
    rw [hMs] at he ho
    obtain ⟨y, cy, rfl, _⟩ := ho.ints
    exact ⟨y, cy, he, ho, hb⟩
  have CI : Hid (∀ (wi : World) (x : Option Addr) (cx : Nat), IAt wi x l wi.heap.size → Calls Try.prog 22 #[.slice x l.length cx, .agg #[.int .i64 t.kind, .int .i64 t.key, .int .i64 t.val, .int .i64 t.node, .int .i64 t.pc, .int .i64 t.prev, .int .i64 t.cur, .int .i64 t.next, .int .i64 t.mark, .bool t.done, .int .i64 t.ans]] wi fun e w' => ∃ y cy, e = .returned (.tuple #[.slice y M.length cy, .agg #[.int .i64 s.kind, .int .i64 s.key, .int .i64 s.val, .int .i64 s.node, .int .i64 s.pc, .int .i64 s.prev, .int .i64 s.cur, .int .i64 s.next, .int .i64 s.mark, .bool s.done, .int .i64 s.ans]]) ∧ OwnV w' wi.heap.size 3 (.slice y M.length cy) (ints M) ∧ Below wi.heap.size wi w') := by
    intro wi x cx h1
    refine (CI0 wi x cx l t h1 hlf).mono ?_
    rintro e w' ⟨v, he, ho, hb⟩
    rw [hMs] at he ho
    obtain ⟨y, cy, rfl, _⟩ := ho.ints
    exact ⟨y, cy, he, ho, hb⟩
  have hB2 : Below wb.heap.size wb wb := Below.refl _ _
  obtain ⟨hX2, hL2, hw2⟩ := HB.out wb hB2
  have hd2 : Below wb.heap.size wb wb.drew := ⟨rfl, rfl, rfl, Nat.le_refl _, fun _ _ => rfl⟩
  obtain ⟨x0, x1, x2, x3, x4, x5, x6, x7, x8, x9, x10⟩ := (HB.out (wb.alloc (.cells #[.int .i64 0, .int .i64 0, .int .i64 0, .int .i64 0, .int .i64 0, .int .i64 0, .int .i64 0, .int .i64 0, .int .i64 0, .bool false, .int .i64 0] 28)) (pB hB2 _)).1.cells
  obtain ⟨u0, u1, u2, u3, u4, u5, u6, u7, u8, u9, u10⟩ := hX2.cells
  clear CI0 hMs
  unfold tcs
  go_enter Try.func6, Try.ntmps6
  go_wp2_with fail
  rw [HW.out]
  go_cut [5, 6] (fun v p wc => ∃ (P0 : Nat) (y : Option Addr) (cy : Nat), v = .slice y M.length cy ∧ p = .pointer (some ⟨P0, 0, none⟩) ∧ TBox wc P0 s ∧ OwnV wc wb.heap.size 3 (.slice y M.length cy) (ints M) ∧ Below wb.heap.size wb wc)
  case first =>
    go_region_law (first
      | (go_simp; go_at_call 21; first
          | (refine (toIntS_any wb.drew a cap l (IAt.on hL2 hd2) hlf).mono ?_; rintro e wA ⟨vA, rfl, hoA, hbA⟩; have hA1 := tB hd2 hbA; obtain ⟨aA, capA, rfl, hAA⟩ := hoA.ints; clear hoA hbA; obtain ⟨m0, m1, m2, m3, m4, m5, m6, m7, m8, m9, m10⟩ := (HB.out wA (tB hB2 hA1)).1.cells; obtain ⟨n0, n1, n2, n3, n4, n5, n6, n7, n8, n9, n10⟩ := (HB.out (wA.alloc (.cells #[.int .i64 0, .int .i64 0, .int .i64 0, .int .i64 0, .int .i64 0, .int .i64 0, .int .i64 0, .int .i64 0, .int .i64 0, .bool false, .int .i64 0] 28)) (tB hB2 (pB hA1 _))).1.cells)
          | (refine (toIntS_any (wb.drew.alloc (.cells #[.int .i64 0, .int .i64 0, .int .i64 0, .int .i64 0, .int .i64 0, .int .i64 0, .int .i64 0, .int .i64 0, .int .i64 0, .bool false, .int .i64 0] 28)) a cap l (IAt.on hL2 (pB hd2 _)) hlf).mono ?_; rintro e wA ⟨vA, rfl, hoA, hbA⟩; have hz : TBox wA wb.heap.size Tk.zero := (TBox.new wb.drew Tk.zero).on hbA; have hA1 := tB (pB hd2 _) hbA; obtain ⟨aA, capA, rfl, hAA⟩ := hoA.ints; clear hoA hbA; obtain ⟨m0, m1, m2, m3, m4, m5, m6, m7, m8, m9, m10⟩ := (HB.out wA (tB hB2 hA1)).1.cells; obtain ⟨n0, n1, n2, n3, n4, n5, n6, n7, n8, n9, n10⟩ := (HB.out (wA.alloc (.cells #[.int .i64 0, .int .i64 0, .int .i64 0, .int .i64 0, .int .i64 0, .int .i64 0, .int .i64 0, .int .i64 0, .int .i64 0, .bool false, .int .i64 0] 28)) (tB hB2 (pB hA1 _))).1.cells))
      | (go_simp; go_at_call 18; first
          | (refine (toTaskU_any t wA).mono ?_; rintro e wB ⟨rfl, hbB⟩; have hB1 := tB hA1 hbB; have hAB := IAt.on hAA hbB; (try replace hz := TBox.on hz hbB); clear hbB)
          | (refine (toTaskU_any t (wA.alloc (.cells #[.int .i64 0, .int .i64 0, .int .i64 0, .int .i64 0, .int .i64 0, .int .i64 0, .int .i64 0, .int .i64 0, .int .i64 0, .bool false, .int .i64 0] 28))).mono ?_; rintro e wB ⟨rfl, hbB⟩; have hz : TBox wB wA.heap.size Tk.zero := (TBox.new wA Tk.zero).on hbB; have hB1 := tB (pB hA1 _) hbB; have hAB := IAt.on (IAt.on hAA (pB (Below.refl _ _) _)) hbB; clear hbB))
      | (go_simp; go_at_call 20; first
          | (refine (CS.out wB aA capA hAB).mono ?_; rintro e wC ⟨y, cy, rfl, hoC, hbC⟩; have hC1 := tB hB1 hbC; have hoC' := hoC.mono hB1.size; (try replace hz := TBox.on hz hbC); (try obtain ⟨q0, q1, q2, q3, q4, q5, q6, q7, q8, q9, q10⟩ := hz.cells); (try simp only [Tk.zero] at q0 q1 q2 q3 q4 q5 q6 q7 q8 q9 q10); (try have z0 := hz.thaw 0; have z1 := hz.thaw 1; have z2 := hz.thaw 2; have z3 := hz.thaw 3; have z4 := hz.thaw 4; have z5 := hz.thaw 5; have z6 := hz.thaw 6; have z7 := hz.thaw 7; have z8 := hz.thaw 8; have z9 := hz.thaw 9; have z10 := hz.thaw 10); clear hoC hbC)
          | (refine (CS.out (wB.alloc (.cells #[.int .i64 0, .int .i64 0, .int .i64 0, .int .i64 0, .int .i64 0, .int .i64 0, .int .i64 0, .int .i64 0, .int .i64 0, .bool false, .int .i64 0] 28)) aA capA (IAt.on hAB (pB (Below.refl _ _) _))).mono ?_; rintro e wC ⟨y, cy, rfl, hoC, hbC⟩; have hz : TBox wC wB.heap.size Tk.zero := (TBox.new wB Tk.zero).on hbC; have hC1 := tB (pB hB1 _) hbC; have hoC' := hoC.mono (pB hB1 _).size; obtain ⟨q0, q1, q2, q3, q4, q5, q6, q7, q8, q9, q10⟩ := hz.cells; simp only [Tk.zero] at q0 q1 q2 q3 q4 q5 q6 q7 q8 q9 q10; have z0 := hz.thaw 0; have z1 := hz.thaw 1; have z2 := hz.thaw 2; have z3 := hz.thaw 3; have z4 := hz.thaw 4; have z5 := hz.thaw 5; have z6 := hz.thaw 6; have z7 := hz.thaw 7; have z8 := hz.thaw 8; have z9 := hz.thaw 9; have z10 := hz.thaw 10; clear hoC hbC)))
    all_goals go_wp2_with fail
    all_goals go_meet
    all_goals first
      | exact ⟨_, y, cy, rfl, rfl, put11_box hz s, hoC'.kept (fun k hk => put11_other _ _ _ (ne_box hz hoC' k hk)), put11_below hC1 (by have := hA1.size; have := hB1.size; simp; try omega) s⟩
      | exact ⟨_, y, cy, rfl, rfl, TBox.new _ s, hoC'.alloc _, pB hC1 _⟩
      | trace_state
  case rest =>
    obtain ⟨P0, a4, cap4, rfl, rfl, hP4, ho4, hb4⟩ := hcut
    obtain ⟨w4, hw4⟩ : ∃ w4, w4 = wc := ⟨_, rfl⟩
    subst hw4
    obtain ⟨_, hL4, _⟩ := HB.out w4 hb4
    clear x0 x1 x2 x3 x4 x5 x6 x7 x8 x9 x10 u0 u1 u2 u3 u4 u5 u6 u7 u8 u9 u10 hX2 hL2 hw2 hd2 hB2
    go_wp2_with fail
    refine (toIntS_any w4 a cap l hL4 hlf).mono ?_
    rintro e w6 ⟨v6, rfl, ho6, hb6⟩
    obtain ⟨a6, cap6, hv6, hA6⟩ := ho6.ints
    subst hv6
    have hB6 := tB hb4 hb6
    have hP6 := hP4.on hb6
    have ho46 := ho4.below hb6 (Nat.le_refl _)
    obtain ⟨m0, m1, m2, m3, m4, m5, m6, m7, m8, m9, m10⟩ := (HB.out w6 hB6).1.cells
    go_wp2_with fail
    refine (toTaskU_any t w6).mono ?_
    rintro e w7 ⟨rfl, hb7⟩
    have hB7 := tB hB6 hb7
    have hP7 := hP6.on hb7
    have ho47 := ho46.below hb7 (Nat.le_refl _)
    have ho67 := ho6.below hb7 (Nat.le_refl _)
    clear m0 m1 m2 m3 m4 m5 m6 m7 m8 m9 m10
    go_wp2_with fail
    refine (CI.out w7 a6 cap6 (hA6.on hb7)).mono ?_
    rintro e w8 ⟨a8, cap8, rfl, ho8, hb8⟩
    have hB8 := tB hB7 hb8
    obtain ⟨w9, hw9⟩ : ∃ w9, w8.alloc (.cells (tcs s) 28) = w9 := ⟨_, rfl⟩
    have hb9 : Below w8.heap.size w8 w9 := by rw [← hw9]; exact (Below.refl _ _).alloc (Nat.le_refl _) _
    have hG9 : TBox w9 w8.heap.size s := by rw [← hw9]; exact TBox.new _ _
    have HW9 : Hid (w8.alloc (.cells #[.int .i64 s.kind, .int .i64 s.key, .int .i64 s.val, .int .i64 s.node, .int .i64 s.pc, .int .i64 s.prev, .int .i64 s.cur, .int .i64 s.next, .int .i64 s.mark, .bool s.done, .int .i64 s.ans] 28) = w9) := hw9
    have hB9 := tB hB8 hb9
    have H9 : Sd wb P0 w8.heap.size s (.slice a4 M.length cap4) (.slice a8 M.length cap8) M M w9 := ⟨(hP7.on hb8).on hb9, hG9, ((ho47.below hb8 (Nat.le_refl _)).below hb9 (Nat.le_refl _)).mono (Nat.zero_le _), (ho8.below hb9 (Nat.le_refl _)).mono (Nat.zero_le _), hB9⟩
    have hx9 : OwnV w9 0 3 (.slice a6 l.length cap6) (ints l) := ((ho67.below hb8 (Nat.le_refl _)).below hb9 (Nat.le_refl _)).mono (Nat.zero_le _)
    have AX : Hid (∀ k, (Value.slice a6 l.length cap6).ownBlock = some k → (Value.slice a4 M.length cap4).ownBlock ≠ some k ∧ (Value.slice a8 M.length cap8).ownBlock ≠ some k ∧ wb.heap.size ≤ k) := fun k hk => by
      have h1 := ho6.lt k hk
      refine ⟨fun e => ?_, fun e => ?_, Nat.le_trans hb4.size h1.1⟩
      · have := (ho4.lt k e).2; omega
      · have := (ho8.lt k e).1; have := hb7.size; omega
    have AG : Hid (∀ k, (Value.slice a8 M.length cap8).ownBlock = some k → (Value.slice a4 M.length cap4).ownBlock ≠ some k ∧ wb.heap.size ≤ k) := fun k hk => by
      have h1 := ho8.lt k hk
      refine ⟨fun e => ?_, Nat.le_trans hB7.size h1.1⟩
      have := (ho4.lt k e).2; have := hb6.size; have := hb7.size; omega
    obtain ⟨G0, hG0⟩ : ∃ G0, w8.heap.size = G0 := ⟨_, rfl⟩
    rw [hG0] at H9
    clear hw9 hP4 hP6 hP7 ho4 ho46 ho47 ho6 ho67 ho8 hb4 hb6 hb7 hb8 hb9 hB6 hB7 hB8 hB9 hG9 hA6 hL4
    obtain ⟨y4, c4', hy4, hI4⟩ := H9.o0.ints
    simp only [Value.slice.injEq] at hy4
    obtain ⟨rfl, _, rfl⟩ := hy4
    obtain ⟨y8, c8', hy8, hI8⟩ := H9.og.ints
    simp only [Value.slice.injEq] at hy8
    obtain ⟨rfl, _, rfl⟩ := hy8
    go_wp2_with fail
    rw [HW9.out]
    refine (eqIntS_same w9 _ _ _ _ M hI8 hI4 hMl).mono ?_
    rintro e w10 ⟨rfl, hb10⟩
    have H10 := H9.next hb10
    have hx10 := hx9.below hb10 (Nat.le_refl _)
    obtain ⟨m0, m1, m2, m3, m4, m5, m6, m7, m8, m9, m10⟩ := H10.p.cells
    obtain ⟨n0, n1, n2, n3, n4, n5, n6, n7, n8, n9, n10⟩ := H10.g.cells
    clear H9 hx9 hI4 hI8
    go_wp2_with fail
    refine (eqTaskU_same s w10).mono ?_
    rintro e w11 ⟨rfl, hb11⟩
    have H11 := H10.next hb11
    have hx11 := hx10.below hb11 (Nat.le_refl _)
    obtain ⟨_, hL11, _⟩ := HB.out w11 H11.bel
    clear m0 m1 m2 m3 m4 m5 m6 m7 m8 m9 m10 n0 n1 n2 n3 n4 n5 n6 n7 n8 n9 n10 H10 hx10
    go_wp2_with fail
    refine (toIntS_any w11 a cap l hL11 hlf).mono ?_
    rintro e w12 ⟨v12, rfl, ho12, hb12⟩
    have H12 := H11.next hb12
    have hx12 := hx11.below hb12 (Nat.le_refl _)
    obtain ⟨a12, cap12, rfl, hA12⟩ := ho12.ints
    obtain ⟨y6, c6', hy6, hA6⟩ := hx12.ints
    simp only [Value.slice.injEq] at hy6
    obtain ⟨rfl, _, rfl⟩ := hy6
    clear H11 hx11 hL11 ho12
    go_wp2_with fail
    refine (eqIntS_same w12 _ _ _ _ l hA6 hA12 hlf).mono ?_
    rintro e w13 ⟨rfl, hb13⟩
    have H13 := H12.next hb13
    have hx13 := hx12.below hb13 (Nat.le_refl _)
    clear H12 hx12 hA6 hA12
    go_wp2_with fail
    refine (markI_any w13 _ _ l 1 hx13 hlf (by omega)).mono ?_
    rintro e w14 ⟨he14, _, hg14⟩
    obtain ⟨k14, hk14⟩ : ∃ k14 : Nat, 1 + l.length = k14 := ⟨_, rfl⟩
    rw [hk14] at he14
    subst he14
    have hd14 : decide ((k14 : Int) < 0) = false := decide_eq_false (by omega)
    have H14 := H13.grown hg14 (fun k hk => ⟨ne_box H13.p hx13 k hk, ne_box H13.g hx13 k hk, (AX.out k hk).1, (AX.out k hk).2.1, (AX.out k hk).2.2⟩)
    clear H13 hx13 hg14 hk14
    obtain ⟨y4, c4', hy4, hI4⟩ := H14.o0.ints
    simp only [Value.slice.injEq] at hy4
    obtain ⟨rfl, _, rfl⟩ := hy4
    obtain ⟨y8, c8', hy8, hI8⟩ := H14.og.ints
    simp only [Value.slice.injEq] at hy8
    obtain ⟨rfl, _, rfl⟩ := hy8
    go_wp2_with fail
    refine (eqIntS_same w14 _ _ _ _ M hI8 hI4 hMl).mono ?_
    rintro e w15 ⟨rfl, hb15⟩
    have H15 := H14.next hb15
    obtain ⟨m0, m1, m2, m3, m4, m5, m6, m7, m8, m9, m10⟩ := H15.p.cells
    obtain ⟨n0, n1, n2, n3, n4, n5, n6, n7, n8, n9, n10⟩ := H15.g.cells
    clear H14 hI4 hI8
    go_wp2_with fail
    refine (eqTaskU_same s w15).mono ?_
    rintro e w16 ⟨rfl, hb16⟩
    have H16 := H15.next hb16
    clear m0 m1 m2 m3 m4 m5 m6 m7 m8 m9 m10 n0 n1 n2 n3 n4 n5 n6 n7 n8 n9 n10 H15
    go_wp2_with fail
    refine (markI_any w16 _ _ M 1 H16.og hMl (by omega)).mono ?_
    rintro e w17 ⟨he17, ⟨mm, hml, hmm, hog17⟩, hg17⟩
    obtain ⟨k17, hk17⟩ : ∃ k17 : Nat, 1 + M.length = k17 := ⟨_, rfl⟩
    rw [hk17] at he17
    subst he17
    have hd17 : decide ((k17 : Int) < 0) = false := decide_eq_false (by omega)
    have H17 : Sd wb P0 G0 s (.slice _ M.length _) (.slice _ M.length _) M mm w17 := H16.marked hg17 (fun k hk => ⟨ne_box H16.p H16.og k hk, ne_box H16.g H16.og k hk, (AG.out k hk).1, (AG.out k hk).2⟩) hog17
    have CH : Hid (∀ wi b, OwnV wi b 3 (.slice a8 M.length cap8) (ints mm) → Calls Try.prog 13 #[.slice a8 M.length cap8, .int .i64 ((1 : Nat) : Int)] wi fun e w' => e = .returned (.int .i64 (k17 : Int)) ∧ w' = wi) := by
      intro wi b ho
      rw [← hk17]
      exact heldI_any wi b _ mm M.length 1 hml ho hmm hMl (by omega)
    clear H16 hg17 hk17 hml hmm hog17
    go_wp2_with fail
    refine (CH.out w17 _ H17.og).mono ?_
    rintro e w17' ⟨rfl, hq17⟩
    subst hq17
    obtain ⟨w18, hw18⟩ : ∃ w18, w18 = w17' := ⟨_, rfl⟩
    subst hw18
    have hB2 := H17.bel
    obtain ⟨hX2, hL2, hw2⟩ := HB.out w18 hB2
    have hd2 : Below w18.heap.size w18 w18.drew := ⟨rfl, rfl, rfl, Nat.le_refl _, fun _ _ => rfl⟩
    obtain ⟨x0, x1, x2, x3, x4, x5, x6, x7, x8, x9, x10⟩ := (HB.out (w18.alloc (.cells #[.int .i64 0, .int .i64 0, .int .i64 0, .int .i64 0, .int .i64 0, .int .i64 0, .int .i64 0, .int .i64 0, .int .i64 0, .bool false, .int .i64 0] 28)) (pB hB2 _)).1.cells
    obtain ⟨u0, u1, u2, u3, u4, u5, u6, u7, u8, u9, u10⟩ := hX2.cells
    go_wp2_with fail
    go_cut [13, 14] (fun v p wc => ∃ (P0 : Nat) (y : Option Addr) (cy : Nat), v = .slice y M.length cy ∧ p = .pointer (some ⟨P0, 0, none⟩) ∧ TBox wc P0 s ∧ OwnV wc w18.heap.size 3 (.slice y M.length cy) (ints M) ∧ Below w18.heap.size w18 wc)
    case first =>
      go_region_law (first
        | (go_simp; go_at_call 21; first
            | (refine (toIntS_any w18.drew a cap l (IAt.on hL2 hd2) hlf).mono ?_; rintro e wA ⟨vA, rfl, hoA, hbA⟩; have hA1 := tB hd2 hbA; obtain ⟨aA, capA, rfl, hAA⟩ := hoA.ints; clear hoA hbA; obtain ⟨m0, m1, m2, m3, m4, m5, m6, m7, m8, m9, m10⟩ := (HB.out wA (tB hB2 hA1)).1.cells; obtain ⟨n0, n1, n2, n3, n4, n5, n6, n7, n8, n9, n10⟩ := (HB.out (wA.alloc (.cells #[.int .i64 0, .int .i64 0, .int .i64 0, .int .i64 0, .int .i64 0, .int .i64 0, .int .i64 0, .int .i64 0, .int .i64 0, .bool false, .int .i64 0] 28)) (tB hB2 (pB hA1 _))).1.cells)
            | (refine (toIntS_any (w18.drew.alloc (.cells #[.int .i64 0, .int .i64 0, .int .i64 0, .int .i64 0, .int .i64 0, .int .i64 0, .int .i64 0, .int .i64 0, .int .i64 0, .bool false, .int .i64 0] 28)) a cap l (IAt.on hL2 (pB hd2 _)) hlf).mono ?_; rintro e wA ⟨vA, rfl, hoA, hbA⟩; have hz : TBox wA w18.heap.size Tk.zero := (TBox.new w18.drew Tk.zero).on hbA; have hA1 := tB (pB hd2 _) hbA; obtain ⟨aA, capA, rfl, hAA⟩ := hoA.ints; clear hoA hbA; obtain ⟨m0, m1, m2, m3, m4, m5, m6, m7, m8, m9, m10⟩ := (HB.out wA (tB hB2 hA1)).1.cells; obtain ⟨n0, n1, n2, n3, n4, n5, n6, n7, n8, n9, n10⟩ := (HB.out (wA.alloc (.cells #[.int .i64 0, .int .i64 0, .int .i64 0, .int .i64 0, .int .i64 0, .int .i64 0, .int .i64 0, .int .i64 0, .int .i64 0, .bool false, .int .i64 0] 28)) (tB hB2 (pB hA1 _))).1.cells))
        | (go_simp; go_at_call 18; first
            | (refine (toTaskU_any t wA).mono ?_; rintro e wB ⟨rfl, hbB⟩; have hB1 := tB hA1 hbB; have hAB := IAt.on hAA hbB; (try replace hz := TBox.on hz hbB); clear hbB)
            | (refine (toTaskU_any t (wA.alloc (.cells #[.int .i64 0, .int .i64 0, .int .i64 0, .int .i64 0, .int .i64 0, .int .i64 0, .int .i64 0, .int .i64 0, .int .i64 0, .bool false, .int .i64 0] 28))).mono ?_; rintro e wB ⟨rfl, hbB⟩; have hz : TBox wB wA.heap.size Tk.zero := (TBox.new wA Tk.zero).on hbB; have hB1 := tB (pB hA1 _) hbB; have hAB := IAt.on (IAt.on hAA (pB (Below.refl _ _) _)) hbB; clear hbB))
        | (go_simp; go_at_call 22; first
            | (refine (CI.out wB aA capA hAB).mono ?_; rintro e wC ⟨y, cy, rfl, hoC, hbC⟩; have hC1 := tB hB1 hbC; have hoC' := hoC.mono hB1.size; (try replace hz := TBox.on hz hbC); (try obtain ⟨q0, q1, q2, q3, q4, q5, q6, q7, q8, q9, q10⟩ := hz.cells); (try simp only [Tk.zero] at q0 q1 q2 q3 q4 q5 q6 q7 q8 q9 q10); (try have z0 := hz.thaw 0; have z1 := hz.thaw 1; have z2 := hz.thaw 2; have z3 := hz.thaw 3; have z4 := hz.thaw 4; have z5 := hz.thaw 5; have z6 := hz.thaw 6; have z7 := hz.thaw 7; have z8 := hz.thaw 8; have z9 := hz.thaw 9; have z10 := hz.thaw 10); clear hoC hbC)
            | (refine (CI.out (wB.alloc (.cells #[.int .i64 0, .int .i64 0, .int .i64 0, .int .i64 0, .int .i64 0, .int .i64 0, .int .i64 0, .int .i64 0, .int .i64 0, .bool false, .int .i64 0] 28)) aA capA (IAt.on hAB (pB (Below.refl _ _) _))).mono ?_; rintro e wC ⟨y, cy, rfl, hoC, hbC⟩; have hz : TBox wC wB.heap.size Tk.zero := (TBox.new wB Tk.zero).on hbC; have hC1 := tB (pB hB1 _) hbC; have hoC' := hoC.mono (pB hB1 _).size; obtain ⟨q0, q1, q2, q3, q4, q5, q6, q7, q8, q9, q10⟩ := hz.cells; simp only [Tk.zero] at q0 q1 q2 q3 q4 q5 q6 q7 q8 q9 q10; have z0 := hz.thaw 0; have z1 := hz.thaw 1; have z2 := hz.thaw 2; have z3 := hz.thaw 3; have z4 := hz.thaw 4; have z5 := hz.thaw 5; have z6 := hz.thaw 6; have z7 := hz.thaw 7; have z8 := hz.thaw 8; have z9 := hz.thaw 9; have z10 := hz.thaw 10; clear hoC hbC)))
      all_goals go_wp2_with fail
      all_goals go_meet
      all_goals first
        | exact ⟨_, y, cy, rfl, rfl, put11_box hz s, hoC'.kept (fun k hk => put11_other _ _ _ (ne_box hz hoC' k hk)), put11_below hC1 (by have := hA1.size; have := hB1.size; simp; try omega) s⟩
        | exact ⟨_, y, cy, rfl, rfl, TBox.new _ s, hoC'.alloc _, pB hC1 _⟩
        | trace_state
    case rest =>
      obtain ⟨R0, a19, cap19, rfl, rfl, hR19, ho19, hb19⟩ := hcut
      obtain ⟨w19, hw19⟩ : ∃ w19, w19 = wc := ⟨_, rfl⟩
      subst hw19
      have H19 := H17.next hb19
      clear x0 x1 x2 x3 x4 x5 x6 x7 x8 x9 x10 u0 u1 u2 u3 u4 u5 u6 u7 u8 u9 u10 hX2 hL2 hw2 hd2 hB2 H17
      obtain ⟨y4, c4', hy4, hI4⟩ := H19.o0.ints
      simp only [Value.slice.injEq] at hy4
      obtain ⟨rfl, _, rfl⟩ := hy4
      obtain ⟨y9, c9', hy9, hI9⟩ := ho19.ints
      simp only [Value.slice.injEq] at hy9
      obtain ⟨rfl, _, rfl⟩ := hy9
      go_wp2_with fail
      refine (eqIntS_same w19 _ _ _ _ M hI9 hI4 hMl).mono ?_
      rintro e w20 ⟨rfl, hb20⟩
      have H20 := H19.next hb20
      obtain ⟨m0, m1, m2, m3, m4, m5, m6, m7, m8, m9, m10⟩ := H20.p.cells
      obtain ⟨n0, n1, n2, n3, n4, n5, n6, n7, n8, n9, n10⟩ := (hR19.on hb20).cells
      clear H19 hI4 hI9
      go_wp2_with fail
      refine (eqTaskU_same s w20).mono ?_
      rintro e w21 ⟨rfl, hb21⟩
      have H21 := H20.next hb21
      clear m0 m1 m2 m3 m4 m5 m6 m7 m8 m9 m10 n0 n1 n2 n3 n4 n5 n6 n7 n8 n9 n10 H20
      go_wp2_with fail
      refine (CH.out w21 _ H21.og).mono ?_
      rintro e w22 ⟨rfl, hq22⟩
      subst hq22
      go_wp2
      go_ret
      exact ⟨rfl, (HB.out _ H21.bel).2.2⟩
end Go.Proofs.Ytockgojdmaladan
