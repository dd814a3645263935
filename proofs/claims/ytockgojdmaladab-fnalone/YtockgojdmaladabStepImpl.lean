/- One step of a task: the program's. -/
import Derived.Test.YtockgojdmaladabStepRun
import Derived.Test.YtockgojdmaladabStepTaskSpec
import Derived.Test.YtockgojdmaladabTaskImpl
import Derived.Deep.DeepCutAuto
import Derived.Deep.RegionHeld3
namespace Go.Proofs.Ytockgojdmaladab
open Go.RowKit Go.Sort

theorem SBox.set2 {w : World} {S : Nat} {u v u' v' : Value} {t : Tk} (h : SBox w S u v t) (i : Nat) (x : Value) (t' : Tk) (he : (scs u v t).setIfInBounds i x = scs u' v' t') : SBox (w.setCell ⟨S, i, none⟩ x) S u' v' t' := by
  unfold SBox at *
  rw [heap_setCell_same w S i _ _ x h, he]
/-- A whole step is stored into a variable. -/
def put13 (w : World) (S : Nat) (u v : Value) (s : Tk) : World := (((((((((((((w.setCell ⟨S, 0, none⟩ u).setCell ⟨S, 1, none⟩ v).setCell ⟨S, 2, none⟩ (.int .i64 s.kind)).setCell ⟨S, 3, none⟩ (.int .i64 s.key)).setCell ⟨S, 4, none⟩ (.int .i64 s.val)).setCell ⟨S, 5, none⟩ (.int .i64 s.node)).setCell ⟨S, 6, none⟩ (.int .i64 s.pc)).setCell ⟨S, 7, none⟩ (.int .i64 s.prev)).setCell ⟨S, 8, none⟩ (.int .i64 s.cur)).setCell ⟨S, 9, none⟩ (.int .i64 s.next)).setCell ⟨S, 10, none⟩ (.int .i64 s.mark)).setCell ⟨S, 11, none⟩ (.bool s.done)).setCell ⟨S, 12, none⟩ (.int .i64 s.ans))
theorem put13_other (w : World) (S : Nat) (u v : Value) (s : Tk) {k : Nat} (h : k ≠ S) : (put13 w S u v s).heap[k]? = w.heap[k]? := by
  unfold put13
  rw [heap_setCell_other _ _ _ _ h]
  rw [heap_setCell_other _ _ _ _ h]
  rw [heap_setCell_other _ _ _ _ h]
  rw [heap_setCell_other _ _ _ _ h]
  rw [heap_setCell_other _ _ _ _ h]
  rw [heap_setCell_other _ _ _ _ h]
  rw [heap_setCell_other _ _ _ _ h]
  rw [heap_setCell_other _ _ _ _ h]
  rw [heap_setCell_other _ _ _ _ h]
  rw [heap_setCell_other _ _ _ _ h]
  rw [heap_setCell_other _ _ _ _ h]
  rw [heap_setCell_other _ _ _ _ h]
  rw [heap_setCell_other _ _ _ _ h]
theorem put13_box {w : World} {S : Nat} {u0 v0 : Value} {t : Tk} (h : SBox w S u0 v0 t) (u v : Value) (s : Tk) : SBox (put13 w S u v s) S u v s := by
  obtain ⟨kind, key, val, node, pc, prev, cur, next, mark, done, ans⟩ := s
  obtain ⟨tkind, tkey, tval, tnode, tpc, tprev, tcur, tnext, tmark, tdone, tans⟩ := t
  have h0 := h.set2 0 u (u' := u) (v' := v0) ⟨tkind, tkey, tval, tnode, tpc, tprev, tcur, tnext, tmark, tdone, tans⟩ rfl
  have h1 := h0.set2 1 v (u' := u) (v' := v) ⟨tkind, tkey, tval, tnode, tpc, tprev, tcur, tnext, tmark, tdone, tans⟩ rfl
  have h2 := h1.set2 2 (.int .i64 kind) (u' := u) (v' := v) ⟨kind, tkey, tval, tnode, tpc, tprev, tcur, tnext, tmark, tdone, tans⟩ rfl
  have h3 := h2.set2 3 (.int .i64 key) (u' := u) (v' := v) ⟨kind, key, tval, tnode, tpc, tprev, tcur, tnext, tmark, tdone, tans⟩ rfl
  have h4 := h3.set2 4 (.int .i64 val) (u' := u) (v' := v) ⟨kind, key, val, tnode, tpc, tprev, tcur, tnext, tmark, tdone, tans⟩ rfl
  have h5 := h4.set2 5 (.int .i64 node) (u' := u) (v' := v) ⟨kind, key, val, node, tpc, tprev, tcur, tnext, tmark, tdone, tans⟩ rfl
  have h6 := h5.set2 6 (.int .i64 pc) (u' := u) (v' := v) ⟨kind, key, val, node, pc, tprev, tcur, tnext, tmark, tdone, tans⟩ rfl
  have h7 := h6.set2 7 (.int .i64 prev) (u' := u) (v' := v) ⟨kind, key, val, node, pc, prev, tcur, tnext, tmark, tdone, tans⟩ rfl
  have h8 := h7.set2 8 (.int .i64 cur) (u' := u) (v' := v) ⟨kind, key, val, node, pc, prev, cur, tnext, tmark, tdone, tans⟩ rfl
  have h9 := h8.set2 9 (.int .i64 next) (u' := u) (v' := v) ⟨kind, key, val, node, pc, prev, cur, next, tmark, tdone, tans⟩ rfl
  have h10 := h9.set2 10 (.int .i64 mark) (u' := u) (v' := v) ⟨kind, key, val, node, pc, prev, cur, next, mark, tdone, tans⟩ rfl
  have h11 := h10.set2 11 (.bool done) (u' := u) (v' := v) ⟨kind, key, val, node, pc, prev, cur, next, mark, done, tans⟩ rfl
  have h12 := h11.set2 12 (.int .i64 ans) (u' := u) (v' := v) ⟨kind, key, val, node, pc, prev, cur, next, mark, done, ans⟩ rfl
  exact h12
theorem put13_below {B : Nat} {a w : World} {S : Nat} (h : Below B a w) (hS : B ≤ S) (u v : Value) (s : Tk) : Below B a (put13 w S u v s) := by
  unfold put13
  exact (((((((((((((h.setCell hS _).setCell hS _).setCell hS _).setCell hS _).setCell hS _).setCell hS _).setCell hS _).setCell hS _).setCell hS _).setCell hS _).setCell hS _).setCell hS _).setCell hS _)

/-- The cells of a list and a task in a variable, ahead of the step. -/
structure Sp (w2 : World) (S g m : Nat) (l : List Int) (t : Tk) (wi : World) : Prop where
  at_ : CAt wi g m (fun j => l.getD j 0)
  box : SBox wi S (.slice (some ⟨g, 0, none⟩) m m) (.int .i64 l.length) t
  gge : w2.heap.size ≤ g
  sge : w2.heap.size ≤ S
  hs : l.length ≤ m * 80
  hm : m ≤ 1048576
  bel : Below w2.heap.size w2 wi
theorem Sp.next {w2 : World} {S g m : Nat} {l : List Int} {t : Tk} {wi wj : World} (h : Sp w2 S g m l t wi) (hb : Below wi.heap.size wi wj) : Sp w2 S g m l t wj :=
  ⟨h.at_.on hb, h.box.on hb, h.gge, h.sge, h.hs, h.hm, h.bel.trans (hb.mono h.bel.size)⟩
theorem Sp.ss {w2 : World} {S g m : Nat} {l : List Int} {t : Tk} {wi : World} (h : Sp w2 S g m l t wi) (hl : l.length = 63) : SS w2 S g m l t wi := by
  have hb := h.box
  have hs := h.hs
  rw [hl] at hb hs
  exact ⟨h.at_, hb, hl, h.gge, h.sge, hs, h.hm, h.bel⟩
theorem SS.sp {w2 : World} {S g m : Nat} {l : List Int} {t : Tk} {wi : World} (h : SS w2 S g m l t wi) : Sp w2 S g m l t wi :=
  ⟨h.at_, by rw [h.len]; exact h.box, h.gge, h.sge, by rw [h.len]; exact h.hs, h.hm, h.bel⟩

theorem Sp.below13 {w2 wC : World} {S g m : Nat} {l : List Int} {t : Tk} (h : Below w2.heap.size w2 wC) (hS : w2.heap.size ≤ S) : Below w2.heap.size w2 (((((((((((((wC.setCell ⟨S, 0, none⟩ (.slice (some ⟨g, 0, none⟩) m m)).setCell ⟨S, 1, none⟩ (.int .i64 l.length)).setCell ⟨S, 2, none⟩ (.int .i64 t.kind)).setCell ⟨S, 3, none⟩ (.int .i64 t.key)).setCell ⟨S, 4, none⟩ (.int .i64 t.val)).setCell ⟨S, 5, none⟩ (.int .i64 t.node)).setCell ⟨S, 6, none⟩ (.int .i64 t.pc)).setCell ⟨S, 7, none⟩ (.int .i64 t.prev)).setCell ⟨S, 8, none⟩ (.int .i64 t.cur)).setCell ⟨S, 9, none⟩ (.int .i64 t.next)).setCell ⟨S, 10, none⟩ (.int .i64 t.mark)).setCell ⟨S, 11, none⟩ (.bool t.done)).setCell ⟨S, 12, none⟩ (.int .i64 t.ans)) := by
  have := put13_below h hS (.slice (some ⟨g, 0, none⟩) m m) (.int .i64 l.length) t
  unfold put13 at this
  exact this
theorem Sp.put13 {w2 wC : World} {S g m : Nat} {l : List Int} {t t0 : Tk} {u0 v0 : Value} (hC : CAt wC g m (fun j => l.getD j 0)) (hz : SBox wC S u0 v0 t0) (hg : w2.heap.size ≤ g) (hS : w2.heap.size ≤ S) (hs : l.length ≤ m * 80) (hmm : m ≤ 1048576) (h : Below w2.heap.size w2 wC) : Sp w2 S g m l t (((((((((((((wC.setCell ⟨S, 0, none⟩ (.slice (some ⟨g, 0, none⟩) m m)).setCell ⟨S, 1, none⟩ (.int .i64 l.length)).setCell ⟨S, 2, none⟩ (.int .i64 t.kind)).setCell ⟨S, 3, none⟩ (.int .i64 t.key)).setCell ⟨S, 4, none⟩ (.int .i64 t.val)).setCell ⟨S, 5, none⟩ (.int .i64 t.node)).setCell ⟨S, 6, none⟩ (.int .i64 t.pc)).setCell ⟨S, 7, none⟩ (.int .i64 t.prev)).setCell ⟨S, 8, none⟩ (.int .i64 t.cur)).setCell ⟨S, 9, none⟩ (.int .i64 t.next)).setCell ⟨S, 10, none⟩ (.int .i64 t.mark)).setCell ⟨S, 11, none⟩ (.bool t.done)).setCell ⟨S, 12, none⟩ (.int .i64 t.ans)) := by
  have := (⟨hC.kept (put13_other wC S _ _ t (fun e => hz.ne hC e.symm)), put13_box hz _ _ t, hg, hS, hs, hmm, put13_below h hS _ _ t⟩ : Sp w2 S g m l t (Go.Proofs.Ytockgojdmaladab.put13 wC S (.slice (some ⟨g, 0, none⟩) m m) (.int .i64 l.length) t))
  unfold Go.Proofs.Ytockgojdmaladab.put13 at this
  exact this

theorem put11x {w0 wl : World} {R S : Nat} {u v : Value} {t : Tk} (s : Tk) (h : Below w0.heap.size w0 wl) (hR : w0.heap.size ≤ R) (hS : SBox wl S u v t) (hne : S ≠ R) : Below w0.heap.size w0 (((((((((((wl.setCell ⟨R, 0, none⟩ (.int .i64 s.kind)).setCell ⟨R, 1, none⟩ (.int .i64 s.key)).setCell ⟨R, 2, none⟩ (.int .i64 s.val)).setCell ⟨R, 3, none⟩ (.int .i64 s.node)).setCell ⟨R, 4, none⟩ (.int .i64 s.pc)).setCell ⟨R, 5, none⟩ (.int .i64 s.prev)).setCell ⟨R, 6, none⟩ (.int .i64 s.cur)).setCell ⟨R, 7, none⟩ (.int .i64 s.next)).setCell ⟨R, 8, none⟩ (.int .i64 s.mark)).setCell ⟨R, 9, none⟩ (.bool s.done)).setCell ⟨R, 10, none⟩ (.int .i64 s.ans)) ∧ SBox (((((((((((wl.setCell ⟨R, 0, none⟩ (.int .i64 s.kind)).setCell ⟨R, 1, none⟩ (.int .i64 s.key)).setCell ⟨R, 2, none⟩ (.int .i64 s.val)).setCell ⟨R, 3, none⟩ (.int .i64 s.node)).setCell ⟨R, 4, none⟩ (.int .i64 s.pc)).setCell ⟨R, 5, none⟩ (.int .i64 s.prev)).setCell ⟨R, 6, none⟩ (.int .i64 s.cur)).setCell ⟨R, 7, none⟩ (.int .i64 s.next)).setCell ⟨R, 8, none⟩ (.int .i64 s.mark)).setCell ⟨R, 9, none⟩ (.bool s.done)).setCell ⟨R, 10, none⟩ (.int .i64 s.ans)) S u v t := by
  have := And.intro (put11_below h hR s) (hS.kept (put11_other wl R s hne))
  unfold put11 at this
  exact this
theorem put11y {w0 wl : World} {R b : Nat} {x : Value} {xs : List Value} {t0 : Tk} (s : Tk) (h : Below w0.heap.size w0 wl) (hR : w0.heap.size ≤ R) (hz : TBox wl R t0) (ho : OwnV wl b 3 x xs) (hne : ∀ k, x.ownBlock = some k → k ≠ R) : Below w0.heap.size w0 (((((((((((wl.setCell ⟨R, 0, none⟩ (.int .i64 s.kind)).setCell ⟨R, 1, none⟩ (.int .i64 s.key)).setCell ⟨R, 2, none⟩ (.int .i64 s.val)).setCell ⟨R, 3, none⟩ (.int .i64 s.node)).setCell ⟨R, 4, none⟩ (.int .i64 s.pc)).setCell ⟨R, 5, none⟩ (.int .i64 s.prev)).setCell ⟨R, 6, none⟩ (.int .i64 s.cur)).setCell ⟨R, 7, none⟩ (.int .i64 s.next)).setCell ⟨R, 8, none⟩ (.int .i64 s.mark)).setCell ⟨R, 9, none⟩ (.bool s.done)).setCell ⟨R, 10, none⟩ (.int .i64 s.ans)) ∧ TBox (((((((((((wl.setCell ⟨R, 0, none⟩ (.int .i64 s.kind)).setCell ⟨R, 1, none⟩ (.int .i64 s.key)).setCell ⟨R, 2, none⟩ (.int .i64 s.val)).setCell ⟨R, 3, none⟩ (.int .i64 s.node)).setCell ⟨R, 4, none⟩ (.int .i64 s.pc)).setCell ⟨R, 5, none⟩ (.int .i64 s.prev)).setCell ⟨R, 6, none⟩ (.int .i64 s.cur)).setCell ⟨R, 7, none⟩ (.int .i64 s.next)).setCell ⟨R, 8, none⟩ (.int .i64 s.mark)).setCell ⟨R, 9, none⟩ (.bool s.done)).setCell ⟨R, 10, none⟩ (.int .i64 s.ans)) R s ∧ OwnV (((((((((((wl.setCell ⟨R, 0, none⟩ (.int .i64 s.kind)).setCell ⟨R, 1, none⟩ (.int .i64 s.key)).setCell ⟨R, 2, none⟩ (.int .i64 s.val)).setCell ⟨R, 3, none⟩ (.int .i64 s.node)).setCell ⟨R, 4, none⟩ (.int .i64 s.pc)).setCell ⟨R, 5, none⟩ (.int .i64 s.prev)).setCell ⟨R, 6, none⟩ (.int .i64 s.cur)).setCell ⟨R, 7, none⟩ (.int .i64 s.next)).setCell ⟨R, 8, none⟩ (.int .i64 s.mark)).setCell ⟨R, 9, none⟩ (.bool s.done)).setCell ⟨R, 10, none⟩ (.int .i64 s.ans)) b 3 x xs := by
  have := And.intro (put11_below h hR s) (And.intro (put11_box hz s) (ho.kept (fun k hk => put11_other wl R s (hne k hk))))
  unfold put11 at this
  exact this

set_option maxRecDepth 100000 in
set_option maxHeartbeats 4000000 in
theorem implStep_any (w : World) (a : Option Addr) (cap : Nat) (l : List Int) (t : Tk) (hL : IAt w a l w.heap.size) (hm : l.length ≤ 1048576) :
    Calls Try.prog 27 #[.slice a l.length cap, .agg (tcs t)] w fun e w' => ∃ v, e = .returned (.tuple #[v, .agg (tcs (stepL l t).2)]) ∧ OwnV w' w.heap.size 3 v (ints (stepL l t).1) ∧ Below w.heap.size w w' := by
  obtain ⟨w1, hw1⟩ : ∃ w1, w.alloc (.cells (tcs t) 43) = w1 := ⟨_, rfl⟩
  have hb1 : Below w.heap.size w w1 := by rw [← hw1]; exact (Below.refl _ _).alloc (Nat.le_refl _) _
  have hT1 : TBox w1 w.heap.size t := by rw [← hw1]; exact TBox.new _ _
  obtain ⟨w2, hw2⟩ : ∃ w2, w1.alloc (.cells (tcs Tk.zero) 43) = w2 := ⟨_, rfl⟩
  have hb2 : Below w1.heap.size w1 w2 := by rw [← hw2]; exact (Below.refl _ _).alloc (Nat.le_refl _) _
  have hR2 : TBox w2 w1.heap.size Tk.zero := by rw [← hw2]; exact TBox.new _ _
  have hT2 := hT1.on hb2
  have hs1 : w1.heap.size = w.heap.size + 1 := by rw [← hw1]; simp
  have hB2 : Below w.heap.size w w2 := hb1.trans (hb2.mono hb1.size)
  rw [hs1] at hR2
  have hL2 : IAt w2 a l w2.heap.size := hL.on hB2
  have HW : Hid ((w.alloc (.cells (tcs t) 43)).alloc (.cells (tcs Tk.zero) 43) = w2) := by rw [← hw2, ← hw1]; rfl
  unfold tcs Tk.zero at HW
  clear hw1 hw2 hb1 hb2 hT1 hL hs1
  have hti : tcs t = #[.int .i64 t.kind, .int .i64 t.key, .int .i64 t.val, .int .i64 t.node, .int .i64 t.pc, .int .i64 t.prev, .int .i64 t.cur, .int .i64 t.next, .int .i64 t.mark, .bool t.done, .int .i64 t.ans] := rfl
  rw [hti]
  clear hti
  have HT : Hid (∀ wi, Below w2.heap.size w2 wi → TBox wi w.heap.size t ∧ TBox wi (w.heap.size + 1) Tk.zero ∧ IAt wi a l wi.heap.size ∧ Below w.heap.size w wi) := fun wi hi => ⟨hT2.on hi, hR2.on hi, hL2.on hi, hB2.trans (hi.mono hB2.size)⟩
  have hz2 : w.heap.size + 1 < w2.heap.size := hR2.lt
  clear hT2 hR2 hB2 hL2
  go_enter Try.func27, Try.ntmps27
  go_upto_region 1 with fail
  rw [HW.out]
  go_cut [6] (fun p wc => ∃ (S g m : Nat), p = .pointer (some ⟨S, 0, none⟩) ∧ Sp w2 S g m l t wc)
  case first =>
    have hdr : Below w2.heap.size w2 w2.drew := drewB _
    have KS : ∀ wi, Below w2.heap.size w2 wi → (Below w2.heap.size w2 wi ∧ wi.cell? ⟨w.heap.size, 0, none⟩ = some (.int .i64 t.kind) ∧ wi.cell? ⟨w.heap.size, 1, none⟩ = some (.int .i64 t.key) ∧ wi.cell? ⟨w.heap.size, 2, none⟩ = some (.int .i64 t.val) ∧ wi.cell? ⟨w.heap.size, 3, none⟩ = some (.int .i64 t.node) ∧ wi.cell? ⟨w.heap.size, 4, none⟩ = some (.int .i64 t.pc) ∧ wi.cell? ⟨w.heap.size, 5, none⟩ = some (.int .i64 t.prev) ∧ wi.cell? ⟨w.heap.size, 6, none⟩ = some (.int .i64 t.cur) ∧ wi.cell? ⟨w.heap.size, 7, none⟩ = some (.int .i64 t.next) ∧ wi.cell? ⟨w.heap.size, 8, none⟩ = some (.int .i64 t.mark) ∧ wi.cell? ⟨w.heap.size, 9, none⟩ = some (.bool t.done) ∧ wi.cell? ⟨w.heap.size, 10, none⟩ = some (.int .i64 t.ans)) := fun wi hi => ⟨hi, (HT.out wi hi).1.cells⟩
    have hzb : Below w2.heap.size w2 ((w2.alloc (.cells #[.slice none 0 0, .int .i64 0, .int .i64 0, .int .i64 0, .int .i64 0, .int .i64 0, .int .i64 0, .int .i64 0, .int .i64 0, .int .i64 0, .int .i64 0, .bool false, .int .i64 0] 88)).drew) := ((Below.refl _ w2).alloc (Nat.le_refl _) _).trans ((drewB _).mono (by simp))
    have hzn : SBox ((w2.alloc (.cells #[.slice none 0 0, .int .i64 0, .int .i64 0, .int .i64 0, .int .i64 0, .int .i64 0, .int .i64 0, .int .i64 0, .int .i64 0, .int .i64 0, .int .i64 0, .bool false, .int .i64 0] 88)).drew) w2.heap.size (.slice none 0 0) (.int .i64 0) Tk.zero := (SBox.new w2 (.slice none 0 0) (.int .i64 0) Tk.zero).on (drewB _)
    have hLd := (HT.out w2.drew hdr).2.2.1
    have hLz := (HT.out _ hzb).2.2.1
    go_region_held3 (fun w' => Below w2.heap.size w2 w' ∧ w'.cell? ⟨w.heap.size, 0, none⟩ = some (.int .i64 t.kind) ∧ w'.cell? ⟨w.heap.size, 1, none⟩ = some (.int .i64 t.key) ∧ w'.cell? ⟨w.heap.size, 2, none⟩ = some (.int .i64 t.val) ∧ w'.cell? ⟨w.heap.size, 3, none⟩ = some (.int .i64 t.node) ∧ w'.cell? ⟨w.heap.size, 4, none⟩ = some (.int .i64 t.pc) ∧ w'.cell? ⟨w.heap.size, 5, none⟩ = some (.int .i64 t.prev) ∧ w'.cell? ⟨w.heap.size, 6, none⟩ = some (.int .i64 t.cur) ∧ w'.cell? ⟨w.heap.size, 7, none⟩ = some (.int .i64 t.next) ∧ w'.cell? ⟨w.heap.size, 8, none⟩ = some (.int .i64 t.mark) ∧ w'.cell? ⟨w.heap.size, 9, none⟩ = some (.bool t.done) ∧ w'.cell? ⟨w.heap.size, 10, none⟩ = some (.int .i64 t.ans)) (first | with_reducible exact KS _ hdr | with_reducible exact KS _ hC1 | with_reducible exact KS _ hzb | with_reducible exact KS _ (hC1.alloc hC1.size _) | with_reducible exact KS _ (Sp.below13 hC1 (Nat.le_refl _)))
      ((go_at_call 50; first
        | (refine (cellsOf_any w2.drew a cap l hLd hm).mono ?_; rintro e wC ⟨g, m, rfl, hs, hmm, hg, hC, hbC⟩; have hC1 := hdr.trans (hbC.mono hdr.size))
        | (refine (cellsOf_any ((w2.alloc (.cells #[.slice none 0 0, .int .i64 0, .int .i64 0, .int .i64 0, .int .i64 0, .int .i64 0, .int .i64 0, .int .i64 0, .int .i64 0, .int .i64 0, .int .i64 0, .bool false, .int .i64 0] 88)).drew) a cap l hLz hm).mono ?_; rintro e wC ⟨g, m, rfl, hs, hmm, hg, hC, hbC⟩; have hC1 := hzb.trans (hbC.mono hzb.size); have hz := hzn.on hbC; obtain ⟨c0, c1⟩ := hz.pair; obtain ⟨c2, c3, c4, c5, c6, c7, c8, c9, c10, c11, c12⟩ := hz.cells; dsimp only [Tk.zero] at c2 c3 c4 c5 c6 c7 c8 c9 c10 c11 c12; have y0 := hz.thaw 0; have y1 := hz.thaw 1; have y2 := hz.thaw 2; have y3 := hz.thaw 3; have y4 := hz.thaw 4; have y5 := hz.thaw 5; have y6 := hz.thaw 6; have y7 := hz.thaw 7; have y8 := hz.thaw 8; have y9 := hz.thaw 9; have y10 := hz.thaw 10; have y11 := hz.thaw 11; have y12 := hz.thaw 12)))
    all_goals go_wp2
    all_goals go_meet
    all_goals first
      | with_reducible exact ⟨_, g, m, rfl, Sp.put13 hC hz (Nat.le_trans hzb.size hg) (Nat.le_refl _) hs hmm hC1⟩
      | exact ⟨_, g, m, rfl, ⟨hC.on ((Below.refl _ _).alloc (Nat.le_refl _) _), SBox.new _ _ _ _, hg, hC1.size, hs, hmm, hC1.alloc hC1.size _⟩⟩
  case rest =>
    obtain ⟨S, g, m, rfl, HS⟩ := hcut
    obtain ⟨wq, hwq⟩ : ∃ wq, wq = wc := ⟨_, rfl⟩
    subst hwq
    obtain ⟨hT, hR, hLc, hB⟩ := HT.out wq HS.bel
    obtain ⟨b0, b1, b2, b3, b4, b5, b6, b7, b8, b9, b10⟩ := hT.cells
    have cT := implTaskOk_any t wq
    unfold tcs at cT
    have HML : Hid (l.length ≤ 1048576) := hm
    go_upto_region 2 with fail
    go_cut [26] (fun c wd => c = .bool (ready l t) ∧ Below wq.heap.size wq wd)
    case first =>
      have HRD : Hid (ready l t = (!t.done && (t.ok && (decide (l.length = 63) && okC l)))) := rfl
      clear hT hR hB HS
      by_cases hd : t.done = true
      · rw [hd] at b9
        have HD : Hid (t.done = true) := hd
        clear cT hd
        go_wp2
        go_meet
        exact ⟨by rw [HRD.out, HD.out]; rfl, Below.refl _ _⟩
      · have hd' : t.done = false := by simpa using hd
        rw [hd'] at b9 cT
        have HD : Hid (t.done = false) := hd'
        clear hd hd'
        by_cases hok : t.ok = true
        · rw [hok] at cT
          have HK : Hid (t.ok = true) := hok
          clear hok
          go_wp2_with fail
          refine cT.mono ?_
          rintro e w3 ⟨rfl, hb3⟩
          clear cT
          by_cases h63 : l.length = 63
          · have cC := implOk_any w3 a cap l (hLc.on hb3) hm
            have HL : Hid (l.length = 63) := h63
            have e1 : decide ((l.length : Int) = 63) = true := decide_eq_true (by omega)
            have e2 : ((l.length : Int) == 63) = true := by simp; omega
            clear h63
            go_wp2_with fail
            refine cC.mono ?_
            rintro e w4 ⟨rfl, rfl⟩
            clear cC
            go_wp2
            go_meet
            exact ⟨by rw [HRD.out, HD.out, HK.out, decide_eq_true HL.out]; cases okC l <;> rfl, hb3⟩
          · have e1 : decide ((l.length : Int) = 63) = false := decide_eq_false (by omega)
            have e2 : ((l.length : Int) == 63) = false := by simp; omega
            have HL : Hid (¬ l.length = 63) := h63
            clear h63
            go_wp2
            go_meet
            exact ⟨by rw [HRD.out, HD.out, HK.out, decide_eq_false HL.out]; rfl, hb3⟩
        · have hok' : t.ok = false := by simpa using hok
          rw [hok'] at cT
          have HK : Hid (t.ok = false) := hok'
          clear hok hok'
          go_wp2_with fail
          refine cT.mono ?_
          rintro e w3 ⟨rfl, hb3⟩
          clear cT
          go_wp2
          go_meet
          exact ⟨by rw [HRD.out, HD.out, HK.out]; rfl, hb3⟩
    case rest =>
      obtain ⟨rfl, hb3⟩ := hcut
      have HS3 := HS.next hb3
      clear hT hR hB HS b0 b1 b2 b3 b4 b5 b6 b7 b8 b9 b10 cT hb3 hLc hm
      cases hr : ready l t with
      | false =>
        have HST : Hid (stepL l t = (l, t)) := by show _ = _; unfold stepL; rw [hr]; rfl
        clear hr
        obtain ⟨y0, y1⟩ := HS3.box.pair
        obtain ⟨y2, y3, y4, y5, y6, y7, y8, y9, y10, y11, y12⟩ := HS3.box.cells
        have hdX := drewB wc
        have Hd := HS3.next hdX
        have cL := cellsList_any wc.drew g m _ _ Hd.at_ Hd.hs Hd.hm (by have := HML.out; omega)
        rw [range_getD l] at cL
        have KS : ∀ wi, Below w.heap.size w wi → SBox wi S (.slice (some ⟨g, 0, none⟩) m m) (.int .i64 l.length) t → (Below w.heap.size w wi ∧ (wi.cell? ⟨S, 0, none⟩ = some (.slice (some ⟨g, 0, none⟩) m m) ∧ wi.cell? ⟨S, 1, none⟩ = some (.int .i64 l.length)) ∧ wi.cell? ⟨S, 2, none⟩ = some (.int .i64 t.kind) ∧ wi.cell? ⟨S, 3, none⟩ = some (.int .i64 t.key) ∧ wi.cell? ⟨S, 4, none⟩ = some (.int .i64 t.val) ∧ wi.cell? ⟨S, 5, none⟩ = some (.int .i64 t.node) ∧ wi.cell? ⟨S, 6, none⟩ = some (.int .i64 t.pc) ∧ wi.cell? ⟨S, 7, none⟩ = some (.int .i64 t.prev) ∧ wi.cell? ⟨S, 8, none⟩ = some (.int .i64 t.cur) ∧ wi.cell? ⟨S, 9, none⟩ = some (.int .i64 t.next) ∧ wi.cell? ⟨S, 10, none⟩ = some (.int .i64 t.mark) ∧ wi.cell? ⟨S, 11, none⟩ = some (.bool t.done) ∧ wi.cell? ⟨S, 12, none⟩ = some (.int .i64 t.ans)) := fun wi hi hb => ⟨hi, hb.pair, hb.cells⟩
        have hBX := (HT.out _ Hd.bel).2.2.2
        have hSX := Hd.box
        have hSR : S ≠ w.heap.size + 1 := by have := Hd.sge; omega
        have HR : Hid (∀ wi, Below wc.drew.heap.size wc.drew wi → TBox wi (w.heap.size + 1) Tk.zero ∧ Below w.heap.size w wi ∧ SBox wi S (.slice (some ⟨g, 0, none⟩) m m) (.int .i64 l.length) t) := fun wi hi => ⟨(HT.out wi (Hd.bel.trans (hi.mono Hd.bel.size))).2.1, (HT.out wi (Hd.bel.trans (hi.mono Hd.bel.size))).2.2.2, Hd.box.on hi⟩
        have HG : Hid (w.heap.size + 1 < wc.drew.heap.size) := Nat.lt_of_lt_of_le hz2 Hd.bel.size
        clear HS3 Hd
        go_wp2
        go_region_held3 (fun w' => Below w.heap.size w w' ∧ (w'.cell? ⟨S, 0, none⟩ = some (.slice (some ⟨g, 0, none⟩) m m) ∧ w'.cell? ⟨S, 1, none⟩ = some (.int .i64 l.length)) ∧ w'.cell? ⟨S, 2, none⟩ = some (.int .i64 t.kind) ∧ w'.cell? ⟨S, 3, none⟩ = some (.int .i64 t.key) ∧ w'.cell? ⟨S, 4, none⟩ = some (.int .i64 t.val) ∧ w'.cell? ⟨S, 5, none⟩ = some (.int .i64 t.node) ∧ w'.cell? ⟨S, 6, none⟩ = some (.int .i64 t.pc) ∧ w'.cell? ⟨S, 7, none⟩ = some (.int .i64 t.prev) ∧ w'.cell? ⟨S, 8, none⟩ = some (.int .i64 t.cur) ∧ w'.cell? ⟨S, 9, none⟩ = some (.int .i64 t.next) ∧ w'.cell? ⟨S, 10, none⟩ = some (.int .i64 t.mark) ∧ w'.cell? ⟨S, 11, none⟩ = some (.bool t.done) ∧ w'.cell? ⟨S, 12, none⟩ = some (.int .i64 t.ans)) (first | with_reducible exact KS _ hBX hSX | with_reducible exact KS _ hBl hSl | with_reducible exact KS _ (put11x t hBl (Nat.le_succ _) hSl hSR).1 (put11x t hBl (Nat.le_succ _) hSl hSR).2)
          ((go_at_call 53; refine cL.mono ?_; rintro e wl ⟨v, rfl, ho, hbl⟩; obtain ⟨hRl, hBl, hSl⟩ := HR.out wl hbl; obtain ⟨r0, r1, r2, r3, r4, r5, r6, r7, r8, r9, r10⟩ := hRl.cells; dsimp only [Tk.zero] at r0 r1 r2 r3 r4 r5 r6 r7 r8 r9 r10; have z0 := hRl.thaw 0; have z1 := hRl.thaw 1; have z2 := hRl.thaw 2; have z3 := hRl.thaw 3; have z4 := hRl.thaw 4; have z5 := hRl.thaw 5; have z6 := hRl.thaw 6; have z7 := hRl.thaw 7; have z8 := hRl.thaw 8; have z9 := hRl.thaw 9; have z10 := hRl.thaw 10))
        all_goals go_wp2
        all_goals obtain ⟨hBf, hRf, hof⟩ := put11y t hBl (Nat.le_succ _) hRl ho (fun k hk => Nat.ne_of_gt (Nat.lt_of_lt_of_le HG.out (ho.lt k hk).1))
        all_goals clear r0 r1 r2 r3 r4 r5 r6 r7 r8 r9 r10 z0 z1 z2 z3 z4 z5 z6 z7 z8 z9 z10 y0 y1 y2 y3 y4 y5 y6 y7 y8 y9 y10 y11 y12 KS
        all_goals obtain ⟨s0, s1, s2, s3, s4, s5, s6, s7, s8, s9, s10⟩ := hRf.cells
        all_goals refine bodyPost_ret (v := .tuple #[v, .agg #[.int .i64 t.kind, .int .i64 t.key, .int .i64 t.val, .int .i64 t.node, .int .i64 t.pc, .int .i64 t.prev, .int .i64 t.cur, .int .i64 t.next, .int .i64 t.mark, .bool t.done, .int .i64 t.ans]]) (by simp [results, Try.results27, go_sem, s0, s1, s2, s3, s4, s5, s6, s7, s8, s9, s10]) rfl ?_
        all_goals rw [HST.out]
        all_goals exact ⟨v, rfl, hof.mono (by have := HG.out; omega), hBf⟩
      | true =>
        have hr2 := hr
        unfold ready at hr2
        simp only [Bool.and_eq_true, Bool.not_eq_true', decide_eq_true_eq] at hr2
        obtain ⟨_, hok, h63, hokl⟩ := hr2
        obtain ⟨M, s, hMs⟩ : ∃ M s, goL l t = (M, s) := ⟨_, _, rfl⟩
        have HST : Hid (stepL l t = (M, s)) := by show _ = _; unfold stepL; rw [hr]; exact hMs
        have hM63 : M.length = 63 := by have := goL_len l t; rw [hMs] at this; dsimp only at this; omega
        have HML2 : Hid (M.length ≤ 1048576) := by show M.length ≤ 1048576; omega
        have c5 := run_any (HS3.ss h63) hok hokl
        rw [hMs] at c5
        dsimp only at c5
        clear HS3 hr hok hokl hMs h63 hM63 HML
        have HML := HML2
        go_wp2_with fail
        refine c5.mono ?_
        rintro e w5 ⟨rfl, HS5⟩
        have HS6 := HS5.sp
        clear c5 HS5
        obtain ⟨y0, y1⟩ := HS6.box.pair
        obtain ⟨y2, y3, y4, y5, y6, y7, y8, y9, y10, y11, y12⟩ := HS6.box.cells
        have hdX := drewB w5
        have Hd := HS6.next hdX
        have cL := cellsList_any w5.drew g m _ _ Hd.at_ Hd.hs Hd.hm (by have := HML.out; omega)
        rw [range_getD M] at cL
        have KS : ∀ wi, Below w.heap.size w wi → SBox wi S (.slice (some ⟨g, 0, none⟩) m m) (.int .i64 M.length) s → (Below w.heap.size w wi ∧ (wi.cell? ⟨S, 0, none⟩ = some (.slice (some ⟨g, 0, none⟩) m m) ∧ wi.cell? ⟨S, 1, none⟩ = some (.int .i64 M.length)) ∧ wi.cell? ⟨S, 2, none⟩ = some (.int .i64 s.kind) ∧ wi.cell? ⟨S, 3, none⟩ = some (.int .i64 s.key) ∧ wi.cell? ⟨S, 4, none⟩ = some (.int .i64 s.val) ∧ wi.cell? ⟨S, 5, none⟩ = some (.int .i64 s.node) ∧ wi.cell? ⟨S, 6, none⟩ = some (.int .i64 s.pc) ∧ wi.cell? ⟨S, 7, none⟩ = some (.int .i64 s.prev) ∧ wi.cell? ⟨S, 8, none⟩ = some (.int .i64 s.cur) ∧ wi.cell? ⟨S, 9, none⟩ = some (.int .i64 s.next) ∧ wi.cell? ⟨S, 10, none⟩ = some (.int .i64 s.mark) ∧ wi.cell? ⟨S, 11, none⟩ = some (.bool s.done) ∧ wi.cell? ⟨S, 12, none⟩ = some (.int .i64 s.ans)) := fun wi hi hb => ⟨hi, hb.pair, hb.cells⟩
        have hBX := (HT.out _ Hd.bel).2.2.2
        have hSX := Hd.box
        have hSR : S ≠ w.heap.size + 1 := by have := Hd.sge; omega
        have HR : Hid (∀ wi, Below w5.drew.heap.size w5.drew wi → TBox wi (w.heap.size + 1) Tk.zero ∧ Below w.heap.size w wi ∧ SBox wi S (.slice (some ⟨g, 0, none⟩) m m) (.int .i64 M.length) s) := fun wi hi => ⟨(HT.out wi (Hd.bel.trans (hi.mono Hd.bel.size))).2.1, (HT.out wi (Hd.bel.trans (hi.mono Hd.bel.size))).2.2.2, Hd.box.on hi⟩
        have HG : Hid (w.heap.size + 1 < w5.drew.heap.size) := Nat.lt_of_lt_of_le hz2 Hd.bel.size
        clear HS6 Hd
        go_wp2
        go_region_held3 (fun w' => Below w.heap.size w w' ∧ (w'.cell? ⟨S, 0, none⟩ = some (.slice (some ⟨g, 0, none⟩) m m) ∧ w'.cell? ⟨S, 1, none⟩ = some (.int .i64 M.length)) ∧ w'.cell? ⟨S, 2, none⟩ = some (.int .i64 s.kind) ∧ w'.cell? ⟨S, 3, none⟩ = some (.int .i64 s.key) ∧ w'.cell? ⟨S, 4, none⟩ = some (.int .i64 s.val) ∧ w'.cell? ⟨S, 5, none⟩ = some (.int .i64 s.node) ∧ w'.cell? ⟨S, 6, none⟩ = some (.int .i64 s.pc) ∧ w'.cell? ⟨S, 7, none⟩ = some (.int .i64 s.prev) ∧ w'.cell? ⟨S, 8, none⟩ = some (.int .i64 s.cur) ∧ w'.cell? ⟨S, 9, none⟩ = some (.int .i64 s.next) ∧ w'.cell? ⟨S, 10, none⟩ = some (.int .i64 s.mark) ∧ w'.cell? ⟨S, 11, none⟩ = some (.bool s.done) ∧ w'.cell? ⟨S, 12, none⟩ = some (.int .i64 s.ans)) (first | with_reducible exact KS _ hBX hSX | with_reducible exact KS _ hBl hSl | with_reducible exact KS _ (put11x s hBl (Nat.le_succ _) hSl hSR).1 (put11x s hBl (Nat.le_succ _) hSl hSR).2)
          ((go_at_call 53; refine cL.mono ?_; rintro e wl ⟨v, rfl, ho, hbl⟩; obtain ⟨hRl, hBl, hSl⟩ := HR.out wl hbl; obtain ⟨r0, r1, r2, r3, r4, r5, r6, r7, r8, r9, r10⟩ := hRl.cells; dsimp only [Tk.zero] at r0 r1 r2 r3 r4 r5 r6 r7 r8 r9 r10; have z0 := hRl.thaw 0; have z1 := hRl.thaw 1; have z2 := hRl.thaw 2; have z3 := hRl.thaw 3; have z4 := hRl.thaw 4; have z5 := hRl.thaw 5; have z6 := hRl.thaw 6; have z7 := hRl.thaw 7; have z8 := hRl.thaw 8; have z9 := hRl.thaw 9; have z10 := hRl.thaw 10))
        all_goals go_wp2
        all_goals obtain ⟨hBf, hRf, hof⟩ := put11y s hBl (Nat.le_succ _) hRl ho (fun k hk => Nat.ne_of_gt (Nat.lt_of_lt_of_le HG.out (ho.lt k hk).1))
        all_goals clear r0 r1 r2 r3 r4 r5 r6 r7 r8 r9 r10 z0 z1 z2 z3 z4 z5 z6 z7 z8 z9 z10 y0 y1 y2 y3 y4 y5 y6 y7 y8 y9 y10 y11 y12 KS
        all_goals obtain ⟨s0, s1, s2, s3, s4, s5, s6, s7, s8, s9, s10⟩ := hRf.cells
        all_goals refine bodyPost_ret (v := .tuple #[v, .agg #[.int .i64 s.kind, .int .i64 s.key, .int .i64 s.val, .int .i64 s.node, .int .i64 s.pc, .int .i64 s.prev, .int .i64 s.cur, .int .i64 s.next, .int .i64 s.mark, .bool s.done, .int .i64 s.ans]]) (by simp [results, Try.results27, go_sem, s0, s1, s2, s3, s4, s5, s6, s7, s8, s9, s10]) rfl ?_
        all_goals rw [HST.out]
        all_goals exact ⟨v, rfl, hof.mono (by have := HG.out; omega), hBf⟩
end Go.Proofs.Ytockgojdmaladab
