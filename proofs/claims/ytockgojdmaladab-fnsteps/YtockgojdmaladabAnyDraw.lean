/- A list and a task, right or not: drawn. -/
import Derived.Test.YtockgojdmaladabSomeDraw
namespace Go.Proofs.Ytockgojdmaladab
open Go.RowKit Go.Sort

theorem neBoxV {w : World} {R b : Nat} {t : Tk} {v : Value} {xs : List Int} (h : TBox w R t) (ho : OwnV w b 3 v (ints xs)) : ∀ k, v.ownBlock = some k → k ≠ R := by
  rintro k hk rfl
  rcases ho.2 with ⟨rfl, _⟩ | ⟨g, cap, cur, rfl, _, hg, _⟩
  · simp [Value.ownBlock] at hk
  · simp [Value.ownBlock] at hk
    subst hk
    have := h.symm.trans hg
    simp at this
/-- What stands ahead of the answer. -/
structure Av (w : World) (p : Nat) (ca : Option Addr) (n cap V : Nat) (wi : World) (a : Option Addr) (l : List Int) (t : Tk) : Prop where
  left : Left w wi p ca n cap
  hp : p < w.heap.size
  r : TBox wi w.heap.size Tk.zero
  v : TBox wi V t
  at_ : IAt wi a l wi.heap.size
  far : ∀ g off, a = some ⟨g, off, none⟩ → w.heap.size < g
  len : l.length ≤ 63
  all : l.all nOkC = true
theorem Av.last {w : World} {p : Nat} {ca : Option Addr} {n cap V : Nat} {wi : World} {a : Option Addr} {l : List Int} {t : Tk} (h : Av w p ca n cap V wi a l t) :
    IAt (put11 wi w.heap.size t).drew a l (put11 wi w.heap.size t).drew.heap.size ∧ Left w (put11 wi w.heap.size t).drew p ca n cap := by
  have hbd : ∀ x : World, Below x.heap.size x x.drew := fun x => ⟨rfl, rfl, rfl, Nat.le_refl _, fun _ _ => rfl⟩
  have hb := put11_below (Below.refl w.heap.size wi) (Nat.le_refl _) t
  refine ⟨?_, ?_⟩
  · have h1 : IAt (put11 wi w.heap.size t) a l (put11 wi w.heap.size t).heap.size := by
      intro j hj
      obtain ⟨g, off, ha, hg, hc⟩ := h.at_ j hj
      refine ⟨g, off, ha, Nat.lt_of_lt_of_le hg hb.size, ?_⟩
      rw [World.cell?_of_block (w := wi) (put11_other wi w.heap.size t (show g ≠ w.heap.size from fun e => by have := h.far g off ha; omega))]
      exact hc
    exact h1.on (hbd _)
  · have h1 := h.left.below hb h.hp
    exact h1.below ((hbd _).mono h1.2.2.size) h.hp

set_option maxRecDepth 100000 in
set_option maxHeartbeats 4000000 in
theorem l06Any_any (w : World) (p : Nat) (ca : Option Addr) (n cap : Nat) (hc : Cur w p ca n cap) (hcode : CodeAt w ca n p) (hn : n ≤ 1048576) :
    Calls Try.prog 69 #[.pointer (some ⟨p, 0, none⟩)] w fun e w' => ∃ (a : Option Addr) (c : Nat) (l : List Int) (t : Tk), e = .returned (.tuple #[.slice a l.length c, .agg (tcs t)]) ∧ l.length ≤ 63 ∧ l.all nOkC = true ∧ IAt w' a l w'.heap.size ∧ (∀ g off, a = some ⟨g, off, none⟩ → w.heap.size < g) ∧ Left w w' p ca n cap := by
  have hp := hc.lt
  obtain ⟨w1, hw1⟩ : ∃ w1, w.alloc (.cells (tcs Tk.zero) 43) = w1 := ⟨_, rfl⟩
  have hl1 : Left w w1 p ca n cap := by rw [← hw1]; exact (Left.refl hc hcode).plus hp _
  have hR1 : TBox w1 w.heap.size Tk.zero := by rw [← hw1]; exact TBox.new _ _
  have hs1 : w1.heap.size = w.heap.size + 1 := by rw [← hw1]; simp
  have HW : Hid (w.alloc (.cells #[.int .i64 0, .int .i64 0, .int .i64 0, .int .i64 0, .int .i64 0, .int .i64 0, .int .i64 0, .int .i64 0, .int .i64 0, .bool false, .int .i64 0] 43) = w1) := hw1
  have c1 := below_any w1 p ca n cap 16 hl1.1 hl1.2.1 hn (by omega) (by omega)
  clear hw1 hc hcode
  go_enter Try.func69, Try.ntmps69
  go_wp2_with fail
  rw [HW.out]
  refine c1.mono ?_
  rintro e w2 ⟨k, hk, _, rfl, hl2⟩
  have hk16 := hk (by omega)
  have hR2 : TBox w2 w.heap.size Tk.zero := hR1.kept (hl2.2.2.block _ hR1.lt (by simp; omega))
  have hs2 := hl2.2.2.size
  have hl12 := hl1.trans hl2
  have c3 := below_any w2 p ca n cap 60 hl12.1 hl12.2.1 hn (by omega) (by omega)
  clear c1 hl1 hl2 hR1 hk
  go_wp2_with fail
  refine c3.mono ?_
  rintro e w3 ⟨x, hx, _, rfl, hl3⟩
  have hx60 := hx (by omega)
  have hR3 : TBox w3 w.heap.size Tk.zero := hR2.kept (hl3.2.2.block _ hR2.lt (by simp; omega))
  have hs3 := hl3.2.2.size
  have hl13 := hl12.trans hl3
  have c4 := l06Some_any w3 p ca n cap hl13.1 hl13.2.1 hn
  clear c3 hl12 hl3 hR2 hx
  go_wp2_with fail
  refine c4.mono ?_
  rintro e w4 ⟨v4, l, t, rfl, hgd, ho4, hl4⟩
  have hR4 : TBox w4 w.heap.size Tk.zero := hR3.kept (hl4.2.2.block _ hR3.lt (by simp; omega))
  have hs4 := hl4.2.2.size
  have hl14 := hl13.trans hl4
  obtain ⟨w5, hw5⟩ : ∃ w5, w4.alloc (.cells (tcs t) 43) = w5 := ⟨_, rfl⟩
  have hb5 : Below w4.heap.size w4 w5 := by rw [← hw5]; exact (Below.refl _ _).alloc (Nat.le_refl _) _
  have hV5 : TBox w5 w4.heap.size t := by rw [← hw5]; exact TBox.new _ _
  have HW5 : Hid (w4.alloc (.cells #[.int .i64 t.kind, .int .i64 t.key, .int .i64 t.val, .int .i64 t.node, .int .i64 t.pc, .int .i64 t.prev, .int .i64 t.cur, .int .i64 t.next, .int .i64 t.mark, .bool t.done, .int .i64 t.ans] 43) = w5) := hw5
  have hR5 := hR4.on hb5
  have hl5 : Left w w5 p ca n cap := hl14.below (hb5.mono hl14.2.2.size) hp
  have ho5 := ho4.below hb5 (Nat.le_refl _)
  obtain ⟨V, hVe⟩ : ∃ V, w4.heap.size = V := ⟨_, rfl⟩
  rw [hVe] at hV5
  have hVw : w.heap.size < V := by omega
  have h3w : w.heap.size < w3.heap.size := by omega
  have hll := hgd.1
  obtain ⟨g, cv, hv5, hgb, hcv⟩ : ∃ g cv, v4 = .slice (some ⟨g, 0, none⟩) l.length cv ∧ w3.heap.size ≤ g ∧ 63 ≤ cv := by
    rcases ho5.2 with ⟨_, hn0⟩ | ⟨g, cp, cur, hv, hb, _, hcp, _⟩
    · rw [ints_length] at hn0; omega
    · rw [ints_length] at hv hcp
      exact ⟨g, cp, hv, hb, by omega⟩
  subst hv5
  have hgV : g ≠ V := neBoxV hV5 ho5 g rfl
  have hAt5 : IAt w5 (some ⟨g, 0, none⟩) l w5.heap.size := by
    obtain ⟨a', c', e, h⟩ := ho5.ints
    simp only [Value.slice.injEq] at e
    rw [e.1]; exact h
  have hfar : ∀ g' off', (some ⟨g, 0, none⟩ : Option Addr) = some ⟨g', off', none⟩ → w.heap.size < g' := by
    intro g' off' e
    simp only [Option.some.injEq, Addr.mk.injEq] at e
    omega
  have h0 : Av w p ca n cap V w5 (some ⟨g, 0, none⟩) l t := ⟨hl5, hp, hR5, hV5, hAt5, hfar, by omega, hgd.2⟩
  -- a number in the list is another
  have hput : ∀ (j : Nat) (z : Int), j < 63 → nOkC z = true → w5.cell? ⟨g, j, none⟩ = some (.int .i64 (l.getD j 0)) ∧ w5.frozen? ⟨g, j, none⟩ = false ∧ Av w p ca n cap V (w5.setCell ⟨g, j, none⟩ (.int .i64 z)) (some ⟨g, 0, none⟩) (l.set j z) t := by
    intro j z hj hz
    obtain ⟨g', cp', e, q1, q2, q3, q4⟩ := own_seti ho5 (k := j) (by omega) z
    simp only [Value.slice.injEq, Option.some.injEq, Addr.mk.injEq, and_true, true_and] at e
    obtain ⟨rfl, rfl⟩ := e
    refine ⟨by rw [q1]; simp [List.getD, show j < l.length by omega], q2, ?_⟩
    refine ⟨hl5.set hp (by show w.heap.size ≤ g; omega) _, hp, hR5.other (A := ⟨g, j, none⟩) (by show w.heap.size ≠ g; omega) _, hV5.other (A := ⟨g, j, none⟩) (fun e => hgV e.symm) _, ?_, hfar, by rw [List.length_set]; omega, ?_⟩
    · obtain ⟨a', c', e, h⟩ := q4.ints
      simp only [Value.slice.injEq] at e
      rw [e.1]; exact h
    · rw [List.all_eq_true]
      intro y hy
      rcases List.mem_or_eq_of_mem_set hy with h1 | rfl
      · exact List.all_eq_true.1 hgd.2 y h1
      · exact hz
  -- a field of the task is another
  have hfld : ∀ (i : Nat) (z : Int) (t' : Tk), (tcs t).setIfInBounds i (.int .i64 z) = tcs t' → Av w p ca n cap V (w5.setCell ⟨V, i, none⟩ (.int .i64 z)) (some ⟨g, 0, none⟩) l t' := by
    intro i z t' he
    refine ⟨hl5.set hp (by show w.heap.size ≤ V; omega) _, hp, hR5.other (A := ⟨V, i, none⟩) (by show w.heap.size ≠ V; omega) _, hV5.set i _ t' he, ?_, hfar, by omega, hgd.2⟩
    intro j hj
    obtain ⟨g', off', ha, hg', hcj⟩ := hAt5 j hj
    have e : g' = g := by simp only [Option.some.injEq, Addr.mk.injEq] at ha; omega
    refine ⟨g', off', ha, by simpa using hg', ?_⟩
    rw [World.cell?_of_block (w := w5) (heap_setCell_other w5 ⟨V, i, none⟩ g' _ (by rw [e]; exact hgV))]
    exact hcj
  have HPUT : Hid _ := hput
  have HFLD : Hid _ := hfld
  have H0 : Hid _ := h0
  obtain ⟨y0, y1, y2, y3, y4, y5, y6, y7, y8, y9, y10⟩ := hV5.cells
  have f0 := hV5.thaw 0
  have f4 := hV5.thaw 4
  have f6 := hV5.thaw 6
  have f7 := hV5.thaw 7
  have hdrop : Hid (Av w p ca n cap V w5 (some ⟨g, 1, none⟩) (l.drop 1) t) := by
    refine ⟨hl5, hp, hR5, hV5, ?_, ?_, by rw [List.length_drop]; omega, ?_⟩
    · intro j hj
      rw [List.length_drop] at hj
      obtain ⟨g', off', ha, hg', hcj⟩ := hAt5 (j + 1) (by omega)
      simp only [Option.some.injEq, Addr.mk.injEq, and_true] at ha
      obtain ⟨rfl, rfl⟩ := ha
      refine ⟨g, 1, rfl, hg', ?_⟩
      rw [show 1 + j = 0 + (j + 1) by omega, hcj]
      simp
    · intro g' off' e
      simp only [Option.some.injEq, Addr.mk.injEq] at e
      omega
    · rw [List.all_eq_true]
      intro y hy
      exact List.all_eq_true.1 hgd.2 y (List.mem_of_mem_drop hy)
  have HLL : Hid (l.length = 63) := hll
  rw [hll]
  clear hput hfld h0 c4 hw5 hR3 hR4 hR5 hl13 hl14 hl4 hl5 ho4 ho5 hb5 hV5 hAt5 hfar hgd hs1 hs2 hs3 hs4 hll hgb h3w hgV
  unfold tcs
  go_upto_region 4 with fail
  rw [HW5.out]
  have hcs : k = 0 ∨ k = 1 ∨ k = 2 ∨ k = 3 ∨ k = 4 ∨ k = 5 ∨ k = 6 ∨ 6 < k := by omega
  rcases hcs with rfl | rfl | rfl | rfl | rfl | rfl | rfl | hk6
  · obtain ⟨q1, q2, HY0⟩ := HPUT.out x ((x : Int) * 7) (by omega) (decide_eq_true (by omega))
    obtain ⟨wy, hwy⟩ : ∃ wy, w5.setCell ⟨g, x, none⟩ (.int .i64 ((x : Int) * 7)) = wy := ⟨_, rfl⟩
    rw [hwy] at HY0
    have HWY : Hid (w5.setCell ⟨g, x, none⟩ (.int .i64 ((x : Int) * 7)) = wy) := hwy
    obtain ⟨ll, hll⟩ : ∃ ll, l.set x ((x : Int) * 7) = ll := ⟨_, rfl⟩
    rw [hll] at HY0
    have HLEN : Hid (ll.length = 63) := by show _ = _; rw [← hll, List.length_set]; exact HLL.out
    have HY : Hid (Av w p ca n cap V wy (some ⟨g, 0, none⟩) ll t) := HY0
    obtain ⟨tt, rfl⟩ : ∃ tt, tt = t := ⟨_, rfl⟩
    have hi1 : (0 : Int) ≤ (x : Int) := by omega
    have hi2 : (x : Int) < 63 := by omega
    clear hwy hll HY0
    obtain ⟨b0, b1, b2, b3, b4, b5, b6, b7, b8, b9, b10⟩ := HY.out.v.cells
    obtain ⟨r0, r1, r2, r3, r4, r5, r6, r7, r8, r9, r10⟩ := HY.out.r.cells
    dsimp only [Tk.zero] at r0 r1 r2 r3 r4 r5 r6 r7 r8 r9 r10
    have z0 := HY.out.r.thaw 0
    have z1 := HY.out.r.thaw 1
    have z2 := HY.out.r.thaw 2
    have z3 := HY.out.r.thaw 3
    have z4 := HY.out.r.thaw 4
    have z5 := HY.out.r.thaw 5
    have z6 := HY.out.r.thaw 6
    have z7 := HY.out.r.thaw 7
    have z8 := HY.out.r.thaw 8
    have z9 := HY.out.r.thaw 9
    have z10 := HY.out.r.thaw 10
    go_wp2
    rw [HWY.out]
    go_still_tail 3, (by kernel_rfl)
    go_wp2
    have hR := HY.out.r
    have hbd : ∀ x : World, Below x.heap.size x x.drew := fun x => ⟨rfl, rfl, rfl, Nat.le_refl _, fun _ _ => rfl⟩
    clear b0 b1 b2 b3 b4 b5 b6 b7 b8 b9 b10 r0 r1 r2 r3 r4 r5 r6 r7 r8 r9 r10 z0 z1 z2 z3 z4 z5 z6 z7 z8 z9 z10
    obtain ⟨s0, s1, s2, s3, s4, s5, s6, s7, s8, s9, s10⟩ := ((put11_box hR tt).on (hbd _)).cells
    unfold put11 at s0 s1 s2 s3 s4 s5 s6 s7 s8 s9 s10
    have HF := HY.out.last
    unfold put11 at HF
    refine bodyPost_ret (v := .tuple #[.slice (some ⟨g, 0, none⟩) 63 (cv), .agg #[.int .i64 tt.kind, .int .i64 tt.key, .int .i64 tt.val, .int .i64 tt.node, .int .i64 tt.pc, .int .i64 tt.prev, .int .i64 tt.cur, .int .i64 tt.next, .int .i64 tt.mark, .bool tt.done, .int .i64 tt.ans]]) (by simp [results, Try.results69, go_sem, s0, s1, s2, s3, s4, s5, s6, s7, s8, s9, s10]) rfl ⟨some ⟨g, 0, none⟩, cv, ll, tt, by rw [HLEN.out]; rfl, HY.out.len, HY.out.all, HF.1, HY.out.far, HF.2⟩
  · obtain ⟨tt, htt⟩ : ∃ tt : Tk, { t with pc := (x : Int) % 9 - 1 } = tt := ⟨_, rfl⟩
    have HY0 := HFLD.out 4 ((x : Int) % 9 - 1) tt (by rw [← htt]; rfl)
    obtain ⟨wy, hwy⟩ : ∃ wy, w5.setCell ⟨V, 4, none⟩ (.int .i64 ((x : Int) % 9 - 1)) = wy := ⟨_, rfl⟩
    rw [hwy] at HY0
    have HWY : Hid (w5.setCell ⟨V, 4, none⟩ (.int .i64 ((x : Int) % 9 - 1)) = wy) := hwy
    have HLEN : Hid (l.length = 63) := HLL
    have HY : Hid (Av w p ca n cap V wy (some ⟨g, 0, none⟩) l tt) := HY0
    clear hwy htt HY0
    obtain ⟨b0, b1, b2, b3, b4, b5, b6, b7, b8, b9, b10⟩ := HY.out.v.cells
    obtain ⟨r0, r1, r2, r3, r4, r5, r6, r7, r8, r9, r10⟩ := HY.out.r.cells
    dsimp only [Tk.zero] at r0 r1 r2 r3 r4 r5 r6 r7 r8 r9 r10
    have z0 := HY.out.r.thaw 0
    have z1 := HY.out.r.thaw 1
    have z2 := HY.out.r.thaw 2
    have z3 := HY.out.r.thaw 3
    have z4 := HY.out.r.thaw 4
    have z5 := HY.out.r.thaw 5
    have z6 := HY.out.r.thaw 6
    have z7 := HY.out.r.thaw 7
    have z8 := HY.out.r.thaw 8
    have z9 := HY.out.r.thaw 9
    have z10 := HY.out.r.thaw 10
    go_wp2
    rw [HWY.out]
    go_still_tail 3, (by kernel_rfl)
    go_wp2
    have hR := HY.out.r
    have hbd : ∀ x : World, Below x.heap.size x x.drew := fun x => ⟨rfl, rfl, rfl, Nat.le_refl _, fun _ _ => rfl⟩
    clear b0 b1 b2 b3 b4 b5 b6 b7 b8 b9 b10 r0 r1 r2 r3 r4 r5 r6 r7 r8 r9 r10 z0 z1 z2 z3 z4 z5 z6 z7 z8 z9 z10
    obtain ⟨s0, s1, s2, s3, s4, s5, s6, s7, s8, s9, s10⟩ := ((put11_box hR tt).on (hbd _)).cells
    unfold put11 at s0 s1 s2 s3 s4 s5 s6 s7 s8 s9 s10
    have HF := HY.out.last
    unfold put11 at HF
    refine bodyPost_ret (v := .tuple #[.slice (some ⟨g, 0, none⟩) 63 (cv), .agg #[.int .i64 tt.kind, .int .i64 tt.key, .int .i64 tt.val, .int .i64 tt.node, .int .i64 tt.pc, .int .i64 tt.prev, .int .i64 tt.cur, .int .i64 tt.next, .int .i64 tt.mark, .bool tt.done, .int .i64 tt.ans]]) (by simp [results, Try.results69, go_sem, s0, s1, s2, s3, s4, s5, s6, s7, s8, s9, s10]) rfl ⟨some ⟨g, 0, none⟩, cv, l, tt, by rw [HLEN.out]; rfl, HY.out.len, HY.out.all, HF.1, HY.out.far, HF.2⟩
  · obtain ⟨tt, htt⟩ : ∃ tt : Tk, { t with cur := (x : Int) % 23 - 1 } = tt := ⟨_, rfl⟩
    have HY0 := HFLD.out 6 ((x : Int) % 23 - 1) tt (by rw [← htt]; rfl)
    obtain ⟨wy, hwy⟩ : ∃ wy, w5.setCell ⟨V, 6, none⟩ (.int .i64 ((x : Int) % 23 - 1)) = wy := ⟨_, rfl⟩
    rw [hwy] at HY0
    have HWY : Hid (w5.setCell ⟨V, 6, none⟩ (.int .i64 ((x : Int) % 23 - 1)) = wy) := hwy
    have HLEN : Hid (l.length = 63) := HLL
    have HY : Hid (Av w p ca n cap V wy (some ⟨g, 0, none⟩) l tt) := HY0
    clear hwy htt HY0
    obtain ⟨b0, b1, b2, b3, b4, b5, b6, b7, b8, b9, b10⟩ := HY.out.v.cells
    obtain ⟨r0, r1, r2, r3, r4, r5, r6, r7, r8, r9, r10⟩ := HY.out.r.cells
    dsimp only [Tk.zero] at r0 r1 r2 r3 r4 r5 r6 r7 r8 r9 r10
    have z0 := HY.out.r.thaw 0
    have z1 := HY.out.r.thaw 1
    have z2 := HY.out.r.thaw 2
    have z3 := HY.out.r.thaw 3
    have z4 := HY.out.r.thaw 4
    have z5 := HY.out.r.thaw 5
    have z6 := HY.out.r.thaw 6
    have z7 := HY.out.r.thaw 7
    have z8 := HY.out.r.thaw 8
    have z9 := HY.out.r.thaw 9
    have z10 := HY.out.r.thaw 10
    go_wp2
    rw [HWY.out]
    go_still_tail 3, (by kernel_rfl)
    go_wp2
    have hR := HY.out.r
    have hbd : ∀ x : World, Below x.heap.size x x.drew := fun x => ⟨rfl, rfl, rfl, Nat.le_refl _, fun _ _ => rfl⟩
    clear b0 b1 b2 b3 b4 b5 b6 b7 b8 b9 b10 r0 r1 r2 r3 r4 r5 r6 r7 r8 r9 r10 z0 z1 z2 z3 z4 z5 z6 z7 z8 z9 z10
    obtain ⟨s0, s1, s2, s3, s4, s5, s6, s7, s8, s9, s10⟩ := ((put11_box hR tt).on (hbd _)).cells
    unfold put11 at s0 s1 s2 s3 s4 s5 s6 s7 s8 s9 s10
    have HF := HY.out.last
    unfold put11 at HF
    refine bodyPost_ret (v := .tuple #[.slice (some ⟨g, 0, none⟩) 63 (cv), .agg #[.int .i64 tt.kind, .int .i64 tt.key, .int .i64 tt.val, .int .i64 tt.node, .int .i64 tt.pc, .int .i64 tt.prev, .int .i64 tt.cur, .int .i64 tt.next, .int .i64 tt.mark, .bool tt.done, .int .i64 tt.ans]]) (by simp [results, Try.results69, go_sem, s0, s1, s2, s3, s4, s5, s6, s7, s8, s9, s10]) rfl ⟨some ⟨g, 0, none⟩, cv, l, tt, by rw [HLEN.out]; rfl, HY.out.len, HY.out.all, HF.1, HY.out.far, HF.2⟩
  · obtain ⟨tt, htt⟩ : ∃ tt : Tk, { t with kind := (x : Int) % 5 } = tt := ⟨_, rfl⟩
    have HY0 := HFLD.out 0 ((x : Int) % 5) tt (by rw [← htt]; rfl)
    obtain ⟨wy, hwy⟩ : ∃ wy, w5.setCell ⟨V, 0, none⟩ (.int .i64 ((x : Int) % 5)) = wy := ⟨_, rfl⟩
    rw [hwy] at HY0
    have HWY : Hid (w5.setCell ⟨V, 0, none⟩ (.int .i64 ((x : Int) % 5)) = wy) := hwy
    have HLEN : Hid (l.length = 63) := HLL
    have HY : Hid (Av w p ca n cap V wy (some ⟨g, 0, none⟩) l tt) := HY0
    clear hwy htt HY0
    obtain ⟨b0, b1, b2, b3, b4, b5, b6, b7, b8, b9, b10⟩ := HY.out.v.cells
    obtain ⟨r0, r1, r2, r3, r4, r5, r6, r7, r8, r9, r10⟩ := HY.out.r.cells
    dsimp only [Tk.zero] at r0 r1 r2 r3 r4 r5 r6 r7 r8 r9 r10
    have z0 := HY.out.r.thaw 0
    have z1 := HY.out.r.thaw 1
    have z2 := HY.out.r.thaw 2
    have z3 := HY.out.r.thaw 3
    have z4 := HY.out.r.thaw 4
    have z5 := HY.out.r.thaw 5
    have z6 := HY.out.r.thaw 6
    have z7 := HY.out.r.thaw 7
    have z8 := HY.out.r.thaw 8
    have z9 := HY.out.r.thaw 9
    have z10 := HY.out.r.thaw 10
    go_wp2
    rw [HWY.out]
    go_still_tail 3, (by kernel_rfl)
    go_wp2
    have hR := HY.out.r
    have hbd : ∀ x : World, Below x.heap.size x x.drew := fun x => ⟨rfl, rfl, rfl, Nat.le_refl _, fun _ _ => rfl⟩
    clear b0 b1 b2 b3 b4 b5 b6 b7 b8 b9 b10 r0 r1 r2 r3 r4 r5 r6 r7 r8 r9 r10 z0 z1 z2 z3 z4 z5 z6 z7 z8 z9 z10
    obtain ⟨s0, s1, s2, s3, s4, s5, s6, s7, s8, s9, s10⟩ := ((put11_box hR tt).on (hbd _)).cells
    unfold put11 at s0 s1 s2 s3 s4 s5 s6 s7 s8 s9 s10
    have HF := HY.out.last
    unfold put11 at HF
    refine bodyPost_ret (v := .tuple #[.slice (some ⟨g, 0, none⟩) 63 (cv), .agg #[.int .i64 tt.kind, .int .i64 tt.key, .int .i64 tt.val, .int .i64 tt.node, .int .i64 tt.pc, .int .i64 tt.prev, .int .i64 tt.cur, .int .i64 tt.next, .int .i64 tt.mark, .bool tt.done, .int .i64 tt.ans]]) (by simp [results, Try.results69, go_sem, s0, s1, s2, s3, s4, s5, s6, s7, s8, s9, s10]) rfl ⟨some ⟨g, 0, none⟩, cv, l, tt, by rw [HLEN.out]; rfl, HY.out.len, HY.out.all, HF.1, HY.out.far, HF.2⟩
  · have HLEN : Hid ((l.drop 1).length = 62) := by show _ = _; rw [List.length_drop, HLL.out]
    have HY : Hid (Av w p ca n cap V w5 (some ⟨g, 1, none⟩) (l.drop 1) t) := hdrop
    obtain ⟨tt, rfl⟩ : ∃ tt, tt = t := ⟨_, rfl⟩
    have hcv2 : (63 : Int) ≤ (cv : Int) := by omega
    obtain ⟨b0, b1, b2, b3, b4, b5, b6, b7, b8, b9, b10⟩ := HY.out.v.cells
    obtain ⟨r0, r1, r2, r3, r4, r5, r6, r7, r8, r9, r10⟩ := HY.out.r.cells
    dsimp only [Tk.zero] at r0 r1 r2 r3 r4 r5 r6 r7 r8 r9 r10
    have z0 := HY.out.r.thaw 0
    have z1 := HY.out.r.thaw 1
    have z2 := HY.out.r.thaw 2
    have z3 := HY.out.r.thaw 3
    have z4 := HY.out.r.thaw 4
    have z5 := HY.out.r.thaw 5
    have z6 := HY.out.r.thaw 6
    have z7 := HY.out.r.thaw 7
    have z8 := HY.out.r.thaw 8
    have z9 := HY.out.r.thaw 9
    have z10 := HY.out.r.thaw 10
    go_wp2
    go_still_tail 3, (by kernel_rfl)
    go_wp2
    have hR := HY.out.r
    have hbd : ∀ x : World, Below x.heap.size x x.drew := fun x => ⟨rfl, rfl, rfl, Nat.le_refl _, fun _ _ => rfl⟩
    clear b0 b1 b2 b3 b4 b5 b6 b7 b8 b9 b10 r0 r1 r2 r3 r4 r5 r6 r7 r8 r9 r10 z0 z1 z2 z3 z4 z5 z6 z7 z8 z9 z10
    obtain ⟨s0, s1, s2, s3, s4, s5, s6, s7, s8, s9, s10⟩ := ((put11_box hR tt).on (hbd _)).cells
    unfold put11 at s0 s1 s2 s3 s4 s5 s6 s7 s8 s9 s10
    have HF := HY.out.last
    unfold put11 at HF
    refine bodyPost_ret (v := .tuple #[.slice (some ⟨g, 1, none⟩) 62 (cv - 1), .agg #[.int .i64 tt.kind, .int .i64 tt.key, .int .i64 tt.val, .int .i64 tt.node, .int .i64 tt.pc, .int .i64 tt.prev, .int .i64 tt.cur, .int .i64 tt.next, .int .i64 tt.mark, .bool tt.done, .int .i64 tt.ans]]) (by simp [results, Try.results69, go_sem, s0, s1, s2, s3, s4, s5, s6, s7, s8, s9, s10]) rfl ⟨some ⟨g, 1, none⟩, cv - 1, l.drop 1, tt, by rw [HLEN.out]; rfl, HY.out.len, HY.out.all, HF.1, HY.out.far, HF.2⟩
  · obtain ⟨tt, htt⟩ : ∃ tt : Tk, { t with next := (x : Int) % 22 } = tt := ⟨_, rfl⟩
    have HY0 := HFLD.out 7 ((x : Int) % 22) tt (by rw [← htt]; rfl)
    obtain ⟨wy, hwy⟩ : ∃ wy, w5.setCell ⟨V, 7, none⟩ (.int .i64 ((x : Int) % 22)) = wy := ⟨_, rfl⟩
    rw [hwy] at HY0
    have HWY : Hid (w5.setCell ⟨V, 7, none⟩ (.int .i64 ((x : Int) % 22)) = wy) := hwy
    have HLEN : Hid (l.length = 63) := HLL
    have HY : Hid (Av w p ca n cap V wy (some ⟨g, 0, none⟩) l tt) := HY0
    clear hwy htt HY0
    obtain ⟨b0, b1, b2, b3, b4, b5, b6, b7, b8, b9, b10⟩ := HY.out.v.cells
    obtain ⟨r0, r1, r2, r3, r4, r5, r6, r7, r8, r9, r10⟩ := HY.out.r.cells
    dsimp only [Tk.zero] at r0 r1 r2 r3 r4 r5 r6 r7 r8 r9 r10
    have z0 := HY.out.r.thaw 0
    have z1 := HY.out.r.thaw 1
    have z2 := HY.out.r.thaw 2
    have z3 := HY.out.r.thaw 3
    have z4 := HY.out.r.thaw 4
    have z5 := HY.out.r.thaw 5
    have z6 := HY.out.r.thaw 6
    have z7 := HY.out.r.thaw 7
    have z8 := HY.out.r.thaw 8
    have z9 := HY.out.r.thaw 9
    have z10 := HY.out.r.thaw 10
    go_wp2
    rw [HWY.out]
    go_still_tail 3, (by kernel_rfl)
    go_wp2
    have hR := HY.out.r
    have hbd : ∀ x : World, Below x.heap.size x x.drew := fun x => ⟨rfl, rfl, rfl, Nat.le_refl _, fun _ _ => rfl⟩
    clear b0 b1 b2 b3 b4 b5 b6 b7 b8 b9 b10 r0 r1 r2 r3 r4 r5 r6 r7 r8 r9 r10 z0 z1 z2 z3 z4 z5 z6 z7 z8 z9 z10
    obtain ⟨s0, s1, s2, s3, s4, s5, s6, s7, s8, s9, s10⟩ := ((put11_box hR tt).on (hbd _)).cells
    unfold put11 at s0 s1 s2 s3 s4 s5 s6 s7 s8 s9 s10
    have HF := HY.out.last
    unfold put11 at HF
    refine bodyPost_ret (v := .tuple #[.slice (some ⟨g, 0, none⟩) 63 (cv), .agg #[.int .i64 tt.kind, .int .i64 tt.key, .int .i64 tt.val, .int .i64 tt.node, .int .i64 tt.pc, .int .i64 tt.prev, .int .i64 tt.cur, .int .i64 tt.next, .int .i64 tt.mark, .bool tt.done, .int .i64 tt.ans]]) (by simp [results, Try.results69, go_sem, s0, s1, s2, s3, s4, s5, s6, s7, s8, s9, s10]) rfl ⟨some ⟨g, 0, none⟩, cv, l, tt, by rw [HLEN.out]; rfl, HY.out.len, HY.out.all, HF.1, HY.out.far, HF.2⟩
  · obtain ⟨q1, q2, HY0⟩ := HPUT.out 0 1000 (by omega) (by decide)
    obtain ⟨wy, hwy⟩ : ∃ wy, w5.setCell ⟨g, 0, none⟩ (.int .i64 1000) = wy := ⟨_, rfl⟩
    rw [hwy] at HY0
    have HWY : Hid (w5.setCell ⟨g, 0, none⟩ (.int .i64 1000) = wy) := hwy
    obtain ⟨ll, hll⟩ : ∃ ll, l.set 0 1000 = ll := ⟨_, rfl⟩
    rw [hll] at HY0
    have HLEN : Hid (ll.length = 63) := by show _ = _; rw [← hll, List.length_set]; exact HLL.out
    have HY : Hid (Av w p ca n cap V wy (some ⟨g, 0, none⟩) ll t) := HY0
    obtain ⟨tt, rfl⟩ : ∃ tt, tt = t := ⟨_, rfl⟩
    clear hwy hll HY0
    obtain ⟨b0, b1, b2, b3, b4, b5, b6, b7, b8, b9, b10⟩ := HY.out.v.cells
    obtain ⟨r0, r1, r2, r3, r4, r5, r6, r7, r8, r9, r10⟩ := HY.out.r.cells
    dsimp only [Tk.zero] at r0 r1 r2 r3 r4 r5 r6 r7 r8 r9 r10
    have z0 := HY.out.r.thaw 0
    have z1 := HY.out.r.thaw 1
    have z2 := HY.out.r.thaw 2
    have z3 := HY.out.r.thaw 3
    have z4 := HY.out.r.thaw 4
    have z5 := HY.out.r.thaw 5
    have z6 := HY.out.r.thaw 6
    have z7 := HY.out.r.thaw 7
    have z8 := HY.out.r.thaw 8
    have z9 := HY.out.r.thaw 9
    have z10 := HY.out.r.thaw 10
    go_wp2
    rw [HWY.out]
    go_still_tail 3, (by kernel_rfl)
    go_wp2
    have hR := HY.out.r
    have hbd : ∀ x : World, Below x.heap.size x x.drew := fun x => ⟨rfl, rfl, rfl, Nat.le_refl _, fun _ _ => rfl⟩
    clear b0 b1 b2 b3 b4 b5 b6 b7 b8 b9 b10 r0 r1 r2 r3 r4 r5 r6 r7 r8 r9 r10 z0 z1 z2 z3 z4 z5 z6 z7 z8 z9 z10
    obtain ⟨s0, s1, s2, s3, s4, s5, s6, s7, s8, s9, s10⟩ := ((put11_box hR tt).on (hbd _)).cells
    unfold put11 at s0 s1 s2 s3 s4 s5 s6 s7 s8 s9 s10
    have HF := HY.out.last
    unfold put11 at HF
    refine bodyPost_ret (v := .tuple #[.slice (some ⟨g, 0, none⟩) 63 (cv), .agg #[.int .i64 tt.kind, .int .i64 tt.key, .int .i64 tt.val, .int .i64 tt.node, .int .i64 tt.pc, .int .i64 tt.prev, .int .i64 tt.cur, .int .i64 tt.next, .int .i64 tt.mark, .bool tt.done, .int .i64 tt.ans]]) (by simp [results, Try.results69, go_sem, s0, s1, s2, s3, s4, s5, s6, s7, s8, s9, s10]) rfl ⟨some ⟨g, 0, none⟩, cv, ll, tt, by rw [HLEN.out]; rfl, HY.out.len, HY.out.all, HF.1, HY.out.far, HF.2⟩
  · have HLEN : Hid (l.length = 63) := HLL
    have HY : Hid (Av w p ca n cap V w5 (some ⟨g, 0, none⟩) l t) := H0
    obtain ⟨tt, rfl⟩ : ∃ tt, tt = t := ⟨_, rfl⟩
    have d0 : decide ((k : Int) = 0) = false := decide_eq_false (by omega)
    have d1 : decide ((k : Int) = 1) = false := decide_eq_false (by omega)
    have d2 : decide ((k : Int) = 2) = false := decide_eq_false (by omega)
    have d3 : decide ((k : Int) = 3) = false := decide_eq_false (by omega)
    have d4 : decide ((k : Int) = 4) = false := decide_eq_false (by omega)
    have d5 : decide ((k : Int) = 5) = false := decide_eq_false (by omega)
    have d6 : decide ((k : Int) = 6) = false := decide_eq_false (by omega)
    clear y0 y1 y2 y3 y4 y5 y6 y7 y8 y9 y10 f0 f4 f6 f7
    obtain ⟨b0, b1, b2, b3, b4, b5, b6, b7, b8, b9, b10⟩ := HY.out.v.cells
    obtain ⟨r0, r1, r2, r3, r4, r5, r6, r7, r8, r9, r10⟩ := HY.out.r.cells
    dsimp only [Tk.zero] at r0 r1 r2 r3 r4 r5 r6 r7 r8 r9 r10
    have z0 := HY.out.r.thaw 0
    have z1 := HY.out.r.thaw 1
    have z2 := HY.out.r.thaw 2
    have z3 := HY.out.r.thaw 3
    have z4 := HY.out.r.thaw 4
    have z5 := HY.out.r.thaw 5
    have z6 := HY.out.r.thaw 6
    have z7 := HY.out.r.thaw 7
    have z8 := HY.out.r.thaw 8
    have z9 := HY.out.r.thaw 9
    have z10 := HY.out.r.thaw 10
    go_wp2
    go_still_tail 3, (by kernel_rfl)
    go_wp2
    have hR := HY.out.r
    have hbd : ∀ x : World, Below x.heap.size x x.drew := fun x => ⟨rfl, rfl, rfl, Nat.le_refl _, fun _ _ => rfl⟩
    clear b0 b1 b2 b3 b4 b5 b6 b7 b8 b9 b10 r0 r1 r2 r3 r4 r5 r6 r7 r8 r9 r10 z0 z1 z2 z3 z4 z5 z6 z7 z8 z9 z10
    obtain ⟨s0, s1, s2, s3, s4, s5, s6, s7, s8, s9, s10⟩ := ((put11_box hR tt).on (hbd _)).cells
    unfold put11 at s0 s1 s2 s3 s4 s5 s6 s7 s8 s9 s10
    have HF := HY.out.last
    unfold put11 at HF
    refine bodyPost_ret (v := .tuple #[.slice (some ⟨g, 0, none⟩) 63 (cv), .agg #[.int .i64 tt.kind, .int .i64 tt.key, .int .i64 tt.val, .int .i64 tt.node, .int .i64 tt.pc, .int .i64 tt.prev, .int .i64 tt.cur, .int .i64 tt.next, .int .i64 tt.mark, .bool tt.done, .int .i64 tt.ans]]) (by simp [results, Try.results69, go_sem, s0, s1, s2, s3, s4, s5, s6, s7, s8, s9, s10]) rfl ⟨some ⟨g, 0, none⟩, cv, l, tt, by rw [HLEN.out]; rfl, HY.out.len, HY.out.all, HF.1, HY.out.far, HF.2⟩
end Go.Proofs.Ytockgojdmaladab
