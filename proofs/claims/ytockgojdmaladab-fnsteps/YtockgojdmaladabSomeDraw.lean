/- A list that some tasks changed, and a task under way: drawn. -/
import Derived.Test.YtockgojdmaladabTaskDraw
namespace Go.Proofs.Ytockgojdmaladab
open Go.RowKit Go.Sort

theorem Try.infoTask : (Try.prog.info? 43).map (fun i => (i.zero, i.size, i.bytes)) = some (some (.agg #[.int .i64 0, .int .i64 0, .int .i64 0, .int .i64 0, .int .i64 0, .int .i64 0, .int .i64 0, .int .i64 0, .int .i64 0, .bool false, .int .i64 0]), 11, 88) := by kernel_rfl

theorem OwnT.opened {w : World} {base : Nat} {e : TypeId} {v : Value} {L : List Tk} (h : OwnT w base e v L) (hL : 0 < L.length) :
    ∃ g cap, v = .slice (some ⟨g, 0, none⟩) L.length cap ∧ base ≤ g ∧ g < w.heap.size ∧ (∀ i, w.frozen? ⟨g, i, none⟩ = false) ∧ ∀ j (hj : j < L.length), w.cell? ⟨g, j * 11, none⟩ = some (.int .i64 L[j].kind) ∧ w.cell? ⟨g, j * 11 + 1, none⟩ = some (.int .i64 L[j].key) ∧ w.cell? ⟨g, j * 11 + 2, none⟩ = some (.int .i64 L[j].val) ∧ w.cell? ⟨g, j * 11 + 3, none⟩ = some (.int .i64 L[j].node) ∧ w.cell? ⟨g, j * 11 + 4, none⟩ = some (.int .i64 L[j].pc) ∧ w.cell? ⟨g, j * 11 + 5, none⟩ = some (.int .i64 L[j].prev) ∧ w.cell? ⟨g, j * 11 + 6, none⟩ = some (.int .i64 L[j].cur) ∧ w.cell? ⟨g, j * 11 + 7, none⟩ = some (.int .i64 L[j].next) ∧ w.cell? ⟨g, j * 11 + 8, none⟩ = some (.int .i64 L[j].mark) ∧ w.cell? ⟨g, j * 11 + 9, none⟩ = some (.bool L[j].done) ∧ w.cell? ⟨g, j * 11 + 10, none⟩ = some (.int .i64 L[j].ans) := by
  have h0 := h
  rcases h.2 with ⟨rfl, hn⟩ | ⟨g, cap, cur, rfl, hb, hg, _⟩
  · omega
  · refine ⟨g, cap, rfl, hb, (Array.getElem?_eq_some_iff.1 hg).1, fun i => World.ownsRow.frozenAt h0 i, fun j hj => ?_⟩
    have := tkl_at L j hj
    rw [World.ownsRow.cellAt h0 (j * 11) (by omega), World.ownsRow.cellAt h0 (j * 11 + 1) (by omega), World.ownsRow.cellAt h0 (j * 11 + 2) (by omega), World.ownsRow.cellAt h0 (j * 11 + 3) (by omega), World.ownsRow.cellAt h0 (j * 11 + 4) (by omega), World.ownsRow.cellAt h0 (j * 11 + 5) (by omega), World.ownsRow.cellAt h0 (j * 11 + 6) (by omega), World.ownsRow.cellAt h0 (j * 11 + 7) (by omega), World.ownsRow.cellAt h0 (j * 11 + 8) (by omega), World.ownsRow.cellAt h0 (j * 11 + 9) (by omega), World.ownsRow.cellAt h0 (j * 11 + 10) (by omega)]
    rw [show j * 11 = 11 * j by omega]
    exact this
theorem apartVT {w : World} {b1 b2 : Nat} {v u : Value} {l : List Int} {L : List Tk} (h : OwnV w b1 3 v (ints l)) (k : OwnT w b2 43 u L) : ∀ j, v.ownBlock = some j → u.ownBlock ≠ some j := by
  intro j hj hu
  rcases h.2 with ⟨rfl, _⟩ | ⟨g, cap, cur, rfl, _, hg, _⟩
  · simp [Value.ownBlock] at hj
  · rcases k.2 with ⟨rfl, _⟩ | ⟨g', cap', cur', rfl, _, hg', _⟩
    · simp [Value.ownBlock] at hu
    · simp [Value.ownBlock] at hj hu
      subst hj
      subst hu
      have := hg.symm.trans hg'
      simp at this

/-- What stands while a list and a task are drawn. -/
structure Lm (w0 : World) (p : Nat) (ca : Option Addr) (n cap : Nat) (v : Value) (l : List Int) (u : Value) (L : List Tk) (wi : World) : Prop where
  left : Left w0 wi p ca n cap
  hp : p < w0.heap.size
  res : TBox wi w0.heap.size Tk.zero
  own : OwnV wi (w0.heap.size + 1) 3 v (ints l)
  tks : OwnT wi (w0.heap.size + 1) 43 u L
  good : Good l
theorem Lm.go {w0 : World} {p : Nat} {ca : Option Addr} {n cap : Nat} {v : Value} {l : List Int} {u : Value} {L : List Tk} {wi wj : World} (h : Lm w0 p ca n cap v l u L wi) (hl : Left wi wj p ca n cap) : Lm w0 p ca n cap v l u L wj :=
  have hp := h.hp
  ⟨h.left.trans hl, hp, h.res.kept (hl.2.2.block _ h.res.lt (by simp; omega)), h.own.grown hl.2.2 (fun q hq e => by have := (h.own.lt q hq).1; simp at e; omega), h.tks.grown hl.2.2 (fun q hq e => by have := (h.tks.lt q hq).1; simp at e; omega), h.good⟩
theorem Lm.next {w0 : World} {p : Nat} {ca : Option Addr} {n cap : Nat} {v : Value} {l : List Int} {u : Value} {L : List Tk} {wi wj : World} (h : Lm w0 p ca n cap v l u L wi) (hb : Below wi.heap.size wi wj) : Lm w0 p ca n cap v l u L wj :=
  ⟨h.left.below (hb.mono h.left.2.2.size) h.hp, h.hp, h.res.on hb, h.own.below hb (Nat.le_refl _), h.tks.below hb (Nat.le_refl _), h.good⟩
/-- Tasks of their own are others. -/
theorem Lm.turn {w0 : World} {p : Nat} {ca : Option Addr} {n cap : Nat} {v : Value} {l : List Int} {u u' : Value} {L M : List Tk} {wi wj : World} (h : Lm w0 p ca n cap v l u L wi) (hg : wi.grownBy wj u.ownBlock) (ho : OwnT wj (w0.heap.size + 1) 43 u' M) : Lm w0 p ca n cap v l u' M wj := by
  have hb : Below w0.heap.size wi wj := Below.grown (Below.refl _ _) hg h.left.2.2.size (fun k hk => by have := (h.tks.lt k hk).1; omega)
  refine ⟨h.left.below hb h.hp, h.hp, h.res.kept (hg.block _ h.res.lt (fun e => by have := (h.tks.lt _ e.symm).1; omega)), h.own.grown hg (fun k hk e => apartVT h.own h.tks k hk e), ho, h.good⟩

set_option maxRecDepth 100000 in
set_option maxHeartbeats 4000000 in
theorem l06Some_any (w : World) (p : Nat) (ca : Option Addr) (n cap : Nat) (hc : Cur w p ca n cap) (hcode : CodeAt w ca n p) (hn : n ≤ 1048576) :
    Calls Try.prog 103 #[.pointer (some ⟨p, 0, none⟩)] w fun e w' => ∃ (v : Value) (l : List Int) (t : Tk), e = .returned (.tuple #[v, .agg (tcs t)]) ∧ Good l ∧ OwnV w' w.heap.size 3 v (ints l) ∧ Left w w' p ca n cap := by
  have hp := hc.lt
  obtain ⟨w1, hw1⟩ : ∃ w1, w.alloc (.cells (tcs Tk.zero) 43) = w1 := ⟨_, rfl⟩
  have hl1 : Left w w1 p ca n cap := by rw [← hw1]; exact (Left.refl hc hcode).plus hp _
  have hR1 : TBox w1 w.heap.size Tk.zero := by rw [← hw1]; exact TBox.new _ _
  have hs1 : w1.heap.size = w.heap.size + 1 := by rw [← hw1]; simp
  have HW : Hid (w.alloc (.cells #[.int .i64 0, .int .i64 0, .int .i64 0, .int .i64 0, .int .i64 0, .int .i64 0, .int .i64 0, .int .i64 0, .int .i64 0, .bool false, .int .i64 0] 43) = w1) := hw1
  have c1 := specListNew_any w1
  clear hw1 hc hcode
  go_enter Try.func103, Try.ntmps103
  go_wp2_with fail
  rw [HW.out]
  refine c1.mono ?_
  rintro e w2 ⟨v2, rfl, ho2, hb2⟩
  have hbx : Below w2.heap.size w2 (w2.alloc (.cells #[] 43)) := (Below.refl _ _).alloc (Nat.le_refl _) _
  have hs2 : w.heap.size + 1 ≤ w2.heap.size := by rw [← hs1]; exact hb2.size
  have H0 : Lm w p ca n cap v2 newL (.slice (some ⟨w2.heap.size, 0, none⟩) 0 0) [] (w2.alloc (.cells #[] 43)) :=
    ⟨(hl1.below (hb2.mono hl1.2.2.size) hp).below (hbx.mono (by omega)) hp, hp, (hR1.on hb2).on hbx, by rw [← hs1]; exact ho2.below hbx (Nat.le_refl _), ⟨rfl, .inr ⟨w2.heap.size, 0, #[], rfl, hs2, heap_alloc_new _ _, Nat.le_refl _, by simp [maxLen], by simp, rfl⟩⟩, ⟨by decide, by decide⟩⟩
  clear c1 hl1 hR1 hs1 ho2 hb2 hbx hs2
  go_wp2
  go_loopw [5, 6] (fun u i wr => Box (∃ (k : Nat) (L : List Tk), k ≤ 4 ∧ i = .int .i64 k ∧ L.length ≤ k ∧ k ≤ L.length ∧ Lm w p ca n cap v2 newL u L wr))
    (fun _ i _ => 4 - (intOf i).toNat)
  case atStart => exact ⟨⟨0, [], by omega, rfl, by simp, by simp, H0⟩⟩
  case round =>
    obtain ⟨k, L, hk, rfl, hk1, hk2, H⟩ := hrel.out
    clear hrel H0
    by_cases hlt : k < 4
    · have c2 := l06Task_any wr p ca n cap ((k : Int) + 1) H.left.1 H.left.2.1 hn
      go_wp2_with fail
      refine c2.mono ?_
      rintro e w3 ⟨t, rfl, hl3⟩
      have H3 := H.go hl3
      have hws := Nat.lt_of_lt_of_le (Nat.lt_succ_self _) (Nat.succ_le_of_lt H3.res.lt)
      clear c2 H hl3
      unfold tcs
      go_wp2_with (at_builtin; refine wpList_snocT rfl (.tmp 17) (.tmp 22) 57 rfl (w.heap.size + 1) 43 Try.underlying57 Try.infoTask _ L rfl H3.tks t _ rfl rfl (by omega) (by omega) ?_; intro v' w4 hown' hgr')
      have H4 := (H3.next ((Below.refl _ _).alloc (Nat.le_refl _) _)).turn hgr' hown'
      go_roundw
      case rel =>
        try ((repeat apply Exists.intro); refine ⟨?_, rfl⟩)
        exact ⟨⟨k + 1, L ++ [t], by omega, by go_num, by simp; omega, by simp; omega, H4⟩⟩
      case measure => simp [intOf]; omega
    · have hk4 : k = 4 := by omega
      subst hk4
      obtain ⟨g, cu, hu, hgb, _, _, _⟩ := H.tks.opened (by omega)
      rw [show L.length = 4 by omega] at hu
      subst hu
      have H4 : Hid (L.length = 4) := by show _ = _; omega
      have hgw : Hid (w.heap.size + 1 ≤ g) := hgb
      clear hk1 hk2 hgb
      go_wp2
      go_loopw [4, 7] (fun v i wr => Box (∃ (k : Nat) (l : List Int) (L : List Tk), k ≤ 40 ∧ i = .int .i64 k ∧ Hid (L.length = 4) ∧ Lm w p ca n cap v l (.slice (some ⟨g, 0, none⟩) 4 cu) L wr))
        (fun _ i _ => 40 - (intOf i).toNat)
      case atStart => exact ⟨⟨0, newL, L, by omega, rfl, H4, H⟩⟩
      case round =>
        obtain ⟨k, l, L, hk, rfl, H4, H⟩ := hrel.out
        clear hrel
        have c3 := below_any wr p ca n cap 40 H.left.1 H.left.2.1 hn (by omega) (by omega)
        go_wp2_with fail
        refine c3.mono ?_
        rintro e w3 ⟨x, hx, _, rfl, hl3⟩
        have hx2 := hx (by omega)
        have H3 := H.go hl3
        clear c3 H hx hl3
        by_cases hlt2 : (k : Int) < (x : Int)
        · have c4 := below_any w3 p ca n cap 4 H3.left.1 H3.left.2.1 hn (by omega) (by omega)
          go_wp2_with fail
          refine c4.mono ?_
          rintro e w5 ⟨j, hj, _, rfl, hl5⟩
          have hj2 := hj (by omega)
          have hj4 : j < 4 := by omega
          have hjL : j < L.length := by rw [H4.out]; exact hj4
          have H5 := H3.go hl5
          clear c4 H3 hj hl5
          obtain ⟨g2, cu2, hu2, _, hgs, hfz, hcl⟩ := H5.tks.opened (by rw [H4.out]; omega)
          rw [H4.out] at hu2
          simp only [Value.slice.injEq, Option.some.injEq, Addr.mk.injEq, and_true, true_and] at hu2
          obtain ⟨rfl, rfl⟩ := hu2
          obtain ⟨b0, b1, b2, b3, b4, b5, b6, b7, b8, b9, b10⟩ := hcl j hjL
          obtain ⟨t, ht⟩ : ∃ t, L[j] = t := ⟨_, rfl⟩
          rw [ht] at b0 b1 b2 b3 b4 b5 b6 b7 b8 b9 b10
          obtain ⟨av, cv, hv, hI⟩ := H5.own.ints
          have hll := H5.good.1
          have c6 := specStep_any w5 av cv l t hI (by omega)
          obtain ⟨l', s, hls⟩ : ∃ l' s, stepL l t = (l', s) := ⟨_, _, rfl⟩
          have hgd := good_step H5.good t
          rw [hls] at c6 hgd
          unfold tcs at c6
          dsimp only at c6 hgd
          have hi1 : (0 : Int) ≤ (j : Int) := by omega
          have hi2 : (j : Int) < 4 := by omega
          subst hv
          have HH : Hid (Lm w p ca n cap (.slice av l.length cv) l (.slice (some ⟨g, 0, none⟩) 4 cu) L w5) := H5
          clear hcl hfz ht hI hls H5 hll hgs
          go_wp2_with fail
          refine c6.mono ?_
          rintro e w6 ⟨v6, rfl, ho6, hb6⟩
          have H6 := HH.out.next hb6
          have hsz : w.heap.size + 1 ≤ w5.heap.size := HH.out.res.lt
          have H7 : Lm w p ca n cap v6 l' (.slice (some ⟨g, 0, none⟩) 4 cu) L w6 := ⟨H6.left, H6.hp, H6.res, ho6.mono hsz, H6.tks, hgd⟩
          obtain ⟨g3, cu3, hu3, _, _, hfz, hcl⟩ := H7.tks.opened (by rw [H4.out]; omega)
          rw [H4.out] at hu3
          simp only [Value.slice.injEq, Option.some.injEq, Addr.mk.injEq, and_true, true_and] at hu3
          obtain ⟨rfl, rfl⟩ := hu3
          obtain ⟨d0, d1, d2, d3, d4, d5, d6, d7, d8, d9, d10⟩ := hcl j hjL
          have z0 := hfz (j * 11)
          have z1 := hfz (j * 11 + 1)
          have z2 := hfz (j * 11 + 2)
          have z3 := hfz (j * 11 + 3)
          have z4 := hfz (j * 11 + 4)
          have z5 := hfz (j * 11 + 5)
          have z6 := hfz (j * 11 + 6)
          have z7 := hfz (j * 11 + 7)
          have z8 := hfz (j * 11 + 8)
          have z9 := hfz (j * 11 + 9)
          have z10 := hfz (j * 11 + 10)
          have hst := H7.tks.stored H4.out.symm j s
          have H8 : Hid (Lm w p ca n cap v6 l' (.slice (some ⟨g, 0, none⟩) 4 cu) (L.set j s) _) := H7.turn (u' := .slice (some ⟨g, 0, none⟩) 4 cu) hst.2 hst.1
          have HL8 : Hid ((L.set j s).length = 4) := by show _ = _; rw [List.length_set]; exact H4.out
          clear hst H7 H6 HH ho6 hb6 hcl hfz b0 b1 b2 b3 b4 b5 b6 b7 b8 b9 b10 c6 hgd
          go_wp2
          go_roundw
          case rel =>
            try ((repeat apply Exists.intro); refine ⟨?_, rfl⟩)
            exact ⟨⟨k + 1, l', L.set j s, by omega, by go_num, HL8, H8.out⟩⟩
          case measure => simp [intOf]; omega
        · go_wp2_with fail
          have c4 := below_any w3 p ca n cap 4 H3.left.1 H3.left.2.1 hn (by omega) (by omega)
          refine c4.mono ?_
          rintro e w5 ⟨kk, hkk, _, rfl, hl5⟩
          have hkk2 := hkk (by omega)
          have HZ : Hid (Lm w p ca n cap u4 l (.slice (some ⟨g, 0, none⟩) 4 cu) L w5) := H3.go hl5
          clear c4 H3 hkk hl5
          go_wp2
          go_loopw [10] (fun i wr => Box (∃ (i0 : Nat), i0 ≤ 4 ∧ i = .int .i64 i0 ∧ w5 = wr))
            (fun i _ => 4 - (intOf i).toNat)
          case atStart => exact ⟨⟨0, by omega, rfl, rfl⟩⟩
          case round =>
            obtain ⟨i0, hi0, rfl, rfl⟩ := hrel.out
            clear hrel
            by_cases hlt3 : i0 < 4
            · obtain ⟨j, hj4, hjm, hjt, hjw⟩ : ∃ j : Nat, j < 4 ∧ ((kk : Int) + (i0 : Int)) % 4 = (j : Int) ∧ ((kk : Int) + (i0 : Int)).tmod 4 = (j : Int) ∧ IntKind.i64.wrap ((kk : Int) + (i0 : Int)) = (kk : Int) + (i0 : Int) := ⟨(kk + i0) % 4, by omega, by omega, by rw [Int.tmod_eq_emod_of_nonneg (by omega)]; omega, by rw [IntKind.wrap_i64]; omega⟩
              have hi1 : (0 : Int) ≤ (j : Int) := by omega
              have hi2 : (j : Int) < 4 := by omega
              obtain ⟨g3, cu3, hu3, _, _, _, hcl⟩ := HZ.out.tks.opened (by rw [H4.out]; omega)
              rw [H4.out] at hu3
              simp only [Value.slice.injEq, Option.some.injEq, Addr.mk.injEq, and_true, true_and] at hu3
              obtain ⟨rfl, rfl⟩ := hu3
              obtain ⟨b0, b1, b2, b3, b4, b5, b6, b7, b8, b9, b10⟩ := hcl j (by rw [H4.out]; omega)
              obtain ⟨t0, ht0⟩ : ∃ t0, L[j]'(by rw [H4.out]; omega) = t0 := ⟨_, rfl⟩
              rw [ht0] at b0 b1 b2 b3 b4 b5 b6 b7 b8 b9 b10
              clear hcl
              by_cases hdn : t0.done = true
              · rw [hdn] at b9
                clear ht0
                go_wp2
                go_roundw
                case rel =>
                  try ((repeat apply Exists.intro); refine ⟨?_, rfl⟩)
                  exact ⟨⟨i0 + 1, by omega, by go_num, by first | rfl | trivial⟩⟩
                case measure => simp [intOf]; omega
              · have hdn' : t0.done = false := by simpa using hdn
                rw [hdn'] at b9
                go_wp2
                clear b0 b1 b2 b3 b4 b5 b6 b7 b8 b9 b10 ht0 hdn hdn'
                obtain ⟨g3, cu3, hu3, _, _, _, hcl⟩ := HZ.out.tks.opened (by rw [H4.out]; omega)
                rw [H4.out] at hu3
                simp only [Value.slice.injEq, Option.some.injEq, Addr.mk.injEq, and_true, true_and] at hu3
                obtain ⟨rfl, rfl⟩ := hu3
                obtain ⟨b0, b1, b2, b3, b4, b5, b6, b7, b8, b9, b10⟩ := hcl j (by rw [H4.out]; omega)
                obtain ⟨t, ht⟩ : ∃ t, L[j]'(by rw [H4.out]; omega) = t := ⟨_, rfl⟩
                rw [ht] at b0 b1 b2 b3 b4 b5 b6 b7 b8 b9 b10
                obtain ⟨r0, r1, r2, r3, r4, r5, r6, r7, r8, r9, r10⟩ := HZ.out.res.cells
                dsimp only [Tk.zero] at r0 r1 r2 r3 r4 r5 r6 r7 r8 r9 r10
                have z0 := HZ.out.res.thaw 0
                have z1 := HZ.out.res.thaw 1
                have z2 := HZ.out.res.thaw 2
                have z3 := HZ.out.res.thaw 3
                have z4 := HZ.out.res.thaw 4
                have z5 := HZ.out.res.thaw 5
                have z6 := HZ.out.res.thaw 6
                have z7 := HZ.out.res.thaw 7
                have z8 := HZ.out.res.thaw 8
                have z9 := HZ.out.res.thaw 9
                have z10 := HZ.out.res.thaw 10
                clear hcl ht
                go_wp2
                go_still_tail 9, (by kernel_rfl)
                go_wp2
                have hR := HZ.out.res
                have hbd : ∀ x : World, Below x.heap.size x x.drew := fun x => ⟨rfl, rfl, rfl, Nat.le_refl _, fun _ _ => rfl⟩
                clear b0 b1 b2 b3 b4 b5 b6 b7 b8 b9 b10 r0 r1 r2 r3 r4 r5 r6 r7 r8 r9 r10 z0 z1 z2 z3 z4 z5 z6 z7 z8 z9 z10
                obtain ⟨s0, s1, s2, s3, s4, s5, s6, s7, s8, s9, s10⟩ := ((put11_box hR t).on (hbd _)).cells
                unfold put11 at s0 s1 s2 s3 s4 s5 s6 s7 s8 s9 s10
                have HF : Hid (OwnV (put11 w5 w.heap.size t).drew w.heap.size 3 u4 (ints l) ∧ Left w (put11 w5 w.heap.size t).drew p ca n cap) := by
                  refine ⟨((HZ.out.own.kept fun k hk => put11_other _ _ _ (by have := (HZ.out.own.lt k hk).1; omega)).below (hbd _) (Nat.le_refl _)).mono (by omega), ?_⟩
                  have h1 := HZ.out.left.below (put11_below (Below.refl _ _) (Nat.le_refl _) t) hp
                  exact h1.below ((hbd _).mono h1.2.2.size) hp
                unfold put11 at HF
                refine bodyPost_ret (v := .tuple #[u4, .agg #[.int .i64 t.kind, .int .i64 t.key, .int .i64 t.val, .int .i64 t.node, .int .i64 t.pc, .int .i64 t.prev, .int .i64 t.cur, .int .i64 t.next, .int .i64 t.mark, .bool t.done, .int .i64 t.ans]]) (by simp [results, Try.results103, go_sem, s0, s1, s2, s3, s4, s5, s6, s7, s8, s9, s10]) rfl ⟨u4, l, t, rfl, HZ.out.good, HF.out.1, HF.out.2⟩
            · have hi0' : i0 = 4 := by omega
              subst hi0'
              have hi1 : (0 : Int) ≤ (kk : Int) := by omega
              have hi2 : (kk : Int) < 4 := by omega
              obtain ⟨g3, cu3, hu3, _, _, _, hcl⟩ := HZ.out.tks.opened (by rw [H4.out]; omega)
              rw [H4.out] at hu3
              simp only [Value.slice.injEq, Option.some.injEq, Addr.mk.injEq, and_true, true_and] at hu3
              obtain ⟨rfl, rfl⟩ := hu3
              obtain ⟨b0, b1, b2, b3, b4, b5, b6, b7, b8, b9, b10⟩ := hcl kk (by rw [H4.out]; omega)
              obtain ⟨t, ht⟩ : ∃ t, L[kk]'(by rw [H4.out]; omega) = t := ⟨_, rfl⟩
              rw [ht] at b0 b1 b2 b3 b4 b5 b6 b7 b8 b9 b10
              obtain ⟨r0, r1, r2, r3, r4, r5, r6, r7, r8, r9, r10⟩ := HZ.out.res.cells
              dsimp only [Tk.zero] at r0 r1 r2 r3 r4 r5 r6 r7 r8 r9 r10
              have z0 := HZ.out.res.thaw 0
              have z1 := HZ.out.res.thaw 1
              have z2 := HZ.out.res.thaw 2
              have z3 := HZ.out.res.thaw 3
              have z4 := HZ.out.res.thaw 4
              have z5 := HZ.out.res.thaw 5
              have z6 := HZ.out.res.thaw 6
              have z7 := HZ.out.res.thaw 7
              have z8 := HZ.out.res.thaw 8
              have z9 := HZ.out.res.thaw 9
              have z10 := HZ.out.res.thaw 10
              clear hcl ht
              go_wp2
              go_still_tail 6, (by kernel_rfl)
              go_wp2
              have hR := HZ.out.res
              have hbd : ∀ x : World, Below x.heap.size x x.drew := fun x => ⟨rfl, rfl, rfl, Nat.le_refl _, fun _ _ => rfl⟩
              clear b0 b1 b2 b3 b4 b5 b6 b7 b8 b9 b10 r0 r1 r2 r3 r4 r5 r6 r7 r8 r9 r10 z0 z1 z2 z3 z4 z5 z6 z7 z8 z9 z10
              obtain ⟨s0, s1, s2, s3, s4, s5, s6, s7, s8, s9, s10⟩ := ((put11_box hR t).on (hbd _)).cells
              unfold put11 at s0 s1 s2 s3 s4 s5 s6 s7 s8 s9 s10
              have HF : Hid (OwnV (put11 w5 w.heap.size t).drew w.heap.size 3 u4 (ints l) ∧ Left w (put11 w5 w.heap.size t).drew p ca n cap) := by
                refine ⟨((HZ.out.own.kept fun k hk => put11_other _ _ _ (by have := (HZ.out.own.lt k hk).1; omega)).below (hbd _) (Nat.le_refl _)).mono (by omega), ?_⟩
                have h1 := HZ.out.left.below (put11_below (Below.refl _ _) (Nat.le_refl _) t) hp
                exact h1.below ((hbd _).mono h1.2.2.size) hp
              unfold put11 at HF
              refine bodyPost_ret (v := .tuple #[u4, .agg #[.int .i64 t.kind, .int .i64 t.key, .int .i64 t.val, .int .i64 t.node, .int .i64 t.pc, .int .i64 t.prev, .int .i64 t.cur, .int .i64 t.next, .int .i64 t.mark, .bool t.done, .int .i64 t.ans]]) (by simp [results, Try.results103, go_sem, s0, s1, s2, s3, s4, s5, s6, s7, s8, s9, s10]) rfl ⟨u4, l, t, rfl, HZ.out.good, HF.out.1, HF.out.2⟩
end Go.Proofs.Ytockgojdmaladab
