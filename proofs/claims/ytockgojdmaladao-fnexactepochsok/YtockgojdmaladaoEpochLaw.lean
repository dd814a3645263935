/- What a law does with epochs: it copies them, compares them, marks them. -/
import Derived.Test.YtockgojdmaladaoEpochMore
import Derived.Test.YtockgojdmaladaoGoneMark
import Derived.Test.YtockgojdmaladaoMarkInts
import Derived.Test.YtockgojdmaladaoTouch
namespace Go.Proofs.Ytockgojdmaladao
open Go.RowKit Go.Sort

theorem OwnP.tch {S : Nat → Prop} {w w' : World} {base : Nat} {e : TypeId} {v : Value} {L : List (Int × Int)} (h : OwnP w base e v L) (ht : Tch S w w') (hn : ∀ k, v.ownBlock = some k → ¬ S k) : OwnP w' base e v L := h.kept fun k hk => ht.2 k (h.lt k hk).2 (hn k hk)
def eblk (v1 v2 : Value) (k : Nat) : Prop := v1.ownBlock = some k ∨ v2.ownBlock = some k
/-- Epochs in a variable T of a law: rows from lo on, below T. -/
structure EV (w : World) (lo T : Nat) (a1 : Option Addr) (c1 : Nat) (a2 : Option Addr) (c2 : Nat) (E : Ep) : Prop where
  le : lo ≤ T
  box : EBox w T (.int .i64 E.now) (.slice a1 E.pins.length c1) (.slice a2 E.gone.length c2)
  own : EOwn w lo (.agg #[.int .i64 E.now, .slice a1 E.pins.length c1, .slice a2 E.gone.length c2]) E
  lt : ∀ k, eblk (.slice a1 E.pins.length c1) (.slice a2 E.gone.length c2) k → lo ≤ k ∧ k < T
theorem EOwn.parts' {w : World} {base : Nat} {a v1 v2 : Value} {E : Ep} (h : EOwn w base (.agg #[a, v1, v2]) E) : OwnV w base 3 v1 (ints E.pins) ∧ OwnP w base 96 v2 E.gone := by
  obtain ⟨now, pins, gone⟩ := E
  exact h.parts
theorem EOwn.mk' {w : World} {base : Nat} {v1 v2 : Value} {E : Ep} (h1 : OwnV w base 3 v1 (ints E.pins)) (h2 : OwnP w base 96 v2 E.gone) : EOwn w base (.agg #[.int .i64 E.now, v1, v2]) E := ⟨v1, v2, rfl, h1, h2, ownVP_ne h1 h2⟩
theorem EV.new {w : World} {lo : Nat} {a1 a2 : Option Addr} {c1 c2 : Nat} {E : Ep} (h : EOwn w lo (.agg #[.int .i64 E.now, .slice a1 E.pins.length c1, .slice a2 E.gone.length c2]) E) (hlo : lo ≤ w.heap.size) :
    EV (w.alloc (.cells #[.int .i64 E.now, .slice a1 E.pins.length c1, .slice a2 E.gone.length c2] 45)) lo w.heap.size a1 c1 a2 c2 E := by
  have hb : Below w.heap.size w (w.alloc (.cells #[.int .i64 E.now, .slice a1 E.pins.length c1, .slice a2 E.gone.length c2] 45)) := (Below.refl _ _).alloc (Nat.le_refl _) _
  obtain ⟨h1, h2⟩ := h.parts'
  refine ⟨hlo, EBox.new _ _ _ _, h.below hb (Nat.le_refl _), fun k hk => ?_⟩
  rcases hk with hk | hk
  · exact h1.lt k hk
  · exact h2.lt k hk
theorem EV.on {w w' : World} {lo T : Nat} {a1 a2 : Option Addr} {c1 c2 : Nat} {E : Ep} (h : EV w lo T a1 c1 a2 c2 E) (hb : Below w.heap.size w w') : EV w' lo T a1 c1 a2 c2 E := ⟨h.le, h.box.on hb, h.own.below hb (Nat.le_refl _), h.lt⟩
theorem EV.at {w : World} {lo T : Nat} {a1 a2 : Option Addr} {c1 c2 : Nat} {E : Ep} (h : EV w lo T a1 c1 a2 c2 E) : EAt w a1 a2 E w.heap.size := by
  obtain ⟨p, q, r, s, hv, hA⟩ := h.own.at
  simp only [Value.agg.injEq, Array.mk.injEq, List.cons.injEq, and_true, Value.slice.injEq, true_and] at hv
  obtain ⟨⟨rfl, rfl⟩, rfl, rfl⟩ := hv
  exact hA
/-- Another variable's rows are others. -/
theorem EV.tch {S : Nat → Prop} {w w' : World} {lo T : Nat} {a1 a2 : Option Addr} {c1 c2 : Nat} {E : Ep} (h : EV w lo T a1 c1 a2 c2 E) (ht : Tch S w w') (hn : ∀ k, S k → k < lo ∨ T < k) : EV w' lo T a1 c1 a2 c2 E := by
  obtain ⟨h1, h2⟩ := h.own.parts'
  have hs : ∀ k, eblk (.slice a1 E.pins.length c1) (.slice a2 E.gone.length c2) k → ¬ S k := fun k hk e => by
    have := h.lt k hk
    have := hn k e
    omega
  have hlo := h.le
  refine ⟨h.le, h.box.kept (ht.2 T h.box.lt (fun e => ?_)), EOwn.mk' (h1.tch ht fun k hk => hs k (.inl hk)) (h2.tch ht fun k hk => hs k (.inr hk)), h.lt⟩
  have := hn T e
  omega

/-- Epochs of a law, in its variable. -/
def WBox (w : World) (T : Nat) (a b c : Value) : Prop := w.heap[T]? = some (.cells #[a, b, c] 52 (0, 0))
theorem WBox.lt {w : World} {T : Nat} {a b c : Value} (h : WBox w T a b c) : T < w.heap.size := (Array.getElem?_eq_some_iff.1 h).1
theorem WBox.new (w : World) (a b c : Value) : WBox (w.alloc (.cells #[a, b, c] 52)) w.heap.size a b c := heap_alloc_new w _
theorem WBox.on {w w' : World} {T : Nat} {a b c : Value} (h : WBox w T a b c) (hb : Below w.heap.size w w') : WBox w' T a b c := (hb.block T h.lt).trans h
theorem WBox.cells {w : World} {T : Nat} {a b c : Value} (h : WBox w T a b c) : w.cell? ⟨T, 0, none⟩ = some a ∧ w.cell? ⟨T, 1, none⟩ = some b ∧ w.cell? ⟨T, 2, none⟩ = some c := by
  unfold WBox at h
  refine ⟨?_, ?_, ?_⟩
  · rw [cell_of_row w T 0 _ _ (0, 0) h]; rfl
  · rw [cell_of_row w T 1 _ _ (0, 0) h]; rfl
  · rw [cell_of_row w T 2 _ _ (0, 0) h]; rfl

theorem szIntS_any (w : World) (a : Option Addr) (cap n : Nat) (left : Int) (h0 : 0 ≤ left) (h1 : left ≤ 1048576) (hm : n ≤ maxLen) :
    Calls Try.prog 60 #[.slice a n cap, .int .i64 left] w fun e w' => ∃ r : Int, e = .returned (.int .i64 r) ∧ (r = -1 ∨ 0 ≤ r ∧ r + (n : Int) = left) ∧ w' = w := by
  unfold maxLen at hm
  by_cases hA : left - n < 0
  · go_enter Try.func60, Try.ntmps60
    go_wp2
    go_ret
    exact ⟨_, rfl, .inl rfl, rfl⟩
  · go_enter Try.func60, Try.ntmps60
    go_wp2
    go_ret
    exact ⟨_, rfl, .inr ⟨by omega, by omega⟩, rfl⟩
set_option maxHeartbeats 1000000 in
theorem szEpochs_any (w : World) (pa ga : Option Addr) (pc gc n m : Nat) (now : Int) (hn : n ≤ maxLen) (hm : m ≤ maxLen) :
    Calls Try.prog 30 #[.agg #[.int .i64 now, .slice pa n pc, .slice ga m gc], .int .i64 1048576] w fun e w' => ∃ r : Int, e = .returned (.int .i64 r) ∧ (r = -1 ∨ 0 ≤ r ∧ r + (n : Int) + (m : Int) = 1048576) ∧ Below w.heap.size w w' := by
  obtain ⟨w1, hw1⟩ : ∃ x, w.alloc (.cells #[.int .i64 now, .slice pa n pc, .slice ga m gc] 52) = x := ⟨_, rfl⟩
  have hb1 : Below w.heap.size w w1 := by rw [← hw1]; exact (Below.refl _ _).alloc (Nat.le_refl _) _
  have hB : WBox w1 w.heap.size (.int .i64 now) (.slice pa n pc) (.slice ga m gc) := by rw [← hw1]; exact WBox.new _ _ _ _
  obtain ⟨b0, b1, b2⟩ := hB.cells
  have c1 := szIntS_any w1 pa pc n 1048576 (by omega) (by omega) hn
  have HW : Hid (w.alloc (.cells #[.int .i64 now, .slice pa n pc, .slice ga m gc] 52) = w1) := hw1
  rw [← hw1] at b0 b1 b2
  clear hw1 hB
  go_enter Try.func30, Try.ntmps30
  go_wp2_with fail
  rw [HW.out] at b0 b1 b2 ⊢
  refine c1.mono ?_
  rintro e w2 ⟨r, rfl, hr, rfl⟩
  clear c1
  rcases hr with rfl | ⟨hr0, hr1⟩
  · go_wp2_with fail
    go_ret
    exact ⟨_, rfl, .inl rfl, hb1⟩
  · have hr2 : ¬ r < 0 := by omega
    have c2 := szGoneS_any w2 ga gc m r hr0 (by omega) hm
    have HR : Hid (r + (n : Int) = 1048576) := hr1
    clear hr1
    go_wp2_with fail
    refine c2.mono ?_
    rintro e w3 ⟨q, rfl, hq, rfl⟩
    rcases hq with rfl | ⟨hq0, hq1⟩
    · go_wp2_with fail
      go_ret
      exact ⟨_, rfl, .inl rfl, hb1⟩
    · have hq2 : ¬ q < 0 := by omega
      have HQ : Hid (q + (m : Int) = r) := hq1
      clear hq1
      go_wp2_with fail
      go_ret
      exact ⟨_, rfl, .inr ⟨hq0, by have := HR.out; have := HQ.out; omega⟩, hb1⟩
set_option maxHeartbeats 1000000 in
theorem eqEpochs_same (w : World) (a1 a2 b1 b2 : Option Addr) (c1 c2 d1 d2 : Nat) (E : Ep) (hA : EAt w a1 a2 E w.heap.size) (hB : EAt w b1 b2 E w.heap.size) (hm : E.pins.length ≤ 1048576) (hm' : E.gone.length ≤ 1048577) :
    Calls Try.prog 27 #[.agg #[.int .i64 E.now, .slice a1 E.pins.length c1, .slice a2 E.gone.length c2], .agg #[.int .i64 E.now, .slice b1 E.pins.length d1, .slice b2 E.gone.length d2]] w fun e w' => e = .returned (.bool true) ∧ Below w.heap.size w w' := by
  obtain ⟨now, pins, gone⟩ := E
  dsimp only at *
  obtain ⟨w0, hw0⟩ : ∃ x, w.alloc (.cells #[.int .i64 now, .slice a1 pins.length c1, .slice a2 gone.length c2] 45) = x := ⟨_, rfl⟩
  obtain ⟨w1, hw1⟩ : ∃ x, w0.alloc (.cells #[.int .i64 now, .slice b1 pins.length d1, .slice b2 gone.length d2] 45) = x := ⟨_, rfl⟩
  have hb0 : Below w.heap.size w w0 := by rw [← hw0]; exact (Below.refl _ _).alloc (Nat.le_refl _) _
  have hb1 : Below w0.heap.size w0 w1 := by rw [← hw1]; exact (Below.refl _ _).alloc (Nat.le_refl _) _
  have s0 : w0.heap.size = w.heap.size + 1 := by rw [← hw0]; simp
  have hX : EBox w1 w.heap.size (.int .i64 now) (.slice a1 pins.length c1) (.slice a2 gone.length c2) := by
    have h : EBox w0 w.heap.size (.int .i64 now) (.slice a1 pins.length c1) (.slice a2 gone.length c2) := by rw [← hw0]; exact EBox.new _ _ _ _
    exact h.on hb1
  have hY : EBox w1 (w.heap.size + 1) (.int .i64 now) (.slice b1 pins.length d1) (.slice b2 gone.length d2) := by rw [← hw1, ← s0]; exact EBox.new _ _ _ _
  have hbw : Below w.heap.size w w1 := hb0.trans (hb1.mono hb0.size)
  obtain ⟨x0, x1, x2⟩ := hX.cells
  obtain ⟨y0, y1, y2⟩ := hY.cells
  have HW : Hid ((w.alloc (.cells #[.int .i64 now, .slice a1 pins.length c1, .slice a2 gone.length c2] 45)).alloc (.cells #[.int .i64 now, .slice b1 pins.length d1, .slice b2 gone.length d2] 45) = w1) := by rw [hw0]; exact hw1
  have e1 := eqIntS_same w1 a1 b1 c1 d1 pins (hA.1.on hbw) (hB.1.on hbw) hm
  rw [← hw1, ← hw0] at x0 x1 x2 y0 y1 y2
  have hnn : (now != now) = false := by simp
  clear hw0 hw1 s0 hb0 hb1
  go_enter Try.func27, Try.ntmps27
  go_wp2_with fail
  rw [HW.out] at x0 x1 x2 y0 y1 y2 ⊢
  refine e1.mono ?_
  rintro e w2 ⟨rfl, hb2⟩
  clear e1 x0 x1 x2 y0 y1 y2
  have hbw2 := hbw.trans (hb2.mono hbw.size)
  obtain ⟨x0, x1, x2⟩ := (hX.on hb2).cells
  obtain ⟨y0, y1, y2⟩ := (hY.on hb2).cells
  have e2 := eqGoneS_same w2 a2 b2 c2 d2 gone (hA.2.on hbw2) (hB.2.on hbw2) hm'
  go_wp2_with fail
  refine e2.mono ?_
  rintro e w3 ⟨rfl, hb3⟩
  go_wp2_with fail
  go_ret
  exact ⟨rfl, hbw2.trans (hb3.mono hbw2.size)⟩
set_option maxHeartbeats 2000000 in
theorem toEpochs_any (w : World) (pa ga : Option Addr) (pc gc : Nat) (E : Ep) (hE : EAt w pa ga E w.heap.size) (hm : E.pins.length ≤ 1048576) (hm' : E.gone.length ≤ 1048576) :
    Calls Try.prog 32 #[.agg #[.int .i64 E.now, .slice pa E.pins.length pc, .slice ga E.gone.length gc]] w fun e w' => ∃ v, e = .returned v ∧ EOwn w' w.heap.size v E ∧ Below w.heap.size w w' := by
  obtain ⟨now, pins, gone⟩ := E
  dsimp only at *
  obtain ⟨w0, hw0⟩ : ∃ x, w.alloc (.cells #[.int .i64 now, .slice pa pins.length pc, .slice ga gone.length gc] 52) = x := ⟨_, rfl⟩
  obtain ⟨w1, hw1⟩ : ∃ x, w0.alloc (.cells #[.int .i64 0, .slice none 0 0, .slice none 0 0] 45) = x := ⟨_, rfl⟩
  obtain ⟨w2, hw2⟩ : ∃ x, w1.alloc (.cells #[.int .i64 now, .slice none 0 0, .slice none 0 0] 45) = x := ⟨_, rfl⟩
  have hb0 : Below w.heap.size w w0 := by rw [← hw0]; exact (Below.refl _ _).alloc (Nat.le_refl _) _
  have hb1 : Below w0.heap.size w0 w1 := by rw [← hw1]; exact (Below.refl _ _).alloc (Nat.le_refl _) _
  have hb2 : Below w1.heap.size w1 w2 := by rw [← hw2]; exact (Below.refl _ _).alloc (Nat.le_refl _) _
  have s0 : w0.heap.size = w.heap.size + 1 := by rw [← hw0]; simp
  have s1 : w1.heap.size = w.heap.size + 2 := by rw [← hw1]; simp; omega
  have s2 : w2.heap.size = w.heap.size + 3 := by rw [← hw2]; simp; omega
  have hb12 : Below w0.heap.size w0 w2 := hb1.trans (hb2.mono hb1.size)
  have hbw : Below w.heap.size w w2 := hb0.trans (hb12.mono hb0.size)
  have hB : WBox w2 w.heap.size (.int .i64 now) (.slice pa pins.length pc) (.slice ga gone.length gc) := by
    have h : WBox w0 w.heap.size (.int .i64 now) (.slice pa pins.length pc) (.slice ga gone.length gc) := by rw [← hw0]; exact WBox.new _ _ _ _
    exact h.on hb12
  have hR : EBox w2 (w.heap.size + 1) (.int .i64 0) (.slice none 0 0) (.slice none 0 0) := by
    have h : EBox w1 (w.heap.size + 1) (.int .i64 0) (.slice none 0 0) (.slice none 0 0) := by rw [← hw1, ← s0]; exact EBox.new _ _ _ _
    exact h.on hb2
  have hT : EBox w2 (w.heap.size + 2) (.int .i64 now) (.slice none 0 0) (.slice none 0 0) := by rw [← hw2, ← s1]; exact EBox.new _ _ _ _
  have HW : Hid (((w.alloc (.cells #[.int .i64 now, .slice pa pins.length pc, .slice ga gone.length gc] 52)).alloc (.cells #[.int .i64 0, .slice none 0 0, .slice none 0 0] 45)).alloc (.cells #[.int .i64 now, .slice none 0 0, .slice none 0 0] 45) = w2) := by rw [hw0, hw1]; exact hw2
  obtain ⟨b0, b1, b2⟩ := hB.cells
  have c1 := toIntS_any w2 pa pc pins (hE.1.on hbw) hm
  rw [← hw2, ← hw1, ← hw0] at b0 b1 b2
  have HS2 : Hid (w2.heap.size = w.heap.size + 3) := s2
  clear hw0 hw1 hw2 s0 s1 s2 hb0 hb1 hb2 hb12
  go_enter Try.func32, Try.ntmps32
  go_wp2_with fail
  rw [HW.out] at b0 b1 b2 ⊢
  refine c1.mono ?_
  rintro e w3 ⟨v3, rfl, ho3, hb3⟩
  obtain ⟨a3, k3, rfl, _⟩ := ho3.ints
  have hT3 := hT.on hb3
  have hB3 := hB.on hb3
  have hbw3 := hbw.trans (hb3.mono hbw.size)
  obtain ⟨w4, hw4⟩ : ∃ x, w3.setCell ⟨w.heap.size + 2, 1, none⟩ (.slice a3 pins.length k3) = x := ⟨_, rfl⟩
  have hT4 : EBox w4 (w.heap.size + 2) (.int .i64 now) (.slice a3 pins.length k3) (.slice none 0 0) := by rw [← hw4]; exact hT3.set1 _
  have ho4 : OwnV w4 w2.heap.size 3 (.slice a3 pins.length k3) (ints pins) := by rw [← hw4]; exact ho3.far hT3 1 _
  have hR4 : EBox w4 (w.heap.size + 1) (.int .i64 0) (.slice none 0 0) (.slice none 0 0) := by rw [← hw4]; exact (hR.on hb3).far 1 _ (by omega)
  have hbw4 : Below w.heap.size w w4 := by rw [← hw4]; exact hbw3.setCell (show w.heap.size ≤ w.heap.size + 2 by omega) _
  have hB4 : WBox w4 w.heap.size (.int .i64 now) (.slice pa pins.length pc) (.slice ga gone.length gc) := by rw [← hw4]; exact (Below.heap_setCell _ _ _ _ (show w.heap.size ≠ w.heap.size + 2 by omega)).trans hB3
  obtain ⟨b0', b1', b2'⟩ := hB4.cells
  have x1 := hT3.cells.2.1
  have xf := hT3.thaw 1
  have hsz4 : w2.heap.size ≤ w4.heap.size := by rw [← hw4]; simpa using hb3.size
  have c2 := toGoneS_any w4 ga gc gone (hE.2.on hbw4) hm'
  have HW4 : Hid (w3.setCell ⟨w.heap.size + 2, 1, none⟩ (.slice a3 pins.length k3) = w4) := hw4
  rw [← hw4] at b0' b1' b2'
  clear c1 b0 b1 b2 hw4 hB3 hB hT hR
  go_wp2_with fail
  rw [HW4.out] at b0' b1' b2' ⊢
  refine c2.mono ?_
  rintro e w5 ⟨v5, rfl, ho5, hb5⟩
  obtain ⟨a5, k5, rfl, _⟩ := ho5.at
  have hT5 := hT4.on hb5
  have hR5 := hR4.on hb5
  have ho4' := ho4.below hb5 (Nat.le_refl _)
  have x2 := hT5.cells.2.2
  have xf2 := hT5.thaw 2
  have hbw5 := hbw4.trans (hb5.mono hbw4.size)
  obtain ⟨y0, y1, y2⟩ := (hT5.set2 (.slice a5 gone.length k5)).cells
  have hR6 := hR5.far 2 (.slice a5 gone.length k5) (show w.heap.size + 1 ≠ w.heap.size + 2 by omega)
  obtain ⟨r0, r1, r2⟩ := hR6.cells
  obtain ⟨f0, f1, f2⟩ := (⟨hR6.thaw 0, hR6.thaw 1, hR6.thaw 2⟩ : _ ∧ _ ∧ _)
  have HO : Hid (EOwn (w5.setCell ⟨w.heap.size + 2, 2, none⟩ (.slice a5 gone.length k5)) w2.heap.size (.agg #[.int .i64 now, .slice a3 pins.length k3, .slice a5 gone.length k5]) ⟨now, pins, gone⟩) := EOwn.mk (ho4'.far hT5 2 _) ((ho5.mono hsz4).far hT5 2 _)
  have hbw6 : Below w.heap.size w (w5.setCell ⟨w.heap.size + 2, 2, none⟩ (.slice a5 gone.length k5)) := hbw5.setCell (show w.heap.size ≤ w.heap.size + 2 by omega) _
  clear c2 ho3 ho4 ho5 ho4' hT3 hT4 hT5 hR4 hR5 hB4 b0' b1' b2' hE
  go_wp2_with fail
  obtain ⟨q0, q1, q2⟩ := (hR6.put (.int .i64 now) (.slice a3 pins.length k3) (.slice a5 gone.length k5)).cells
  refine bodyPost_ret (v := .agg #[.int .i64 now, .slice a3 pins.length k3, .slice a5 gone.length k5]) (by simp [results, Try.results32, go_sem, q0, q1, q2]) rfl ⟨_, rfl, ?_, Below.put3 hbw6 (by omega) _ _ _⟩
  exact (HO.out.put hR6 _ _ _).mono (by have := HS2.out; omega)
/-- Epochs that are marked from k on. -/
def MarkedE (k : Nat) (E : Ep) : Prop := Marked k E.pins E.pins.length ∧ ∃ L, L.length = E.gone.length ∧ E.gone = mkG (k + E.pins.length) L L.length
set_option maxHeartbeats 1000000 in
theorem markEpochs_any (w : World) (base : Nat) (a1 a2 : Option Addr) (c1 c2 : Nat) (E : Ep) (k : Nat) (hO : EOwn w base (.agg #[.int .i64 E.now, .slice a1 E.pins.length c1, .slice a2 E.gone.length c2]) E) (hm : E.pins.length ≤ 1048576) (hm' : E.gone.length ≤ 1048577) (hk : k ≤ 10000000) :
    Calls Try.prog 28 #[.agg #[.int .i64 E.now, .slice a1 E.pins.length c1, .slice a2 E.gone.length c2], .int .i64 k] w fun e w' => e = .returned (.int .i64 ((k + E.pins.length + 2 * E.gone.length : Nat) : Int)) ∧ (∃ E', E'.now = E.now ∧ E'.pins.length = E.pins.length ∧ E'.gone.length = E.gone.length ∧ MarkedE k E' ∧ EOwn w' base (.agg #[.int .i64 E.now, .slice a1 E.pins.length c1, .slice a2 E.gone.length c2]) E') ∧ Tch (eblk (.slice a1 E.pins.length c1) (.slice a2 E.gone.length c2)) w w' := by
  obtain ⟨now, pins, gone⟩ := E
  dsimp only at *
  obtain ⟨h1, h2⟩ := hO.parts
  obtain ⟨w1, hw1⟩ : ∃ x, w.alloc (.cells #[.int .i64 now, .slice a1 pins.length c1, .slice a2 gone.length c2] 45) = x := ⟨_, rfl⟩
  have hb1 : Below w.heap.size w w1 := by rw [← hw1]; exact (Below.refl _ _).alloc (Nat.le_refl _) _
  have hB : EBox w1 w.heap.size (.int .i64 now) (.slice a1 pins.length c1) (.slice a2 gone.length c2) := by rw [← hw1]; exact EBox.new _ _ _ _
  have g1 := h1.below hb1 (Nat.le_refl _)
  have g2 := h2.below hb1 (Nat.le_refl _)
  obtain ⟨b0, b1, b2⟩ := hB.cells
  have e1 := markI_any w1 base _ pins k g1 hm (by omega)
  have HW : Hid (w.alloc (.cells #[.int .i64 now, .slice a1 pins.length c1, .slice a2 gone.length c2] 45) = w1) := hw1
  rw [← hw1] at b0 b1 b2
  clear hw1 h1 h2 hO
  obtain ⟨K1, hK1⟩ : ∃ K, k + pins.length = K := ⟨_, rfl⟩
  rw [hK1] at e1 ⊢
  obtain ⟨K2, hK2⟩ : ∃ K, K1 + 2 * gone.length = K := ⟨_, rfl⟩
  rw [hK2]
  have HK : Hid (k + pins.length = K1 ∧ K1 + 2 * gone.length = K2 ∧ K1 ≤ 100000000) := ⟨hK1, hK2, by omega⟩
  clear hK1 hK2
  go_enter Try.func28, Try.ntmps28
  go_wp2_with fail
  rw [HW.out] at b0 b1 b2 ⊢
  refine e1.mono ?_
  rintro e w2 ⟨rfl, ⟨m, hml, hmk, hm2⟩, hg2⟩
  have hB2 := hB.grownV g1 hg2
  have gg2 := g2.grown hg2 (fun q hq e => ownVP_ne g1 g2 q e hq)
  obtain ⟨b0', b1', b2'⟩ := hB2.cells
  have e2 := markGoneS_any w2 base _ gone K1 gg2 hm' HK.out.2.2
  rw [HK.out.2.1] at e2
  clear e1 b0 b1 b2
  go_wp2_with fail
  refine e2.mono ?_
  rintro e w3 ⟨rfl, ho3, hg3⟩
  have hV3 := hm2.grown hg3 (fun q hq e => ownVP_ne hm2 gg2 q hq e)
  have HR : Hid ((∃ E' : Ep, E'.now = now ∧ E'.pins.length = pins.length ∧ E'.gone.length = gone.length ∧ MarkedE k E' ∧ EOwn w3 base (.agg #[.int .i64 now, .slice a1 pins.length c1, .slice a2 gone.length c2]) E') ∧ Tch (eblk (.slice a1 pins.length c1) (.slice a2 gone.length c2)) w w3) := by
    refine ⟨⟨⟨now, m, mkG K1 gone gone.length⟩, rfl, hml, mkG_length _ _ (Nat.le_refl _), ⟨by dsimp only; rw [hml]; exact hmk, gone, (mkG_length _ _ (Nat.le_refl _)).symm, by dsimp only; rw [hml, HK.out.1]⟩, EOwn.mk hV3 ho3⟩, ?_⟩
    exact ((Tch.of_below hb1).trans (Tch.of_grown hg2 fun q hq => .inl hq)).trans (Tch.of_grown hg3 fun q hq => .inr hq)
  clear e2 hg2 hg3 hV3 hm2 gg2 ho3 g1 g2 hmk
  go_wp2_with fail
  go_ret
  exact ⟨rfl, HR.out⟩
set_option maxHeartbeats 1000000 in
theorem heldEpochs_any (w : World) (base : Nat) (a1 a2 : Option Addr) (c1 c2 : Nat) (E : Ep) (k : Nat) (hO : EOwn w base (.agg #[.int .i64 E.now, .slice a1 E.pins.length c1, .slice a2 E.gone.length c2]) E) (hM : MarkedE k E) (hm : E.pins.length ≤ 1048576) (hm' : E.gone.length ≤ 1048577) (hk : k ≤ 10000000) :
    Calls Try.prog 29 #[.agg #[.int .i64 E.now, .slice a1 E.pins.length c1, .slice a2 E.gone.length c2], .int .i64 k] w fun e w' => e = .returned (.int .i64 ((k + E.pins.length + 2 * E.gone.length : Nat) : Int)) ∧ Below w.heap.size w w' := by
  obtain ⟨now, pins, gone⟩ := E
  dsimp only at *
  obtain ⟨h1, h2⟩ := hO.parts
  obtain ⟨hM1, L, hL, hG⟩ := hM
  dsimp only at hM1 hL hG
  subst hG
  obtain ⟨w1, hw1⟩ : ∃ x, w.alloc (.cells #[.int .i64 now, .slice a1 pins.length c1, .slice a2 (mkG (k + pins.length) L L.length).length c2] 45) = x := ⟨_, rfl⟩
  have hb1 : Below w.heap.size w w1 := by rw [← hw1]; exact (Below.refl _ _).alloc (Nat.le_refl _) _
  have hB : EBox w1 w.heap.size (.int .i64 now) (.slice a1 pins.length c1) (.slice a2 (mkG (k + pins.length) L L.length).length c2) := by rw [← hw1]; exact EBox.new _ _ _ _
  have g1 := h1.below hb1 (Nat.le_refl _)
  obtain ⟨aa, cc, hv, hP⟩ := (h2.below hb1 (Nat.le_refl _)).at
  simp only [Value.slice.injEq] at hv
  obtain ⟨rfl, _, rfl⟩ := hv
  rw [mkG_length _ _ (Nat.le_refl _)] at hm' hw1 hB ⊢
  obtain ⟨b0, b1, b2⟩ := hB.cells
  have e1 := heldI_any w1 base _ pins pins.length k rfl g1 hM1 hm (by omega)
  have e2 := heldGoneS_any w1 a2 c2 L (k + pins.length) hP hm' (by omega)
  have HW : Hid (w.alloc (.cells #[.int .i64 now, .slice a1 pins.length c1, .slice a2 L.length c2] 45) = w1) := hw1
  rw [← hw1] at b0 b1 b2
  clear hw1 h1 h2 hO hP g1 hM1 hL
  have hn1 : ¬ (((k + pins.length : Nat) : Int) < 0) := by omega
  obtain ⟨K1, hK1⟩ : ∃ K, k + pins.length = K := ⟨_, rfl⟩
  rw [hK1] at e1 e2 hn1 ⊢
  have hn2 : ¬ (((K1 + 2 * L.length : Nat) : Int) < 0) := by omega
  obtain ⟨K2, hK2⟩ : ∃ K, K1 + 2 * L.length = K := ⟨_, rfl⟩
  rw [hK2] at e2 hn2 ⊢
  clear hK1 hK2
  go_enter Try.func29, Try.ntmps29
  go_wp2_with fail
  rw [HW.out] at b0 b1 b2 ⊢
  refine e1.mono ?_
  rintro e w2 ⟨rfl, rfl⟩
  go_wp2_with fail
  refine e2.mono ?_
  rintro e w3 ⟨rfl, hb3⟩
  go_wp2_with fail
  go_ret
  exact ⟨rfl, hb1.trans (hb3.mono hb1.size)⟩
end Go.Proofs.Ytockgojdmaladao
