/- What a law does with events. Written by mkevent.py. -/
import Derived.Test.YtonaaimefcgcnaaEvBase
namespace Go.Proofs.Ytonaaimefcgcnaa
open Go.RowKit
def LEBox (w : World) (T : Nat) (a b c d e : Value) : Prop := w.heap[T]? = some (.cells #[a, b, c, d, e] 24 (0, 0))
theorem LEBox.lt {w : World} {T : Nat} {a b c d e : Value} (h : LEBox w T a b c d e) : T < w.heap.size := (Array.getElem?_eq_some_iff.1 h).1
theorem LEBox.new (w : World) (a b c d e : Value) : LEBox (w.alloc (.cells #[a, b, c, d, e] 24)) w.heap.size a b c d e := heap_alloc_new w _
theorem LEBox.kept {w w' : World} {T : Nat} {a b c d e : Value} (h : LEBox w T a b c d e) (hk : w'.heap[T]? = w.heap[T]?) : LEBox w' T a b c d e := hk.trans h
theorem LEBox.on {w w' : World} {T : Nat} {a b c d e : Value} (h : LEBox w T a b c d e) (hb : Below w.heap.size w w') : LEBox w' T a b c d e := h.kept (hb.block T h.lt)
theorem LEBox.cells {w : World} {T : Nat} {a b c d e : Value} (h : LEBox w T a b c d e) : w.cell? ⟨T, 0, none⟩ = some a ∧ w.cell? ⟨T, 1, none⟩ = some b ∧ w.cell? ⟨T, 2, none⟩ = some c ∧ w.cell? ⟨T, 3, none⟩ = some d ∧ w.cell? ⟨T, 4, none⟩ = some e := by
  unfold LEBox at h
  refine ⟨?_, ?_, ?_, ?_, ?_⟩
  · rw [cell_of_row w T 0 _ _ (0, 0) h]; rfl
  · rw [cell_of_row w T 1 _ _ (0, 0) h]; rfl
  · rw [cell_of_row w T 2 _ _ (0, 0) h]; rfl
  · rw [cell_of_row w T 3 _ _ (0, 0) h]; rfl
  · rw [cell_of_row w T 4 _ _ (0, 0) h]; rfl
theorem LEBox.thaw {w : World} {T : Nat} {a b c d e : Value} (h : LEBox w T a b c d e) (i : Nat) : w.frozen? ⟨T, i, none⟩ = false := by
  unfold LEBox at h
  simp [World.frozen?, h]
theorem LEBox.set4 {w : World} {T : Nat} {a b c d e : Value} (h : LEBox w T a b c d e) (x : Value) : LEBox (w.setCell ⟨T, 4, none⟩ x) T a b c d x := by
  unfold LEBox at *
  simp only [World.setCell, Array.getElem?_modify, h]
  simp
theorem LEBox.put {w : World} {T : Nat} {a b c d e : Value} (h : LEBox w T a b c d e) (x y z u v : Value) : LEBox (((((w.setCell ⟨T, 0, none⟩ x).setCell ⟨T, 1, none⟩ y).setCell ⟨T, 2, none⟩ z).setCell ⟨T, 3, none⟩ u).setCell ⟨T, 4, none⟩ v) T x y z u v := by
  unfold LEBox at *
  simp only [World.setCell, Array.getElem?_modify, h]
  simp
theorem szIntsE_any (w : World) (a : Option Addr) (cap n : Nat) (left : Int) (h0 : 0 ≤ left) (h1 : left ≤ 1048576) (hm : n ≤ maxLen) :
    Calls Try.prog 23 #[.slice a n cap, .int .i64 left] w fun e w' => ∃ r : Int, e = .returned (.int .i64 r) ∧ (r = -1 ∨ 0 ≤ r ∧ r + (n : Int) = left) ∧ w' = w := by
  unfold maxLen at hm
  by_cases hA : left - n < 0
  · go_enter Try.func23, Try.ntmps23
    go_wp2
    go_ret
    exact ⟨_, rfl, .inl rfl, rfl⟩
  · go_enter Try.func23, Try.ntmps23
    go_wp2
    go_ret
    exact ⟨_, rfl, .inr ⟨by omega, by omega⟩, rfl⟩
set_option maxHeartbeats 1000000 in
theorem szEvent_any (w : World) (a : Option Addr) (c : Nat) (S : Ev) (ht : S.tx.size ≤ maxLen) (hn : S.left.length ≤ maxLen) :
    Calls Try.prog 7 #[.agg #[.int .i64 S.kind, .int .i64 S.id, .string S.tx, .int .i64 S.n, .slice a S.left.length c], .int .i64 1048576] w fun e w' => ∃ r : Int, e = .returned (.int .i64 r) ∧ (r = -1 ∨ 0 ≤ r ∧ r + (S.tx.size : Int) + (S.left.length : Int) = 1048576) ∧ Below w.heap.size w w' := by
  obtain ⟨w1, hw1⟩ : ∃ x, w.alloc (.cells #[.int .i64 S.kind, .int .i64 S.id, .string S.tx, .int .i64 S.n, .slice a S.left.length c] 24) = x := ⟨_, rfl⟩
  have hb1 : Below w.heap.size w w1 := by rw [← hw1]; exact (Below.refl _ _).alloc (Nat.le_refl _) _
  have hB : LEBox w1 w.heap.size (.int .i64 S.kind) (.int .i64 S.id) (.string S.tx) (.int .i64 S.n) (.slice a S.left.length c) := by rw [← hw1]; exact LEBox.new _ _ _ _ _ _
  obtain ⟨b0, b1, b2, b3, b4⟩ := hB.cells
  have HW : Hid (w.alloc (.cells #[.int .i64 S.kind, .int .i64 S.id, .string S.tx, .int .i64 S.n, .slice a S.left.length c] 24) = w1) := hw1
  rw [← hw1] at b0 b1 b2 b3 b4
  clear hw1 hB
  unfold maxLen at ht
  by_cases hA : (1048576 : Int) - S.tx.size < 0
  · go_enter Try.func7, Try.ntmps7
    go_wp2_with fail
    go_ret
    exact ⟨_, rfl, .inl rfl, by rw [HW.out]; exact hb1⟩
  · have c1 := szIntsE_any w1 a c S.left.length (1048576 - S.tx.size) (by omega) (by omega) hn
    go_enter Try.func7, Try.ntmps7
    go_wp2_with fail
    rw [HW.out] at b0 b1 b2 b3 b4 ⊢
    refine c1.mono ?_
    rintro e w2 ⟨r, rfl, hr, rfl⟩
    clear c1
    rcases hr with rfl | ⟨hr0, hr1⟩
    · go_wp2_with fail
      go_ret
      exact ⟨_, rfl, .inl rfl, hb1⟩
    · have hr2 : ¬ r < 0 := by omega
      have HR : Hid (r + (S.left.length : Int) = 1048576 - S.tx.size) := hr1
      clear hr1
      go_wp2_with fail
      go_ret
      exact ⟨_, rfl, .inr ⟨hr0, by have := HR.out; omega⟩, hb1⟩
set_option maxHeartbeats 1000000 in
theorem eqEvent_same (w : World) (a b : Option Addr) (c d : Nat) (S : Ev) (hA : IAt w a S.left w.heap.size) (hB : IAt w b S.left w.heap.size) (hm : S.left.length ≤ 1048576) :
    Calls Try.prog 11 #[.agg #[.int .i64 S.kind, .int .i64 S.id, .string S.tx, .int .i64 S.n, .slice a S.left.length c], .agg #[.int .i64 S.kind, .int .i64 S.id, .string S.tx, .int .i64 S.n, .slice b S.left.length d]] w fun e w' => e = .returned (.bool true) ∧ Below w.heap.size w w' := by
  obtain ⟨w0, hw0⟩ : ∃ x, w.alloc (.cells #[.int .i64 S.kind, .int .i64 S.id, .string S.tx, .int .i64 S.n, .slice a S.left.length c] 27) = x := ⟨_, rfl⟩
  obtain ⟨w1, hw1⟩ : ∃ x, w0.alloc (.cells #[.int .i64 S.kind, .int .i64 S.id, .string S.tx, .int .i64 S.n, .slice b S.left.length d] 27) = x := ⟨_, rfl⟩
  have hb0 : Below w.heap.size w w0 := by rw [← hw0]; exact (Below.refl _ _).alloc (Nat.le_refl _) _
  have hb1 : Below w0.heap.size w0 w1 := by rw [← hw1]; exact (Below.refl _ _).alloc (Nat.le_refl _) _
  have s0 : w0.heap.size = w.heap.size + 1 := by rw [← hw0]; simp
  have hX : EBox w1 w.heap.size (.int .i64 S.kind) (.int .i64 S.id) (.string S.tx) (.int .i64 S.n) (.slice a S.left.length c) := by
    have h : EBox w0 w.heap.size (.int .i64 S.kind) (.int .i64 S.id) (.string S.tx) (.int .i64 S.n) (.slice a S.left.length c) := by rw [← hw0]; exact EBox.new _ _ _ _ _ _
    exact h.on hb1
  have hY : EBox w1 (w.heap.size + 1) (.int .i64 S.kind) (.int .i64 S.id) (.string S.tx) (.int .i64 S.n) (.slice b S.left.length d) := by rw [← hw1, ← s0]; exact EBox.new _ _ _ _ _ _
  have hbw : Below w.heap.size w w1 := hb0.trans (hb1.mono hb0.size)
  obtain ⟨x0, x1, x2, x3, x4⟩ := hX.cells
  obtain ⟨y0, y1, y2, y3, y4⟩ := hY.cells
  have HW : Hid ((w.alloc (.cells #[.int .i64 S.kind, .int .i64 S.id, .string S.tx, .int .i64 S.n, .slice a S.left.length c] 27)).alloc (.cells #[.int .i64 S.kind, .int .i64 S.id, .string S.tx, .int .i64 S.n, .slice b S.left.length d] 27) = w1) := by rw [hw0]; exact hw1
  have e2 := eqIntS_same w1 a b c d S.left (hA.on hbw) (hB.on hbw) hm
  rw [← hw1, ← hw0] at x0 x1 x2 x3 x4 y0 y1 y2 y3 y4
  have hnn : ∀ z : Int, (z != z) = false := fun z => by simp
  clear hw0 hw1 s0 hb0 hb1 hX hY
  go_enter Try.func11, Try.ntmps11
  go_wp2_with fail
  rw [HW.out] at x0 x1 x2 x3 x4 y0 y1 y2 y3 y4 ⊢
  refine e2.mono ?_
  rintro e w3 ⟨rfl, hb3⟩
  go_wp2_with fail
  go_ret
  exact ⟨rfl, hbw.trans (hb3.mono hbw.size)⟩
set_option maxHeartbeats 2000000 in
theorem toEvent_any (w : World) (a : Option Addr) (c : Nat) (S : Ev) (hE : IAt w a S.left w.heap.size) (hm : S.left.length ≤ 1048576) :
    Calls Try.prog 9 #[.agg #[.int .i64 S.kind, .int .i64 S.id, .string S.tx, .int .i64 S.n, .slice a S.left.length c]] w fun e w' => ∃ v, e = .returned v ∧ EOwn w' w.heap.size v S ∧ Below w.heap.size w w' := by
  obtain ⟨w0, hw0⟩ : ∃ x, w.alloc (.cells #[.int .i64 S.kind, .int .i64 S.id, .string S.tx, .int .i64 S.n, .slice a S.left.length c] 24) = x := ⟨_, rfl⟩
  obtain ⟨w1, hw1⟩ : ∃ x, w0.alloc (.cells #[.int .i64 0, .int .i64 0, .string ⟨#[]⟩, .int .i64 0, .slice none 0 0] 27) = x := ⟨_, rfl⟩
  obtain ⟨w2, hw2⟩ : ∃ x, w1.alloc (.cells #[.int .i64 S.kind, .int .i64 S.id, .string S.tx, .int .i64 S.n, .slice none 0 0] 27) = x := ⟨_, rfl⟩
  have hb0 : Below w.heap.size w w0 := by rw [← hw0]; exact (Below.refl _ _).alloc (Nat.le_refl _) _
  have hb1 : Below w0.heap.size w0 w1 := by rw [← hw1]; exact (Below.refl _ _).alloc (Nat.le_refl _) _
  have hb2 : Below w1.heap.size w1 w2 := by rw [← hw2]; exact (Below.refl _ _).alloc (Nat.le_refl _) _
  have s0 : w0.heap.size = w.heap.size + 1 := by rw [← hw0]; simp
  have s1 : w1.heap.size = w.heap.size + 2 := by rw [← hw1]; simp; omega
  have s2 : w2.heap.size = w.heap.size + 3 := by rw [← hw2]; simp; omega
  have hb12 : Below w0.heap.size w0 w2 := hb1.trans (hb2.mono hb1.size)
  have hbw : Below w.heap.size w w2 := hb0.trans (hb12.mono hb0.size)
  have hB : LEBox w2 w.heap.size (.int .i64 S.kind) (.int .i64 S.id) (.string S.tx) (.int .i64 S.n) (.slice a S.left.length c) := by
    have h : LEBox w0 w.heap.size (.int .i64 S.kind) (.int .i64 S.id) (.string S.tx) (.int .i64 S.n) (.slice a S.left.length c) := by rw [← hw0]; exact LEBox.new _ _ _ _ _ _
    exact h.on hb12
  have hR : EBox w2 (w.heap.size + 1) (.int .i64 0) (.int .i64 0) (.string ⟨#[]⟩) (.int .i64 0) (.slice none 0 0) := by
    have h : EBox w1 (w.heap.size + 1) (.int .i64 0) (.int .i64 0) (.string ⟨#[]⟩) (.int .i64 0) (.slice none 0 0) := by rw [← hw1, ← s0]; exact EBox.new _ _ _ _ _ _
    exact h.on hb2
  have hT : EBox w2 (w.heap.size + 2) (.int .i64 S.kind) (.int .i64 S.id) (.string S.tx) (.int .i64 S.n) (.slice none 0 0) := by rw [← hw2, ← s1]; exact EBox.new _ _ _ _ _ _
  have HW : Hid (((w.alloc (.cells #[.int .i64 S.kind, .int .i64 S.id, .string S.tx, .int .i64 S.n, .slice a S.left.length c] 24)).alloc (.cells #[.int .i64 0, .int .i64 0, .string ⟨#[]⟩, .int .i64 0, .slice none 0 0] 27)).alloc (.cells #[.int .i64 S.kind, .int .i64 S.id, .string S.tx, .int .i64 S.n, .slice none 0 0] 27) = w2) := by rw [hw0, hw1]; exact hw2
  obtain ⟨b0, b1, b2, b3, b4⟩ := hB.cells
  have c2 := toIntS_any w2 a c S.left (hE.on hbw) hm
  rw [← hw2, ← hw1, ← hw0] at b0 b1 b2 b3 b4
  have HS2 : Hid (w2.heap.size = w.heap.size + 3) := s2
  clear hw0 hw1 hw2 s0 s1 s2 hb0 hb1 hb2 hb12
  go_enter Try.func9, Try.ntmps9
  go_wp2_with fail
  rw [HW.out] at b0 b1 b2 b3 b4 ⊢
  refine c2.mono ?_
  rintro e w5 ⟨v5, rfl, ho5, hb5⟩
  obtain ⟨a5, k5, rfl, _⟩ := ho5.ints
  have hT5 := hT.on hb5
  have hR5 := hR.on hb5
  obtain ⟨x0, x1, x2, x3, x4⟩ := hT5.cells
  have xf4 := hT5.thaw 4
  have hbw5 := hbw.trans (hb5.mono hbw.size)
  obtain ⟨y0, y1, y2, y3, y4⟩ := (hT5.set4 (.slice a5 S.left.length k5)).cells
  have hR6 : EBox (w5.setCell ⟨w.heap.size + 2, 4, none⟩ (.slice a5 S.left.length k5)) (w.heap.size + 1) (.int .i64 0) (.int .i64 0) (.string ⟨#[]⟩) (.int .i64 0) (.slice none 0 0) := hR5.kept (Below.heap_setCell _ _ _ _ (show w.heap.size + 1 ≠ w.heap.size + 2 by omega))
  have hO6 : OwnV (w5.setCell ⟨w.heap.size + 2, 4, none⟩ (.slice a5 S.left.length k5)) w2.heap.size 3 (.slice a5 S.left.length k5) (ints S.left) := ho5.kept fun k hk => Below.heap_setCell _ _ _ _ (by have := (ho5.lt k hk).1; have := HS2.out; show k ≠ w.heap.size + 2; omega)
  obtain ⟨r0, r1, r2, r3, r4⟩ := hR6.cells
  have f0 := hR6.thaw 0
  have f1 := hR6.thaw 1
  have f2 := hR6.thaw 2
  have f3 := hR6.thaw 3
  have f4 := hR6.thaw 4
  have HO : Hid (EOwn (((((( w5.setCell ⟨w.heap.size + 2, 4, none⟩ (.slice a5 S.left.length k5)).setCell ⟨w.heap.size + 1, 0, none⟩ (.int .i64 S.kind)).setCell ⟨w.heap.size + 1, 1, none⟩ (.int .i64 S.id)).setCell ⟨w.heap.size + 1, 2, none⟩ (.string S.tx)).setCell ⟨w.heap.size + 1, 3, none⟩ (.int .i64 S.n)).setCell ⟨w.heap.size + 1, 4, none⟩ (.slice a5 S.left.length k5)) w.heap.size (.agg #[.int .i64 S.kind, .int .i64 S.id, .string S.tx, .int .i64 S.n, .slice a5 S.left.length k5]) S) := by
    refine ⟨_, rfl, (hO6.kept fun k hk => ?_).mono (by have := HS2.out; omega)⟩
    have hne : k ≠ w.heap.size + 1 := by have := (hO6.lt k hk).1; have := HS2.out; omega
    rw [Below.heap_setCell _ _ _ _ (by exact hne), Below.heap_setCell _ _ _ _ (by exact hne), Below.heap_setCell _ _ _ _ (by exact hne), Below.heap_setCell _ _ _ _ (by exact hne), Below.heap_setCell _ _ _ _ (by exact hne)]
  have HB6 : Hid (Below w.heap.size w (((((( w5.setCell ⟨w.heap.size + 2, 4, none⟩ (.slice a5 S.left.length k5)).setCell ⟨w.heap.size + 1, 0, none⟩ (.int .i64 S.kind)).setCell ⟨w.heap.size + 1, 1, none⟩ (.int .i64 S.id)).setCell ⟨w.heap.size + 1, 2, none⟩ (.string S.tx)).setCell ⟨w.heap.size + 1, 3, none⟩ (.int .i64 S.n)).setCell ⟨w.heap.size + 1, 4, none⟩ (.slice a5 S.left.length k5))) :=
    (((((hbw5.setCell (show w.heap.size ≤ w.heap.size + 2 by omega) _).setCell (show w.heap.size ≤ w.heap.size + 1 by omega) _).setCell (show w.heap.size ≤ w.heap.size + 1 by omega) _).setCell (show w.heap.size ≤ w.heap.size + 1 by omega) _).setCell (show w.heap.size ≤ w.heap.size + 1 by omega) _).setCell (show w.heap.size ≤ w.heap.size + 1 by omega) _
  have HQ : Hid (EBox (((((( w5.setCell ⟨w.heap.size + 2, 4, none⟩ (.slice a5 S.left.length k5)).setCell ⟨w.heap.size + 1, 0, none⟩ (.int .i64 S.kind)).setCell ⟨w.heap.size + 1, 1, none⟩ (.int .i64 S.id)).setCell ⟨w.heap.size + 1, 2, none⟩ (.string S.tx)).setCell ⟨w.heap.size + 1, 3, none⟩ (.int .i64 S.n)).setCell ⟨w.heap.size + 1, 4, none⟩ (.slice a5 S.left.length k5)) (w.heap.size + 1) (.int .i64 S.kind) (.int .i64 S.id) (.string S.tx) (.int .i64 S.n) (.slice a5 S.left.length k5)) := hR6.put _ _ _ _ _
  clear c2 ho5 hT5 hR5 hE b0 b1 b2 b3 b4 hB hR hT hR6 hO6
  go_wp2_with fail
  obtain ⟨q0, q1, q2, q3, q4⟩ := HQ.out.cells
  refine bodyPost_ret (v := .agg #[.int .i64 S.kind, .int .i64 S.id, .string S.tx, .int .i64 S.n, .slice a5 S.left.length k5]) (by simp [results, Try.results9, go_sem, q0, q1, q2, q3, q4]) rfl ?_
  exact ⟨_, rfl, HO.out, HB6.out⟩
end Go.Proofs.Ytonaaimefcgcnaa
