/- What a law does with sketches: it copies them, compares them, marks them. -/
import Derived.Test.YtpgcfgbhkodmeaaSkLaw
namespace Go.Proofs.Ytpgcfgbhkodmeaa
open Go.RowKit Go.Sort

/-- A sketch in a variable T of a law: rows from lo on, below T. -/
structure SV (w : World) (lo T : Nat) (a : Option Addr) (c : Nat) (S : Sk) : Prop where
  le : lo ≤ T
  box : SkBox w T (.slice a S.rows.length c) (.int .i64 S.added)
  own : OwnSS w lo T (.slice a S.rows.length c) S.rows
theorem SV.new {w : World} {lo : Nat} {a : Option Addr} {c : Nat} {S : Sk} (h : SkOwn w lo w.heap.size (.agg #[.slice a S.rows.length c, .int .i64 S.added]) S) (hlo : lo ≤ w.heap.size) :
    SV (w.alloc (.cells #[.slice a S.rows.length c, .int .i64 S.added] 36)) lo w.heap.size a c S := by
  obtain ⟨v1, e, h1⟩ := h
  simp only [Value.agg.injEq, Array.mk.injEq, List.cons.injEq, and_true] at e
  subst e
  exact ⟨hlo, SkBox.new _ _ _, h1.below ((Below.refl _ _).alloc (Nat.le_refl _) _) (Nat.le_refl _)⟩
theorem SV.on {w w' : World} {lo T : Nat} {a : Option Addr} {c : Nat} {S : Sk} (h : SV w lo T a c S) (hb : Below w.heap.size w w') : SV w' lo T a c S := ⟨h.le, h.box.on hb, h.own.below hb (Nat.le_refl _)⟩
theorem SV.at {w : World} {lo T : Nat} {a : Option Addr} {c : Nat} {S : Sk} (h : SV w lo T a c S) : SSAt w a S.rows w.heap.size := by
  obtain ⟨p, q, hv, hA⟩ := h.own.at
  simp only [Value.slice.injEq, true_and] at hv
  obtain ⟨rfl, rfl⟩ := hv
  exact hA
/-- Another variable's rows are others. -/
theorem SV.tch {P : Nat → Prop} {w w' : World} {lo T : Nat} {a : Option Addr} {c : Nat} {S : Sk} (h : SV w lo T a c S) (ht : Tch P w w') (hn : ∀ k, P k → k < lo ∨ T < k) : SV w' lo T a c S := by
  have hlo := h.le
  exact ⟨h.le, h.box.kept (ht.2 T h.box.lt (fun e => by have := hn T e; omega)), h.own.tch ht fun k hk => by have := hn k hk; omega⟩

/-- A sketch of a law, in its variable. -/
def KBox (w : World) (T : Nat) (a b : Value) : Prop := w.heap[T]? = some (.cells #[a, b] 26 (0, 0))
theorem KBox.lt {w : World} {T : Nat} {a b : Value} (h : KBox w T a b) : T < w.heap.size := (Array.getElem?_eq_some_iff.1 h).1
theorem KBox.new (w : World) (a b : Value) : KBox (w.alloc (.cells #[a, b] 26)) w.heap.size a b := heap_alloc_new w _
theorem KBox.on {w w' : World} {T : Nat} {a b : Value} (h : KBox w T a b) (hb : Below w.heap.size w w') : KBox w' T a b := (hb.block T h.lt).trans h
theorem KBox.cells {w : World} {T : Nat} {a b : Value} (h : KBox w T a b) : w.cell? ⟨T, 0, none⟩ = some a ∧ w.cell? ⟨T, 1, none⟩ = some b := by
  unfold KBox at h
  refine ⟨?_, ?_⟩
  · rw [cell_of_row w T 0 _ _ (0, 0) h]; rfl
  · rw [cell_of_row w T 1 _ _ (0, 0) h]; rfl
def SkSz (S : Sk) : Prop := S.rows.length + tot S.rows S.rows.length ≤ 1048576

set_option maxHeartbeats 1000000 in
theorem szSketch_any (w : World) (a : Option Addr) (c : Nat) (S : Sk) (hA : SSAt w a S.rows w.heap.size) (hm : S.rows.length ≤ maxLen) (hr : ∀ j (hj : j < S.rows.length), S.rows[j].length ≤ maxLen) :
    Calls Try.prog 55 #[.agg #[.slice a S.rows.length c, .int .i64 S.added], .int .i64 1048576] w fun e w' => ∃ r : Int, e = .returned (.int .i64 r) ∧ (r = -1 ∨ 0 ≤ r ∧ SkSz S) ∧ Below w.heap.size w w' := by
  obtain ⟨w1, hw1⟩ : ∃ x, w.alloc (.cells #[.slice a S.rows.length c, .int .i64 S.added] 26) = x := ⟨_, rfl⟩
  have hb1 : Below w.heap.size w w1 := by rw [← hw1]; exact (Below.refl _ _).alloc (Nat.le_refl _) _
  have hB : KBox w1 w.heap.size (.slice a S.rows.length c) (.int .i64 S.added) := by rw [← hw1]; exact KBox.new _ _ _
  obtain ⟨b0, b1⟩ := hB.cells
  have c1 := szIntSS_any w1 a c S.rows (hA.on hb1) hm hr
  have HW : Hid (w.alloc (.cells #[.slice a S.rows.length c, .int .i64 S.added] 26) = w1) := hw1
  rw [← hw1] at b0 b1
  clear hw1 hB
  go_enter Try.func55, Try.ntmps55
  go_wp2_with fail
  rw [HW.out] at b0 b1 ⊢
  refine c1.mono ?_
  rintro e w2 ⟨r, rfl, hr, rfl⟩
  clear c1
  rcases hr with rfl | ⟨hr0, hr1⟩
  · go_wp2_with fail
    go_ret
    exact ⟨_, rfl, .inl rfl, hb1⟩
  · have hr2 : ¬ r < 0 := by omega
    have HR : Hid (SkSz S) := by show _ ≤ _; omega
    clear hr1
    go_wp2_with fail
    go_ret
    exact ⟨_, rfl, .inr ⟨hr0, HR.out⟩, hb1⟩
set_option maxHeartbeats 1000000 in
theorem eqSketch_same (w : World) (a b : Option Addr) (c d : Nat) (S : Sk) (hA : SSAt w a S.rows w.heap.size) (hB : SSAt w b S.rows w.heap.size) (hm : SkSz S) :
    Calls Try.prog 66 #[.agg #[.slice a S.rows.length c, .int .i64 S.added], .agg #[.slice b S.rows.length d, .int .i64 S.added]] w fun e w' => e = .returned (.bool true) ∧ Below w.heap.size w w' := by
  obtain ⟨rows, added⟩ := S
  unfold SkSz at hm
  dsimp only at *
  obtain ⟨w0, hw0⟩ : ∃ x, w.alloc (.cells #[.slice a rows.length c, .int .i64 added] 36) = x := ⟨_, rfl⟩
  obtain ⟨w1, hw1⟩ : ∃ x, w0.alloc (.cells #[.slice b rows.length d, .int .i64 added] 36) = x := ⟨_, rfl⟩
  have hb0 : Below w.heap.size w w0 := by rw [← hw0]; exact (Below.refl _ _).alloc (Nat.le_refl _) _
  have hb1 : Below w0.heap.size w0 w1 := by rw [← hw1]; exact (Below.refl _ _).alloc (Nat.le_refl _) _
  have s0 : w0.heap.size = w.heap.size + 1 := by rw [← hw0]; simp
  have hX : SkBox w1 w.heap.size (.slice a rows.length c) (.int .i64 added) := by
    have h : SkBox w0 w.heap.size (.slice a rows.length c) (.int .i64 added) := by rw [← hw0]; exact SkBox.new _ _ _
    exact h.on hb1
  have hY : SkBox w1 (w.heap.size + 1) (.slice b rows.length d) (.int .i64 added) := by rw [← hw1, ← s0]; exact SkBox.new _ _ _
  have hbw : Below w.heap.size w w1 := hb0.trans (hb1.mono hb0.size)
  obtain ⟨x0, x1⟩ := hX.cells
  obtain ⟨y0, y1⟩ := hY.cells
  have HW : Hid ((w.alloc (.cells #[.slice a rows.length c, .int .i64 added] 36)).alloc (.cells #[.slice b rows.length d, .int .i64 added] 36) = w1) := by rw [hw0]; exact hw1
  have e1 := eqIntSS_same w1 a b c d rows (hA.on hbw) (hB.on hbw) hm
  rw [← hw1, ← hw0] at x0 x1 y0 y1
  have hnn : (added != added) = false := by simp
  clear hw0 hw1 s0 hb0 hb1
  go_enter Try.func66, Try.ntmps66
  go_wp2_with fail
  rw [HW.out] at x0 x1 y0 y1 ⊢
  refine e1.mono ?_
  rintro e w2 ⟨rfl, hb2⟩
  clear e1 x0 x1 y0 y1
  have hbw2 := hbw.trans (hb2.mono hbw.size)
  obtain ⟨x0, x1⟩ := (hX.on hb2).cells
  obtain ⟨y0, y1⟩ := (hY.on hb2).cells
  go_wp2_with fail
  go_ret
  exact ⟨rfl, hbw2⟩
set_option maxHeartbeats 2000000 in
theorem toSketch_any (w : World) (a : Option Addr) (c : Nat) (S : Sk) (hA : SSAt w a S.rows w.heap.size) (hm : SkSz S) :
    Calls Try.prog 60 #[.agg #[.slice a S.rows.length c, .int .i64 S.added]] w fun e w' => ∃ v, e = .returned v ∧ SkOwn w' w.heap.size w'.heap.size v S ∧ Below w.heap.size w w' := by
  obtain ⟨rows, added⟩ := S
  unfold SkSz at hm
  dsimp only at *
  obtain ⟨w0, hw0⟩ : ∃ x, w.alloc (.cells #[.slice a rows.length c, .int .i64 added] 26) = x := ⟨_, rfl⟩
  obtain ⟨w1, hw1⟩ : ∃ x, w0.alloc (.cells #[.slice none 0 0, .int .i64 0] 36) = x := ⟨_, rfl⟩
  obtain ⟨w2, hw2⟩ : ∃ x, w1.alloc (.cells #[.slice none 0 0, .int .i64 0] 36) = x := ⟨_, rfl⟩
  have hb0 : Below w.heap.size w w0 := by rw [← hw0]; exact (Below.refl _ _).alloc (Nat.le_refl _) _
  have hb1 : Below w0.heap.size w0 w1 := by rw [← hw1]; exact (Below.refl _ _).alloc (Nat.le_refl _) _
  have hb2 : Below w1.heap.size w1 w2 := by rw [← hw2]; exact (Below.refl _ _).alloc (Nat.le_refl _) _
  have s0 : w0.heap.size = w.heap.size + 1 := by rw [← hw0]; simp
  have s1 : w1.heap.size = w.heap.size + 2 := by rw [← hw1]; simp; omega
  have s2 : w2.heap.size = w.heap.size + 3 := by rw [← hw2]; simp; omega
  have hb12 : Below w0.heap.size w0 w2 := hb1.trans (hb2.mono hb1.size)
  have hbw : Below w.heap.size w w2 := hb0.trans (hb12.mono hb0.size)
  have hB : KBox w2 w.heap.size (.slice a rows.length c) (.int .i64 added) := by
    have h : KBox w0 w.heap.size (.slice a rows.length c) (.int .i64 added) := by rw [← hw0]; exact KBox.new _ _ _
    exact h.on hb12
  have hR : SkBox w2 (w.heap.size + 1) (.slice none 0 0) (.int .i64 0) := by
    have h : SkBox w1 (w.heap.size + 1) (.slice none 0 0) (.int .i64 0) := by rw [← hw1, ← s0]; exact SkBox.new _ _ _
    exact h.on hb2
  have hT : SkBox w2 (w.heap.size + 2) (.slice none 0 0) (.int .i64 0) := by rw [← hw2, ← s1]; exact SkBox.new _ _ _
  have HW : Hid (((w.alloc (.cells #[.slice a rows.length c, .int .i64 added] 26)).alloc (.cells #[.slice none 0 0, .int .i64 0] 36)).alloc (.cells #[.slice none 0 0, .int .i64 0] 36) = w2) := by rw [hw0, hw1]; exact hw2
  obtain ⟨b0, b1⟩ := hB.cells
  have c1 := toIntSS_any w2 a c rows (hA.on hbw) hm
  rw [← hw2, ← hw1, ← hw0] at b0 b1
  have HS2 : Hid (w2.heap.size = w.heap.size + 3) := s2
  clear hw0 hw1 hw2 s0 s1 s2 hb0 hb1 hb2 hb12
  go_enter Try.func60, Try.ntmps60
  go_wp2_with fail
  rw [HW.out] at b0 b1 ⊢
  refine c1.mono ?_
  rintro e w3 ⟨v3, rfl, ho3, hb3⟩
  obtain ⟨a3, k3, rfl, _⟩ := ho3.at
  have hT3 := hT.on hb3
  have hbw3 := hbw.trans (hb3.mono hbw.size)
  obtain ⟨q, hq⟩ : ∃ q, Value.slice a3 rows.length k3 = q := ⟨_, rfl⟩
  have hB3 : KBox (w3.setCell ⟨w.heap.size + 2, 0, none⟩ (.slice a3 rows.length k3)) w.heap.size (.slice a rows.length c) (.int .i64 added) := (Below.heap_setCell _ _ _ _ (show w.heap.size ≠ w.heap.size + 2 by omega)).trans (hB.on hb3)
  have hT4 := hT3.set0 (.slice a3 rows.length k3)
  have hR4 := (hR.on hb3).far 0 (.slice a3 rows.length k3) (show w.heap.size + 1 ≠ w.heap.size + 2 by omega)
  have hR5 := hR4.far 1 (.int .i64 added) (show w.heap.size + 1 ≠ w.heap.size + 2 by omega)
  have hT5 := hT4.set1 (.int .i64 added)
  obtain ⟨b0', b1'⟩ := hB3.cells
  obtain ⟨t0, t1⟩ := hT3.cells
  have f0 := hT3.thaw 0
  have t1' := hT4.cells.2
  have f1 := hT4.thaw 1
  obtain ⟨y0, y1⟩ := hT5.cells
  obtain ⟨r0, r1⟩ := hR5.cells
  have g0 := hR5.thaw 0
  have g1 := hR5.thaw 1
  have HO : Hid (OwnSS ((w3.setCell ⟨w.heap.size + 2, 0, none⟩ (.slice a3 rows.length k3)).setCell ⟨w.heap.size + 2, 1, none⟩ (.int .i64 added)) w2.heap.size w3.heap.size (.slice a3 rows.length k3) rows) := ho3.put2 hT3 _ _
  have hbw6 : Below w.heap.size w ((w3.setCell ⟨w.heap.size + 2, 0, none⟩ (.slice a3 rows.length k3)).setCell ⟨w.heap.size + 2, 1, none⟩ (.int .i64 added)) := Below.put2 hbw3 (by omega) _ _
  clear c1 b0 b1 hB hT hR hT3 hT4 hT5 hR4 hB3 hA ho3 hq q
  go_wp2_with fail
  obtain ⟨q0, q1⟩ := (hR5.put (.slice a3 rows.length k3) (.int .i64 added)).cells
  refine bodyPost_ret (v := .agg #[.slice a3 rows.length k3, .int .i64 added]) (by simp [results, Try.results60, go_sem, q0, q1]) rfl ⟨_, rfl, ⟨_, rfl, ?_⟩, Below.put2 hbw6 (by omega) _ _⟩
  refine (HO.out.put2 hR5 _ _).mono (by have := HS2.out; omega) ?_
  simp
end Go.Proofs.Ytpgcfgbhkodmeaa
