/- What a law does with streams: it copies them, compares them, marks them. -/
import Derived.Test.YtmpnjijbahjinauStmBase
import Derived.Test.YtmpnjijbahjinauRdMark
import Derived.Test.YtmpnjijbahjinauTouch
namespace Go.Proofs.Ytmpnjijbahjinau
open Go.RowKit Go.Sort

theorem OwnP.tchM {S : Nat → Prop} {w w' : World} {base : Nat} {e : TypeId} {v : Value} {L : List (Int × Int)} (h : OwnP w base e v L) (ht : Tch S w w') (hn : ∀ k, v.ownBlock = some k → ¬ S k) : OwnP w' base e v L := h.kept fun k hk => ht.2 k (h.lt k hk).2 (hn k hk)
theorem MOwn.part {w : World} {base : Nat} {a b v1 : Value} {S : Stm} (h : MOwn w base (.agg #[a, b, v1]) S) : OwnP w base 47 v1 S.rd := by
  obtain ⟨v, hv, h1⟩ := h
  simp only [Value.agg.injEq, Array.mk.injEq, List.cons.injEq, and_true] at hv
  obtain ⟨_, _, rfl⟩ := hv
  exact h1
/-- A stream in a variable T of a law: its readers from lo on, below T. -/
structure MV (w : World) (lo T : Nat) (a : Option Addr) (c : Nat) (S : Stm) : Prop where
  le : lo ≤ T
  box : MBox w T (.int .i64 S.st) (.string S.text) (.slice a S.rd.length c)
  own : MOwn w lo (.agg #[.int .i64 S.st, .string S.text, .slice a S.rd.length c]) S
  lt : ∀ k, (Value.slice a S.rd.length c).ownBlock = some k → lo ≤ k ∧ k < T
theorem MV.new {w : World} {lo : Nat} {a : Option Addr} {c : Nat} {S : Stm} (h : MOwn w lo (.agg #[.int .i64 S.st, .string S.text, .slice a S.rd.length c]) S) (hlo : lo ≤ w.heap.size) :
    MV (w.alloc (.cells #[.int .i64 S.st, .string S.text, .slice a S.rd.length c] 29)) lo w.heap.size a c S := by
  have hb : Below w.heap.size w (w.alloc (.cells #[.int .i64 S.st, .string S.text, .slice a S.rd.length c] 29)) := (Below.refl _ _).alloc (Nat.le_refl _) _
  exact ⟨hlo, MBox.new _ _ _ _, h.below hb (Nat.le_refl _), fun k hk => h.part.lt k hk⟩
theorem MV.on {w w' : World} {lo T : Nat} {a : Option Addr} {c : Nat} {S : Stm} (h : MV w lo T a c S) (hb : Below w.heap.size w w') : MV w' lo T a c S := ⟨h.le, h.box.on hb, h.own.below hb (Nat.le_refl _), h.lt⟩
theorem MV.at {w : World} {lo T : Nat} {a : Option Addr} {c : Nat} {S : Stm} (h : MV w lo T a c S) : PAt w a S.rd w.heap.size := by
  obtain ⟨p, q, hv, hA⟩ := h.own.at
  simp only [Value.agg.injEq, Array.mk.injEq, List.cons.injEq, and_true, Value.slice.injEq, true_and] at hv
  obtain ⟨rfl, rfl⟩ := hv
  exact hA
/-- Another variable's rows are others. -/
theorem MV.tch {P : Nat → Prop} {w w' : World} {lo T : Nat} {a : Option Addr} {c : Nat} {S : Stm} (h : MV w lo T a c S) (ht : Tch P w w') (hn : ∀ k, P k → k < lo ∨ T < k) : MV w' lo T a c S := by
  have hlo := h.le
  refine ⟨h.le, h.box.kept (ht.2 T h.box.lt (fun e => ?_)), ⟨_, rfl, h.own.part.tchM ht fun k hk e => ?_⟩, h.lt⟩
  · have := hn T e
    omega
  · have := h.lt k hk
    have := hn k e
    omega
/-- A stream of a law, in its variable. -/
def LMBox (w : World) (T : Nat) (a b c : Value) : Prop := w.heap[T]? = some (.cells #[a, b, c] 24 (0, 0))
theorem LMBox.lt {w : World} {T : Nat} {a b c : Value} (h : LMBox w T a b c) : T < w.heap.size := (Array.getElem?_eq_some_iff.1 h).1
theorem LMBox.new (w : World) (a b c : Value) : LMBox (w.alloc (.cells #[a, b, c] 24)) w.heap.size a b c := heap_alloc_new w _
theorem LMBox.on {w w' : World} {T : Nat} {a b c : Value} (h : LMBox w T a b c) (hb : Below w.heap.size w w') : LMBox w' T a b c := (hb.block T h.lt).trans h
theorem LMBox.cells {w : World} {T : Nat} {a b c : Value} (h : LMBox w T a b c) : w.cell? ⟨T, 0, none⟩ = some a ∧ w.cell? ⟨T, 1, none⟩ = some b ∧ w.cell? ⟨T, 2, none⟩ = some c := by
  unfold LMBox at h
  refine ⟨?_, ?_, ?_⟩
  · rw [cell_of_row w T 0 _ _ (0, 0) h]; rfl
  · rw [cell_of_row w T 1 _ _ (0, 0) h]; rfl
  · rw [cell_of_row w T 2 _ _ (0, 0) h]; rfl

set_option maxHeartbeats 1000000 in
theorem szStream_any (w : World) (a : Option Addr) (c n : Nat) (st : Int) (t : ByteArray) (ht : t.size ≤ maxLen) (hn : n ≤ maxLen) :
    Calls Try.prog 9 #[.agg #[.int .i64 st, .string t, .slice a n c], .int .i64 1048576] w fun e w' => ∃ r : Int, e = .returned (.int .i64 r) ∧ (r = -1 ∨ 0 ≤ r ∧ r + (t.size : Int) + (n : Int) = 1048576) ∧ Below w.heap.size w w' := by
  obtain ⟨w1, hw1⟩ : ∃ x, w.alloc (.cells #[.int .i64 st, .string t, .slice a n c] 24) = x := ⟨_, rfl⟩
  have hb1 : Below w.heap.size w w1 := by rw [← hw1]; exact (Below.refl _ _).alloc (Nat.le_refl _) _
  have hB : LMBox w1 w.heap.size (.int .i64 st) (.string t) (.slice a n c) := by rw [← hw1]; exact LMBox.new _ _ _ _
  obtain ⟨b0, b1, b2⟩ := hB.cells
  have HW : Hid (w.alloc (.cells #[.int .i64 st, .string t, .slice a n c] 24) = w1) := hw1
  rw [← hw1] at b0 b1 b2
  clear hw1 hB
  unfold maxLen at ht
  by_cases hA : (1048576 : Int) - t.size < 0
  · go_enter Try.func9, Try.ntmps9
    go_wp2_with fail
    go_ret
    exact ⟨_, rfl, .inl rfl, by rw [HW.out]; exact hb1⟩
  · have c1 := szReaderS_any w1 a c n (1048576 - t.size) (by omega) (by omega) hn
    go_enter Try.func9, Try.ntmps9
    go_wp2_with fail
    rw [HW.out] at b0 b1 b2 ⊢
    refine c1.mono ?_
    rintro e w2 ⟨r, rfl, hr, rfl⟩
    clear c1
    rcases hr with rfl | ⟨hr0, hr1⟩
    · go_wp2_with fail
      go_ret
      exact ⟨_, rfl, .inl rfl, hb1⟩
    · have hr2 : ¬ r < 0 := by omega
      have HR : Hid (r + (n : Int) = 1048576 - t.size) := hr1
      clear hr1
      go_wp2_with fail
      go_ret
      exact ⟨_, rfl, .inr ⟨hr0, by have := HR.out; omega⟩, hb1⟩
set_option maxHeartbeats 1000000 in
theorem eqStream_same (w : World) (a b : Option Addr) (c d : Nat) (S : Stm) (hA : PAt w a S.rd w.heap.size) (hB : PAt w b S.rd w.heap.size) (hm : S.rd.length ≤ 1048577) :
    Calls Try.prog 13 #[.agg #[.int .i64 S.st, .string S.text, .slice a S.rd.length c], .agg #[.int .i64 S.st, .string S.text, .slice b S.rd.length d]] w fun e w' => e = .returned (.bool true) ∧ Below w.heap.size w w' := by
  obtain ⟨st, t, rd⟩ := S
  dsimp only at *
  obtain ⟨w0, hw0⟩ : ∃ x, w.alloc (.cells #[.int .i64 st, .string t, .slice a rd.length c] 29) = x := ⟨_, rfl⟩
  obtain ⟨w1, hw1⟩ : ∃ x, w0.alloc (.cells #[.int .i64 st, .string t, .slice b rd.length d] 29) = x := ⟨_, rfl⟩
  have hb0 : Below w.heap.size w w0 := by rw [← hw0]; exact (Below.refl _ _).alloc (Nat.le_refl _) _
  have hb1 : Below w0.heap.size w0 w1 := by rw [← hw1]; exact (Below.refl _ _).alloc (Nat.le_refl _) _
  have s0 : w0.heap.size = w.heap.size + 1 := by rw [← hw0]; simp
  have hX : MBox w1 w.heap.size (.int .i64 st) (.string t) (.slice a rd.length c) := by
    have h : MBox w0 w.heap.size (.int .i64 st) (.string t) (.slice a rd.length c) := by rw [← hw0]; exact MBox.new _ _ _ _
    exact h.on hb1
  have hY : MBox w1 (w.heap.size + 1) (.int .i64 st) (.string t) (.slice b rd.length d) := by rw [← hw1, ← s0]; exact MBox.new _ _ _ _
  have hbw : Below w.heap.size w w1 := hb0.trans (hb1.mono hb0.size)
  obtain ⟨x0, x1, x2⟩ := hX.cells
  obtain ⟨y0, y1, y2⟩ := hY.cells
  have HW : Hid ((w.alloc (.cells #[.int .i64 st, .string t, .slice a rd.length c] 29)).alloc (.cells #[.int .i64 st, .string t, .slice b rd.length d] 29) = w1) := by rw [hw0]; exact hw1
  have e2 := eqReaderS_same w1 a b c d rd (hA.on hbw) (hB.on hbw) hm
  rw [← hw1, ← hw0] at x0 x1 x2 y0 y1 y2
  have hnn : (st != st) = false := by simp
  clear hw0 hw1 s0 hb0 hb1
  go_enter Try.func13, Try.ntmps13
  go_wp2_with fail
  rw [HW.out] at x0 x1 x2 y0 y1 y2 ⊢
  refine e2.mono ?_
  rintro e w3 ⟨rfl, hb3⟩
  go_wp2_with fail
  go_ret
  exact ⟨rfl, hbw.trans (hb3.mono hbw.size)⟩
set_option maxHeartbeats 2000000 in
theorem toStream_any (w : World) (a : Option Addr) (c : Nat) (S : Stm) (hE : PAt w a S.rd w.heap.size) (hm : S.rd.length ≤ 1048576) :
    Calls Try.prog 11 #[.agg #[.int .i64 S.st, .string S.text, .slice a S.rd.length c]] w fun e w' => ∃ v, e = .returned v ∧ MOwn w' w.heap.size v S ∧ Below w.heap.size w w' := by
  obtain ⟨st, t, rd⟩ := S
  dsimp only at *
  obtain ⟨w0, hw0⟩ : ∃ x, w.alloc (.cells #[.int .i64 st, .string t, .slice a rd.length c] 24) = x := ⟨_, rfl⟩
  obtain ⟨w1, hw1⟩ : ∃ x, w0.alloc (.cells #[.int .i64 0, .string ⟨#[]⟩, .slice none 0 0] 29) = x := ⟨_, rfl⟩
  obtain ⟨w2, hw2⟩ : ∃ x, w1.alloc (.cells #[.int .i64 st, .string t, .slice none 0 0] 29) = x := ⟨_, rfl⟩
  have hb0 : Below w.heap.size w w0 := by rw [← hw0]; exact (Below.refl _ _).alloc (Nat.le_refl _) _
  have hb1 : Below w0.heap.size w0 w1 := by rw [← hw1]; exact (Below.refl _ _).alloc (Nat.le_refl _) _
  have hb2 : Below w1.heap.size w1 w2 := by rw [← hw2]; exact (Below.refl _ _).alloc (Nat.le_refl _) _
  have s0 : w0.heap.size = w.heap.size + 1 := by rw [← hw0]; simp
  have s1 : w1.heap.size = w.heap.size + 2 := by rw [← hw1]; simp; omega
  have s2 : w2.heap.size = w.heap.size + 3 := by rw [← hw2]; simp; omega
  have hb12 : Below w0.heap.size w0 w2 := hb1.trans (hb2.mono hb1.size)
  have hbw : Below w.heap.size w w2 := hb0.trans (hb12.mono hb0.size)
  have hB : LMBox w2 w.heap.size (.int .i64 st) (.string t) (.slice a rd.length c) := by
    have h : LMBox w0 w.heap.size (.int .i64 st) (.string t) (.slice a rd.length c) := by rw [← hw0]; exact LMBox.new _ _ _ _
    exact h.on hb12
  have hR : MBox w2 (w.heap.size + 1) (.int .i64 0) (.string ⟨#[]⟩) (.slice none 0 0) := by
    have h : MBox w1 (w.heap.size + 1) (.int .i64 0) (.string ⟨#[]⟩) (.slice none 0 0) := by rw [← hw1, ← s0]; exact MBox.new _ _ _ _
    exact h.on hb2
  have hT : MBox w2 (w.heap.size + 2) (.int .i64 st) (.string t) (.slice none 0 0) := by rw [← hw2, ← s1]; exact MBox.new _ _ _ _
  have HW : Hid (((w.alloc (.cells #[.int .i64 st, .string t, .slice a rd.length c] 24)).alloc (.cells #[.int .i64 0, .string ⟨#[]⟩, .slice none 0 0] 29)).alloc (.cells #[.int .i64 st, .string t, .slice none 0 0] 29) = w2) := by rw [hw0, hw1]; exact hw2
  obtain ⟨b0, b1, b2⟩ := hB.cells
  have c2 := toReaderS_any w2 a c rd (hE.on hbw) hm
  rw [← hw2, ← hw1, ← hw0] at b0 b1 b2
  have HS2 : Hid (w2.heap.size = w.heap.size + 3) := s2
  clear hw0 hw1 hw2 s0 s1 s2 hb0 hb1 hb2 hb12
  go_enter Try.func11, Try.ntmps11
  go_wp2_with fail
  rw [HW.out] at b0 b1 b2 ⊢
  refine c2.mono ?_
  rintro e w5 ⟨v5, rfl, ho5, hb5⟩
  obtain ⟨a5, k5, rfl, _⟩ := ho5.at
  have hT5 := hT.on hb5
  have hR5 := hR.on hb5
  have x2 := hT5.cells.2.2
  have xf2 := hT5.thaw 2
  have hbw5 := hbw.trans (hb5.mono hbw.size)
  have hO5 : MOwn w5 w2.heap.size (.agg #[.int .i64 st, .string t, .slice a5 rd.length k5]) ⟨st, t, rd⟩ := ⟨_, rfl, ho5⟩
  obtain ⟨y0, y1, y2⟩ := (hT5.set2 (.slice a5 rd.length k5)).cells
  have hR6 : MBox (w5.setCell ⟨w.heap.size + 2, 2, none⟩ (.slice a5 rd.length k5)) (w.heap.size + 1) (.int .i64 0) (.string ⟨#[]⟩) (.slice none 0 0) := hR5.kept (Below.heap_setCell _ _ _ _ (show w.heap.size + 1 ≠ w.heap.size + 2 by omega))
  have HO : Hid (MOwn (w5.setCell ⟨w.heap.size + 2, 2, none⟩ (.slice a5 rd.length k5)) w2.heap.size (.agg #[.int .i64 st, .string t, .slice a5 rd.length k5]) ⟨st, t, rd⟩) := hO5.box hT5 fun k hk => Below.heap_setCell _ _ _ _ hk
  obtain ⟨r0, r1, r2⟩ := hR6.cells
  obtain ⟨f0, f1, f2⟩ := (⟨hR6.thaw 0, hR6.thaw 1, hR6.thaw 2⟩ : _ ∧ _ ∧ _)
  have hbw6 : Below w.heap.size w (w5.setCell ⟨w.heap.size + 2, 2, none⟩ (.slice a5 rd.length k5)) := hbw5.setCell (show w.heap.size ≤ w.heap.size + 2 by omega) _
  clear c2 ho5 hO5 hT5 hR5 hE b0 b1 b2
  go_wp2_with fail
  obtain ⟨q0, q1, q2⟩ := (hR6.put (.int .i64 st) (.string t) (.slice a5 rd.length k5)).cells
  refine bodyPost_ret (v := .agg #[.int .i64 st, .string t, .slice a5 rd.length k5]) (by simp [results, Try.results11, go_sem, q0, q1, q2]) rfl ⟨_, rfl, ?_, Below.put3M hbw6 (by omega) _ _ _⟩
  exact (HO.out.put3 hR6 _ _ _).mono (by have := HS2.out; omega)
/-- A stream whose readers are marked from k on. -/
def MarkedM (k : Nat) (S : Stm) : Prop := ∃ L, L.length = S.rd.length ∧ S.rd = mkR k L L.length
set_option maxHeartbeats 1000000 in
theorem markStream_any (w : World) (base : Nat) (a : Option Addr) (c : Nat) (S : Stm) (k : Nat) (hO : MOwn w base (.agg #[.int .i64 S.st, .string S.text, .slice a S.rd.length c]) S) (hm : S.rd.length ≤ 1048577) (hk : k ≤ 10000000) :
    Calls Try.prog 16 #[.agg #[.int .i64 S.st, .string S.text, .slice a S.rd.length c], .int .i64 k] w fun e w' => e = .returned (.int .i64 ((k + 2 * S.rd.length : Nat) : Int)) ∧ (∃ S' : Stm, S'.st = S.st ∧ S'.text = S.text ∧ S'.rd.length = S.rd.length ∧ MarkedM k S' ∧ MOwn w' base (.agg #[.int .i64 S.st, .string S.text, .slice a S.rd.length c]) S') ∧ Tch (fun q => (Value.slice a S.rd.length c).ownBlock = some q) w w' := by
  obtain ⟨st, t, rd⟩ := S
  have h2 := hO.part
  dsimp only at *
  obtain ⟨w1, hw1⟩ : ∃ x, w.alloc (.cells #[.int .i64 st, .string t, .slice a rd.length c] 29) = x := ⟨_, rfl⟩
  have hb1 : Below w.heap.size w w1 := by rw [← hw1]; exact (Below.refl _ _).alloc (Nat.le_refl _) _
  have hB : MBox w1 w.heap.size (.int .i64 st) (.string t) (.slice a rd.length c) := by rw [← hw1]; exact MBox.new _ _ _ _
  have g2 := h2.below hb1 (Nat.le_refl _)
  obtain ⟨b0, b1, b2⟩ := hB.cells
  have HW : Hid (w.alloc (.cells #[.int .i64 st, .string t, .slice a rd.length c] 29) = w1) := hw1
  rw [← hw1] at b0 b1 b2
  clear hw1 h2 hO
  have e2 := markReaderS_any w1 base _ rd k g2 hm (by omega)
  obtain ⟨K2, hK2⟩ : ∃ K, k + 2 * rd.length = K := ⟨_, rfl⟩
  rw [hK2] at e2 ⊢
  clear hK2
  go_enter Try.func16, Try.ntmps16
  go_wp2_with fail
  rw [HW.out] at b0 b1 b2 ⊢
  refine e2.mono ?_
  rintro e w3 ⟨rfl, ho3, hg3⟩
  have HR : Hid ((∃ S' : Stm, S'.st = st ∧ S'.text = t ∧ S'.rd.length = rd.length ∧ MarkedM k S' ∧ MOwn w3 base (.agg #[.int .i64 st, .string t, .slice a rd.length c]) S') ∧ Tch (fun q => (Value.slice a rd.length c).ownBlock = some q) w w3) := by
    refine ⟨⟨⟨st, t, mkR k rd rd.length⟩, rfl, rfl, mkR_length _ _ (Nat.le_refl _), ⟨rd, (mkR_length _ _ (Nat.le_refl _)).symm, rfl⟩, ⟨_, rfl, ho3⟩⟩, ?_⟩
    exact (Tch.of_below hb1).trans (Tch.of_grown hg3 fun q hq => hq)
  clear e2 hg3 ho3 g2
  go_wp2_with fail
  go_ret
  exact ⟨rfl, HR.out⟩
set_option maxHeartbeats 1000000 in
theorem heldStream_any (w : World) (base : Nat) (a : Option Addr) (c : Nat) (S : Stm) (k : Nat) (hO : MOwn w base (.agg #[.int .i64 S.st, .string S.text, .slice a S.rd.length c]) S) (hM : MarkedM k S) (hm : S.rd.length ≤ 1048577) (hk : k ≤ 10000000) :
    Calls Try.prog 17 #[.agg #[.int .i64 S.st, .string S.text, .slice a S.rd.length c], .int .i64 k] w fun e w' => e = .returned (.int .i64 ((k + 2 * S.rd.length : Nat) : Int)) ∧ Below w.heap.size w w' := by
  obtain ⟨st, t, rd⟩ := S
  have h2 := hO.part
  obtain ⟨L, hL, hG⟩ := hM
  dsimp only at *
  subst hG
  obtain ⟨w1, hw1⟩ : ∃ x, w.alloc (.cells #[.int .i64 st, .string t, .slice a (mkR k L L.length).length c] 29) = x := ⟨_, rfl⟩
  have hb1 : Below w.heap.size w w1 := by rw [← hw1]; exact (Below.refl _ _).alloc (Nat.le_refl _) _
  have hB : MBox w1 w.heap.size (.int .i64 st) (.string t) (.slice a (mkR k L L.length).length c) := by rw [← hw1]; exact MBox.new _ _ _ _
  obtain ⟨aa, cc, hv, hP⟩ := (h2.below hb1 (Nat.le_refl _)).at
  simp only [Value.slice.injEq] at hv
  obtain ⟨rfl, _, rfl⟩ := hv
  rw [mkR_length _ _ (Nat.le_refl _)] at hm hw1 hB ⊢
  obtain ⟨b0, b1, b2⟩ := hB.cells
  have e2 := heldReaderS_any w1 a c L k hP hm (by omega)
  have HW : Hid (w.alloc (.cells #[.int .i64 st, .string t, .slice a L.length c] 29) = w1) := hw1
  rw [← hw1] at b0 b1 b2
  clear hw1 h2 hO hP hL
  have hn2 : ¬ (((k + 2 * L.length : Nat) : Int) < 0) := by omega
  obtain ⟨K2, hK2⟩ : ∃ K, k + 2 * L.length = K := ⟨_, rfl⟩
  rw [hK2] at e2 hn2 ⊢
  clear hK2
  go_enter Try.func17, Try.ntmps17
  go_wp2_with fail
  rw [HW.out] at b0 b1 b2 ⊢
  refine e2.mono ?_
  rintro e w3 ⟨rfl, hb3⟩
  go_wp2_with fail
  go_ret
  exact ⟨rfl, hb1.trans (hb3.mono hb1.size)⟩
end Go.Proofs.Ytmpnjijbahjinau
