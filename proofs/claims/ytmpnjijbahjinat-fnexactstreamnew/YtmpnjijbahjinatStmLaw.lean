/- What a law does with streams: it copies them, compares them, marks them. -/
import Derived.Test.YtmpnjijbahjinatStmBase
import Derived.Test.YtmpnjijbahjinatRdMark
import Derived.Test.YtmpnjijbahjinatTouch
namespace Go.Proofs.Ytmpnjijbahjinat
open Go.RowKit Go.Sort

theorem OwnP.tchM {S : Nat → Prop} {w w' : World} {base : Nat} {e : TypeId} {v : Value} {L : List (Int × Int)} (h : OwnP w base e v L) (ht : Tch S w w') (hn : ∀ k, v.ownBlock = some k → ¬ S k) : OwnP w' base e v L := h.kept fun k hk => ht.2 k (h.lt k hk).2 (hn k hk)
theorem MOwn.part {w : World} {base : Nat} {a b v1 : Value} {S : Stm} (h : MOwn w base (.agg #[a, b, v1]) S) : OwnP w base 83 v1 S.rd := by
  obtain ⟨v, hv, h1⟩ := h
  simp only [Value.agg.injEq, Array.mk.injEq, List.cons.injEq, and_true] at hv
  obtain ⟨_, _, rfl⟩ := hv
  exact h1
/-- A stream in a variable T of a law: its readers from lo on, below T. -/
structure MV (w : World) (lo T : Nat) (a : Option Addr) (c : Nat) (S : Stm) : Prop where
  le : lo ≤ T
  box : MBox w T (.int .i64 S.st) (.string S.text) (.slice a S.rd.length c)
  own : MOwn w lo (.agg #[.int .i64 S.st, .string S.text, .slice a S.rd.length c]) S
  lt : ∀ k, (Value.slice a S.rd.length c).ownBlock = some k → lo ≤ k ∧ k < T
theorem MV.new {w : World} {lo : Nat} {a : Option Addr} {c : Nat} {S : Stm} (h : MOwn w lo (.agg #[.int .i64 S.st, .string S.text, .slice a S.rd.length c]) S) (hlo : lo ≤ w.heap.size) :
    MV (w.alloc (.cells #[.int .i64 S.st, .string S.text, .slice a S.rd.length c] 44)) lo w.heap.size a c S := by
  have hb : Below w.heap.size w (w.alloc (.cells #[.int .i64 S.st, .string S.text, .slice a S.rd.length c] 44)) := (Below.refl _ _).alloc (Nat.le_refl _) _
  exact ⟨hlo, MBox.new _ _ _ _, h.below hb (Nat.le_refl _), fun k hk => h.part.lt k hk⟩
theorem MV.on {w w' : World} {lo T : Nat} {a : Option Addr} {c : Nat} {S : Stm} (h : MV w lo T a c S) (hb : Below w.heap.size w w') : MV w' lo T a c S := ⟨h.le, h.box.on hb, h.own.below hb (Nat.le_refl _), h.lt⟩
theorem MV.at {w : World} {lo T : Nat} {a : Option Addr} {c : Nat} {S : Stm} (h : MV w lo T a c S) : PAt w a S.rd w.heap.size := by
  obtain ⟨p, q, hv, hA⟩ := h.own.at
  simp only [Value.agg.injEq, Array.mk.injEq, List.cons.injEq, and_true, Value.slice.injEq, true_and] at hv
  obtain ⟨rfl, rfl⟩ := hv
  exact hA
/-- Another variable's rows are others. -/
theorem MV.tch {P : Nat → Prop} {w w' : World} {lo T : Nat} {a : Option Addr} {c : Nat} {S : Stm} (h : MV w lo T a c S) (ht : Tch P w w') (hn : ∀ k, P k → k < lo ∨ T < k) : MV w' lo T a c S := by
  have hlo := h.le
  refine ⟨h.le, h.box.kept (ht.2 T h.box.lt (fun e => ?_)), ⟨_, rfl, h.own.part.tchM ht fun k hk e => ?_⟩, h.lt⟩
  · have := hn T e
    omega
  · have := h.lt k hk
    have := hn k e
    omega
set_option maxHeartbeats 1000000 in
theorem eqStream_same (w : World) (a b : Option Addr) (c d : Nat) (S : Stm) (hA : PAt w a S.rd w.heap.size) (hB : PAt w b S.rd w.heap.size) (hm : S.rd.length ≤ 1048577) :
    Calls Try.prog 23 #[.agg #[.int .i64 S.st, .string S.text, .slice a S.rd.length c], .agg #[.int .i64 S.st, .string S.text, .slice b S.rd.length d]] w fun e w' => e = .returned (.bool true) ∧ Below w.heap.size w w' := by
  obtain ⟨st, t, rd⟩ := S
  dsimp only at *
  obtain ⟨w0, hw0⟩ : ∃ x, w.alloc (.cells #[.int .i64 st, .string t, .slice a rd.length c] 44) = x := ⟨_, rfl⟩
  obtain ⟨w1, hw1⟩ : ∃ x, w0.alloc (.cells #[.int .i64 st, .string t, .slice b rd.length d] 44) = x := ⟨_, rfl⟩
  have hb0 : Below w.heap.size w w0 := by rw [← hw0]; exact (Below.refl _ _).alloc (Nat.le_refl _) _
  have hb1 : Below w0.heap.size w0 w1 := by rw [← hw1]; exact (Below.refl _ _).alloc (Nat.le_refl _) _
  have s0 : w0.heap.size = w.heap.size + 1 := by rw [← hw0]; simp
  have hX : MBox w1 w.heap.size (.int .i64 st) (.string t) (.slice a rd.length c) := by
    have h : MBox w0 w.heap.size (.int .i64 st) (.string t) (.slice a rd.length c) := by rw [← hw0]; exact MBox.new _ _ _ _
    exact h.on hb1
  have hY : MBox w1 (w.heap.size + 1) (.int .i64 st) (.string t) (.slice b rd.length d) := by rw [← hw1, ← s0]; exact MBox.new _ _ _ _
  have hbw : Below w.heap.size w w1 := hb0.trans (hb1.mono hb0.size)
  obtain ⟨x0, x1, x2⟩ := hX.cells
  obtain ⟨y0, y1, y2⟩ := hY.cells
  have HW : Hid ((w.alloc (.cells #[.int .i64 st, .string t, .slice a rd.length c] 44)).alloc (.cells #[.int .i64 st, .string t, .slice b rd.length d] 44) = w1) := by rw [hw0]; exact hw1
  have e2 := eqReaderS_same w1 a b c d rd (hA.on hbw) (hB.on hbw) hm
  rw [← hw1, ← hw0] at x0 x1 x2 y0 y1 y2
  have hnn : (st != st) = false := by simp
  clear hw0 hw1 s0 hb0 hb1
  go_enter Try.func23, Try.ntmps23
  go_wp2_with fail
  rw [HW.out] at x0 x1 x2 y0 y1 y2 ⊢
  refine e2.mono ?_
  rintro e w3 ⟨rfl, hb3⟩
  go_wp2_with fail
  go_ret
  exact ⟨rfl, hbw.trans (hb3.mono hbw.size)⟩
/-- A stream whose readers are marked from k on. -/
def MarkedM (k : Nat) (S : Stm) : Prop := ∃ L, L.length = S.rd.length ∧ S.rd = mkR k L L.length
set_option maxHeartbeats 1000000 in
theorem markStream_any (w : World) (base : Nat) (a : Option Addr) (c : Nat) (S : Stm) (k : Nat) (hO : MOwn w base (.agg #[.int .i64 S.st, .string S.text, .slice a S.rd.length c]) S) (hm : S.rd.length ≤ 1048577) (hk : k ≤ 10000000) :
    Calls Try.prog 24 #[.agg #[.int .i64 S.st, .string S.text, .slice a S.rd.length c], .int .i64 k] w fun e w' => e = .returned (.int .i64 ((k + 2 * S.rd.length : Nat) : Int)) ∧ (∃ S' : Stm, S'.st = S.st ∧ S'.text = S.text ∧ S'.rd.length = S.rd.length ∧ MarkedM k S' ∧ MOwn w' base (.agg #[.int .i64 S.st, .string S.text, .slice a S.rd.length c]) S') ∧ Tch (fun q => (Value.slice a S.rd.length c).ownBlock = some q) w w' := by
  obtain ⟨st, t, rd⟩ := S
  have h2 := hO.part
  dsimp only at *
  obtain ⟨w1, hw1⟩ : ∃ x, w.alloc (.cells #[.int .i64 st, .string t, .slice a rd.length c] 44) = x := ⟨_, rfl⟩
  have hb1 : Below w.heap.size w w1 := by rw [← hw1]; exact (Below.refl _ _).alloc (Nat.le_refl _) _
  have hB : MBox w1 w.heap.size (.int .i64 st) (.string t) (.slice a rd.length c) := by rw [← hw1]; exact MBox.new _ _ _ _
  have g2 := h2.below hb1 (Nat.le_refl _)
  obtain ⟨b0, b1, b2⟩ := hB.cells
  have HW : Hid (w.alloc (.cells #[.int .i64 st, .string t, .slice a rd.length c] 44) = w1) := hw1
  rw [← hw1] at b0 b1 b2
  clear hw1 h2 hO
  have e2 := markReaderS_any w1 base _ rd k g2 hm (by omega)
  obtain ⟨K2, hK2⟩ : ∃ K, k + 2 * rd.length = K := ⟨_, rfl⟩
  rw [hK2] at e2 ⊢
  clear hK2
  go_enter Try.func24, Try.ntmps24
  go_wp2_with fail
  rw [HW.out] at b0 b1 b2 ⊢
  refine e2.mono ?_
  rintro e w3 ⟨rfl, ho3, hg3⟩
  have HR : Hid ((∃ S' : Stm, S'.st = st ∧ S'.text = t ∧ S'.rd.length = rd.length ∧ MarkedM k S' ∧ MOwn w3 base (.agg #[.int .i64 st, .string t, .slice a rd.length c]) S') ∧ Tch (fun q => (Value.slice a rd.length c).ownBlock = some q) w w3) := by
    refine ⟨⟨⟨st, t, mkR k rd rd.length⟩, rfl, rfl, mkR_length _ _ (Nat.le_refl _), ⟨rd, (mkR_length _ _ (Nat.le_refl _)).symm, rfl⟩, ⟨_, rfl, ho3⟩⟩, ?_⟩
    exact (Tch.of_below hb1).trans (Tch.of_grown hg3 fun q hq => hq)
  clear e2 hg3 ho3 g2
  go_wp2_with fail
  go_ret
  exact ⟨rfl, HR.out⟩
set_option maxHeartbeats 1000000 in
theorem heldStream_any (w : World) (base : Nat) (a : Option Addr) (c : Nat) (S : Stm) (k : Nat) (hO : MOwn w base (.agg #[.int .i64 S.st, .string S.text, .slice a S.rd.length c]) S) (hM : MarkedM k S) (hm : S.rd.length ≤ 1048577) (hk : k ≤ 10000000) :
    Calls Try.prog 25 #[.agg #[.int .i64 S.st, .string S.text, .slice a S.rd.length c], .int .i64 k] w fun e w' => e = .returned (.int .i64 ((k + 2 * S.rd.length : Nat) : Int)) ∧ Below w.heap.size w w' := by
  obtain ⟨st, t, rd⟩ := S
  have h2 := hO.part
  obtain ⟨L, hL, hG⟩ := hM
  dsimp only at *
  subst hG
  obtain ⟨w1, hw1⟩ : ∃ x, w.alloc (.cells #[.int .i64 st, .string t, .slice a (mkR k L L.length).length c] 44) = x := ⟨_, rfl⟩
  have hb1 : Below w.heap.size w w1 := by rw [← hw1]; exact (Below.refl _ _).alloc (Nat.le_refl _) _
  have hB : MBox w1 w.heap.size (.int .i64 st) (.string t) (.slice a (mkR k L L.length).length c) := by rw [← hw1]; exact MBox.new _ _ _ _
  obtain ⟨aa, cc, hv, hP⟩ := (h2.below hb1 (Nat.le_refl _)).at
  simp only [Value.slice.injEq] at hv
  obtain ⟨rfl, _, rfl⟩ := hv
  rw [mkR_length _ _ (Nat.le_refl _)] at hm hw1 hB ⊢
  obtain ⟨b0, b1, b2⟩ := hB.cells
  have e2 := heldReaderS_any w1 a c L k hP hm (by omega)
  have HW : Hid (w.alloc (.cells #[.int .i64 st, .string t, .slice a L.length c] 44) = w1) := hw1
  rw [← hw1] at b0 b1 b2
  clear hw1 h2 hO hP hL
  have hn2 : ¬ (((k + 2 * L.length : Nat) : Int) < 0) := by omega
  obtain ⟨K2, hK2⟩ : ∃ K, k + 2 * L.length = K := ⟨_, rfl⟩
  rw [hK2] at e2 hn2 ⊢
  clear hK2
  go_enter Try.func25, Try.ntmps25
  go_wp2_with fail
  rw [HW.out] at b0 b1 b2 ⊢
  refine e2.mono ?_
  rintro e w3 ⟨rfl, hb3⟩
  go_wp2_with fail
  go_ret
  exact ⟨rfl, hb1.trans (hb3.mono hb1.size)⟩
end Go.Proofs.Ytmpnjijbahjinat
