/- Texts that stand in one: SkLaw2, SkLaw3, StrsLaw, FigPlain, DecPlain. -/
import Derived.Test.YtcaakommnglnbaaGreatDoorStrsJ
import Derived.Laws.OwnMore
import Derived.Lib.QuietBelow
import Derived.BigQuiet
import Derived.Test.YtcaakommnglnbaaGreatDoorSumPlainJ
namespace Go.Proofs.YtcaakommnglnbaaGreatDoor
open Go.RowKit Go.Sort

/-- A sketch in a variable T of a law: rows from lo on, below T. -/
structure SV (w : World) (lo T : Nat) (a : Option Addr) (c : Nat) (S : Sk) : Prop where
  le : lo ≤ T
  box : SkBox w T (.slice a S.rows.length c) (.int .i64 S.added)
  own : OwnSS w lo T (.slice a S.rows.length c) S.rows
theorem SV.new {w : World} {lo : Nat} {a : Option Addr} {c : Nat} {S : Sk} (h : SkOwn w lo w.heap.size (.agg #[.slice a S.rows.length c, .int .i64 S.added]) S) (hlo : lo ≤ w.heap.size) :
    SV (w.alloc (.cells #[.slice a S.rows.length c, .int .i64 S.added] 35)) lo w.heap.size a c S := by
  obtain ⟨v1, e, h1⟩ := h
  simp only [Value.agg.injEq, Array.mk.injEq, List.cons.injEq, and_true] at e
  subst e
  exact ⟨hlo, SkBox.new _ _ _, h1.below ((Below.refl _ _).alloc (Nat.le_refl _) _) (Nat.le_refl _)⟩
theorem SV.on {w w' : World} {lo T : Nat} {a : Option Addr} {c : Nat} {S : Sk} (h : SV w lo T a c S) (hb : Below w.heap.size w w') : SV w' lo T a c S := ⟨h.le, h.box.on hb, h.own.below hb (Nat.le_refl _)⟩
theorem SV.at {w : World} {lo T : Nat} {a : Option Addr} {c : Nat} {S : Sk} (h : SV w lo T a c S) : SSAt w a S.rows w.heap.size := by
  obtain ⟨p, q, hv, hA⟩ := h.own.at
  simp only [Value.slice.injEq, true_and] at hv
  obtain ⟨rfl, rfl⟩ := hv
  exact hA
/-- Another variable's rows are others. -/
theorem SV.tch {P : Nat → Prop} {w w' : World} {lo T : Nat} {a : Option Addr} {c : Nat} {S : Sk} (h : SV w lo T a c S) (ht : Tch P w w') (hn : ∀ k, P k → k < lo ∨ T < k) : SV w' lo T a c S := by
  have hlo := h.le
  exact ⟨h.le, h.box.kept (ht.2 T h.box.lt (fun e => by have := hn T e; omega)), h.own.tch ht fun k hk => by have := hn k hk; omega⟩

/-- A sketch of a law, in its variable. -/
def KBox (w : World) (T : Nat) (a b : Value) : Prop := w.heap[T]? = some (.cells #[a, b] 26 (0, 0))
theorem KBox.lt {w : World} {T : Nat} {a b : Value} (h : KBox w T a b) : T < w.heap.size := (Array.getElem?_eq_some_iff.1 h).1
theorem KBox.new (w : World) (a b : Value) : KBox (w.alloc (.cells #[a, b] 26)) w.heap.size a b := heap_alloc_new w _
theorem KBox.on {w w' : World} {T : Nat} {a b : Value} (h : KBox w T a b) (hb : Below w.heap.size w w') : KBox w' T a b := (hb.block T h.lt).trans h
theorem KBox.cells {w : World} {T : Nat} {a b : Value} (h : KBox w T a b) : w.cell? ⟨T, 0, none⟩ = some a ∧ w.cell? ⟨T, 1, none⟩ = some b := by
  unfold KBox at h
  refine ⟨?_, ?_⟩
  · rw [cell_of_row w T 0 _ _ (0, 0) h]; rfl
  · rw [cell_of_row w T 1 _ _ (0, 0) h]; rfl
def SkSz (S : Sk) : Prop := S.rows.length + tot S.rows S.rows.length ≤ 1048576

set_option maxHeartbeats 1000000 in
theorem szSketch_any (w : World) (a : Option Addr) (c : Nat) (S : Sk) (hA : SSAt w a S.rows w.heap.size) (hm : S.rows.length ≤ maxLen) (hr : ∀ j (hj : j < S.rows.length), S.rows[j].length ≤ maxLen) :
    Calls Tryz.prog 38 #[.agg #[.slice a S.rows.length c, .int .i64 S.added], .int .i64 1048576] w fun e w' => ∃ r : Int, e = .returned (.int .i64 r) ∧ (r = -1 ∨ 0 ≤ r ∧ SkSz S) ∧ Below w.heap.size w w' := by
  obtain ⟨w1, hw1⟩ : ∃ x, w.alloc (.cells #[.slice a S.rows.length c, .int .i64 S.added] 26) = x := ⟨_, rfl⟩
  have hb1 : Below w.heap.size w w1 := by rw [← hw1]; exact (Below.refl _ _).alloc (Nat.le_refl _) _
  have hB : KBox w1 w.heap.size (.slice a S.rows.length c) (.int .i64 S.added) := by rw [← hw1]; exact KBox.new _ _ _
  obtain ⟨b0, b1⟩ := hB.cells
  have c1 := szIntSS_any w1 a c S.rows (hA.on hb1) hm hr
  have HW : Hid (w.alloc (.cells #[.slice a S.rows.length c, .int .i64 S.added] 26) = w1) := hw1
  rw [← hw1] at b0 b1
  clear hw1 hB
  go_enter Tryz.func38, Tryz.ntmps38
  go_wp2_with fail
  rw [HW.out] at b0 b1 ⊢
  refine c1.mono ?_
  rintro e w2 ⟨r, rfl, hr, rfl⟩
  clear c1
  rcases hr with rfl | ⟨hr0, hr1⟩
  · go_wp2_with fail
    go_ret
    exact ⟨_, rfl, .inl rfl, hb1⟩
  · have hr2 : ¬ r < 0 := by omega
    have HR : Hid (SkSz S) := by show _ ≤ _; omega
    clear hr1
    go_wp2_with fail
    go_ret
    exact ⟨_, rfl, .inr ⟨hr0, HR.out⟩, hb1⟩
set_option maxHeartbeats 1000000 in
theorem eqSketch_same (w : World) (a b : Option Addr) (c d : Nat) (S : Sk) (hA : SSAt w a S.rows w.heap.size) (hB : SSAt w b S.rows w.heap.size) (hm : SkSz S) :
    Calls Tryz.prog 56 #[.agg #[.slice a S.rows.length c, .int .i64 S.added], .agg #[.slice b S.rows.length d, .int .i64 S.added]] w fun e w' => e = .returned (.bool true) ∧ Below w.heap.size w w' := by
  obtain ⟨rows, added⟩ := S
  unfold SkSz at hm
  dsimp only at *
  obtain ⟨w0, hw0⟩ : ∃ x, w.alloc (.cells #[.slice a rows.length c, .int .i64 added] 35) = x := ⟨_, rfl⟩
  obtain ⟨w1, hw1⟩ : ∃ x, w0.alloc (.cells #[.slice b rows.length d, .int .i64 added] 35) = x := ⟨_, rfl⟩
  have hb0 : Below w.heap.size w w0 := by rw [← hw0]; exact (Below.refl _ _).alloc (Nat.le_refl _) _
  have hb1 : Below w0.heap.size w0 w1 := by rw [← hw1]; exact (Below.refl _ _).alloc (Nat.le_refl _) _
  have s0 : w0.heap.size = w.heap.size + 1 := by rw [← hw0]; simp
  have hX : SkBox w1 w.heap.size (.slice a rows.length c) (.int .i64 added) := by
    have h : SkBox w0 w.heap.size (.slice a rows.length c) (.int .i64 added) := by rw [← hw0]; exact SkBox.new _ _ _
    exact h.on hb1
  have hY : SkBox w1 (w.heap.size + 1) (.slice b rows.length d) (.int .i64 added) := by rw [← hw1, ← s0]; exact SkBox.new _ _ _
  have hbw : Below w.heap.size w w1 := hb0.trans (hb1.mono hb0.size)
  obtain ⟨x0, x1⟩ := hX.cells
  obtain ⟨y0, y1⟩ := hY.cells
  have HW : Hid ((w.alloc (.cells #[.slice a rows.length c, .int .i64 added] 35)).alloc (.cells #[.slice b rows.length d, .int .i64 added] 35) = w1) := by rw [hw0]; exact hw1
  have e1 := eqIntSS_same w1 a b c d rows (hA.on hbw) (hB.on hbw) hm
  rw [← hw1, ← hw0] at x0 x1 y0 y1
  have hnn : (added != added) = false := by simp
  clear hw0 hw1 s0 hb0 hb1
  go_enter Tryz.func56, Tryz.ntmps56
  go_wp2_with fail
  rw [HW.out] at x0 x1 y0 y1 ⊢
  refine e1.mono ?_
  rintro e w2 ⟨rfl, hb2⟩
  clear e1 x0 x1 y0 y1
  have hbw2 := hbw.trans (hb2.mono hbw.size)
  obtain ⟨x0, x1⟩ := (hX.on hb2).cells
  obtain ⟨y0, y1⟩ := (hY.on hb2).cells
  go_wp2_with fail
  go_ret
  exact ⟨rfl, hbw2⟩
set_option maxHeartbeats 2000000 in
theorem toSketch_any (w : World) (a : Option Addr) (c : Nat) (S : Sk) (hA : SSAt w a S.rows w.heap.size) (hm : SkSz S) :
    Calls Tryz.prog 48 #[.agg #[.slice a S.rows.length c, .int .i64 S.added]] w fun e w' => ∃ v, e = .returned v ∧ SkOwn w' w.heap.size w'.heap.size v S ∧ Below w.heap.size w w' := by
  obtain ⟨rows, added⟩ := S
  unfold SkSz at hm
  dsimp only at *
  obtain ⟨w0, hw0⟩ : ∃ x, w.alloc (.cells #[.slice a rows.length c, .int .i64 added] 26) = x := ⟨_, rfl⟩
  obtain ⟨w1, hw1⟩ : ∃ x, w0.alloc (.cells #[.slice none 0 0, .int .i64 0] 35) = x := ⟨_, rfl⟩
  obtain ⟨w2, hw2⟩ : ∃ x, w1.alloc (.cells #[.slice none 0 0, .int .i64 0] 35) = x := ⟨_, rfl⟩
  have hb0 : Below w.heap.size w w0 := by rw [← hw0]; exact (Below.refl _ _).alloc (Nat.le_refl _) _
  have hb1 : Below w0.heap.size w0 w1 := by rw [← hw1]; exact (Below.refl _ _).alloc (Nat.le_refl _) _
  have hb2 : Below w1.heap.size w1 w2 := by rw [← hw2]; exact (Below.refl _ _).alloc (Nat.le_refl _) _
  have s0 : w0.heap.size = w.heap.size + 1 := by rw [← hw0]; simp
  have s1 : w1.heap.size = w.heap.size + 2 := by rw [← hw1]; simp; omega
  have s2 : w2.heap.size = w.heap.size + 3 := by rw [← hw2]; simp; omega
  have hb12 : Below w0.heap.size w0 w2 := hb1.trans (hb2.mono hb1.size)
  have hbw : Below w.heap.size w w2 := hb0.trans (hb12.mono hb0.size)
  have hB : KBox w2 w.heap.size (.slice a rows.length c) (.int .i64 added) := by
    have h : KBox w0 w.heap.size (.slice a rows.length c) (.int .i64 added) := by rw [← hw0]; exact KBox.new _ _ _
    exact h.on hb12
  have hR : SkBox w2 (w.heap.size + 1) (.slice none 0 0) (.int .i64 0) := by
    have h : SkBox w1 (w.heap.size + 1) (.slice none 0 0) (.int .i64 0) := by rw [← hw1, ← s0]; exact SkBox.new _ _ _
    exact h.on hb2
  have hT : SkBox w2 (w.heap.size + 2) (.slice none 0 0) (.int .i64 0) := by rw [← hw2, ← s1]; exact SkBox.new _ _ _
  have HW : Hid (((w.alloc (.cells #[.slice a rows.length c, .int .i64 added] 26)).alloc (.cells #[.slice none 0 0, .int .i64 0] 35)).alloc (.cells #[.slice none 0 0, .int .i64 0] 35) = w2) := by rw [hw0, hw1]; exact hw2
  obtain ⟨b0, b1⟩ := hB.cells
  have c1 := toIntSS_any w2 a c rows (hA.on hbw) hm
  rw [← hw2, ← hw1, ← hw0] at b0 b1
  have HS2 : Hid (w2.heap.size = w.heap.size + 3) := s2
  clear hw0 hw1 hw2 s0 s1 s2 hb0 hb1 hb2 hb12
  go_enter Tryz.func48, Tryz.ntmps48
  go_wp2_with fail
  rw [HW.out] at b0 b1 ⊢
  refine c1.mono ?_
  rintro e w3 ⟨v3, rfl, ho3, hb3⟩
  obtain ⟨a3, k3, rfl, _⟩ := ho3.at
  have hT3 := hT.on hb3
  have hbw3 := hbw.trans (hb3.mono hbw.size)
  obtain ⟨q, hq⟩ : ∃ q, Value.slice a3 rows.length k3 = q := ⟨_, rfl⟩
  have hB3 : KBox (w3.setCell ⟨w.heap.size + 2, 0, none⟩ (.slice a3 rows.length k3)) w.heap.size (.slice a rows.length c) (.int .i64 added) := (Below.heap_setCell _ _ _ _ (show w.heap.size ≠ w.heap.size + 2 by omega)).trans (hB.on hb3)
  have hT4 := hT3.set0 (.slice a3 rows.length k3)
  have hR4 := (hR.on hb3).far 0 (.slice a3 rows.length k3) (show w.heap.size + 1 ≠ w.heap.size + 2 by omega)
  have hR5 := hR4.far 1 (.int .i64 added) (show w.heap.size + 1 ≠ w.heap.size + 2 by omega)
  have hT5 := hT4.set1 (.int .i64 added)
  obtain ⟨b0', b1'⟩ := hB3.cells
  obtain ⟨t0, t1⟩ := hT3.cells
  have f0 := hT3.thaw 0
  have t1' := hT4.cells.2
  have f1 := hT4.thaw 1
  obtain ⟨y0, y1⟩ := hT5.cells
  obtain ⟨r0, r1⟩ := hR5.cells
  have g0 := hR5.thaw 0
  have g1 := hR5.thaw 1
  have HO : Hid (OwnSS ((w3.setCell ⟨w.heap.size + 2, 0, none⟩ (.slice a3 rows.length k3)).setCell ⟨w.heap.size + 2, 1, none⟩ (.int .i64 added)) w2.heap.size w3.heap.size (.slice a3 rows.length k3) rows) := ho3.put2 hT3 _ _
  have hbw6 : Below w.heap.size w ((w3.setCell ⟨w.heap.size + 2, 0, none⟩ (.slice a3 rows.length k3)).setCell ⟨w.heap.size + 2, 1, none⟩ (.int .i64 added)) := Below.put2 hbw3 (by omega) _ _
  clear c1 b0 b1 hB hT hR hT3 hT4 hT5 hR4 hB3 hA ho3 hq q
  go_wp2_with fail
  obtain ⟨q0, q1⟩ := (hR5.put (.slice a3 rows.length k3) (.int .i64 added)).cells
  refine bodyPost_ret (v := .agg #[.slice a3 rows.length k3, .int .i64 added]) (by simp [results, Tryz.results48, go_sem, q0, q1]) rfl ⟨_, rfl, ⟨_, rfl, ?_⟩, Below.put2 hbw6 (by omega) _ _⟩
  refine (HO.out.put2 hR5 _ _).mono (by have := HS2.out; omega) ?_
  simp
set_option maxHeartbeats 1000000 in
theorem markSketch_any (w : World) (lo hi : Nat) (a : Option Addr) (c : Nat) (S : Sk) (k : Nat) (hO : OwnSS w lo hi (.slice a S.rows.length c) S.rows) (hm : SkSz S) (hk : k ≤ 10000000) :
    Calls Tryz.prog 61 #[.agg #[.slice a S.rows.length c, .int .i64 S.added], .int .i64 k] w fun e w' => e = .returned (.int .i64 ((k + tot S.rows S.rows.length : Nat) : Int)) ∧ (∃ MM, MarkSS k S.rows MM S.rows.length ∧ OwnSS w' lo hi (.slice a S.rows.length c) MM) ∧ Tch (fun b => lo ≤ b ∧ b < hi) w w' := by
  obtain ⟨rows, added⟩ := S
  unfold SkSz at hm
  dsimp only at *
  obtain ⟨w1, hw1⟩ : ∃ x, w.alloc (.cells #[.slice a rows.length c, .int .i64 added] 35) = x := ⟨_, rfl⟩
  have hb1 : Below w.heap.size w w1 := by rw [← hw1]; exact (Below.refl _ _).alloc (Nat.le_refl _) _
  have hB : SkBox w1 w.heap.size (.slice a rows.length c) (.int .i64 added) := by rw [← hw1]; exact SkBox.new _ _ _
  have c1 := markIntSS_any w1 lo hi a c rows k (hO.below hb1 (Nat.le_refl _)) hm hk
  obtain ⟨b0, b1⟩ := hB.cells
  have HW : Hid (w.alloc (.cells #[.slice a rows.length c, .int .i64 added] 35) = w1) := hw1
  rw [← hw1] at b0 b1
  clear hw1 hO hB
  obtain ⟨K, hK⟩ : ∃ K, k + tot rows rows.length = K := ⟨_, rfl⟩
  rw [hK] at c1 ⊢
  clear hK
  go_enter Tryz.func61, Tryz.ntmps61
  go_wp2_with fail
  rw [HW.out] at b0 b1 ⊢
  refine c1.mono ?_
  rintro e w2 ⟨rfl, hM, ht⟩
  have HR : Hid ((∃ MM, MarkSS k rows MM rows.length ∧ OwnSS w2 lo hi (.slice a rows.length c) MM) ∧ Tch (fun b => lo ≤ b ∧ b < hi) w w2) := ⟨hM, (Tch.of_below hb1).trans ht⟩
  clear c1 hM ht b0 b1
  go_wp2_with fail
  go_ret
  exact ⟨rfl, HR.out⟩
set_option maxHeartbeats 1000000 in
theorem heldSketch_any (w : World) (lo hi : Nat) (a : Option Addr) (c : Nat) (S : Sk) (MM : List (List Int)) (k : Nat) (hO : OwnSS w lo hi (.slice a S.rows.length c) MM) (hM : MarkSS k S.rows MM S.rows.length) (hm : SkSz S) (hk : k ≤ 10000000) :
    Calls Tryz.prog 63 #[.agg #[.slice a S.rows.length c, .int .i64 S.added], .int .i64 k] w fun e w' => e = .returned (.int .i64 ((k + tot S.rows S.rows.length : Nat) : Int)) ∧ Below w.heap.size w w' := by
  obtain ⟨rows, added⟩ := S
  unfold SkSz at hm
  dsimp only at *
  obtain ⟨w1, hw1⟩ : ∃ x, w.alloc (.cells #[.slice a rows.length c, .int .i64 added] 35) = x := ⟨_, rfl⟩
  have hb1 : Below w.heap.size w w1 := by rw [← hw1]; exact (Below.refl _ _).alloc (Nat.le_refl _) _
  have hB : SkBox w1 w.heap.size (.slice a rows.length c) (.int .i64 added) := by rw [← hw1]; exact SkBox.new _ _ _
  have c1 := heldIntSS_any w1 lo hi a c rows MM k (hO.below hb1 (Nat.le_refl _)) hM hm hk
  obtain ⟨b0, b1⟩ := hB.cells
  have HW : Hid (w.alloc (.cells #[.slice a rows.length c, .int .i64 added] 35) = w1) := hw1
  rw [← hw1] at b0 b1
  have hn : ¬ (((k + tot rows rows.length : Nat) : Int) < 0) := by omega
  clear hw1 hO hB hM
  obtain ⟨K, hK⟩ : ∃ K, k + tot rows rows.length = K := ⟨_, rfl⟩
  rw [hK] at c1 hn ⊢
  clear hK
  go_enter Tryz.func63, Tryz.ntmps63
  go_wp2_with fail
  rw [HW.out] at b0 b1 ⊢
  refine c1.mono ?_
  rintro e w2 ⟨rfl, rfl⟩
  go_wp2_with fail
  go_ret
  exact ⟨rfl, hb1⟩
end Go.Proofs.YtcaakommnglnbaaGreatDoor

namespace Go.Proofs.YtcaakommnglnbaaGreatDoor
open Go.RowKit

/-- A sketch in a variable whose rows hold other numbers. -/
structure SM (w : World) (lo T : Nat) (a : Option Addr) (c : Nat) (S : Sk) (MM : List (List Int)) : Prop where
  le : lo ≤ T
  box : SkBox w T (.slice a S.rows.length c) (.int .i64 S.added)
  own : OwnSS w lo T (.slice a S.rows.length c) MM
theorem SM.on {w w' : World} {lo T : Nat} {a : Option Addr} {c : Nat} {S : Sk} {MM : List (List Int)} (h : SM w lo T a c S MM) (hb : Below w.heap.size w w') : SM w' lo T a c S MM := ⟨h.le, h.box.on hb, h.own.below hb (Nat.le_refl _)⟩
end Go.Proofs.YtcaakommnglnbaaGreatDoor

namespace Go.Proofs.YtcaakommnglnbaaGreatDoor
open Go.RowKit Go.Sort
theorem Tryz.infoStr : (Tryz.prog.info? 9).map (fun i => (i.zero, i.size, i.bytes)) = some (some (.string ⟨#[]⟩), 1, 16) := by kernel_rfl
/-- How much the first k of them hold. -/
def wgtL (L : List ByteArray) : Nat := (L.map ByteArray.size).sum
theorem wgtL_take (L : List ByteArray) (k : Nat) (h : k < L.length) : wgtL (L.take (k + 1)) = wgtL (L.take k) + L[k].size := by
  unfold wgtL
  rw [List.take_succ_eq_append_getElem h, List.map_append, List.sum_append]
  simp
theorem wgtL_mem {L : List ByteArray} {p : ByteArray} (h : p ∈ L) : p.size ≤ wgtL L := by
  induction L with
  | nil => cases h
  | cons q r ih =>
    unfold wgtL at *
    rw [List.map_cons, List.sum_cons]
    rcases List.mem_cons.1 h with h | h
    · rw [h]; omega
    · have := ih h; omega
set_option maxHeartbeats 2000000 in
theorem szStringS_any (w : World) (a : Option Addr) (c : Nat) (L : List ByteArray) (left : Int) (h0 : 0 ≤ left) (h1 : left ≤ 1048576) (hA : LAt w a L w.heap.size) (hm : L.length ≤ maxLen) (hz : ∀ j (hj : j < L.length), L[j].size ≤ maxLen) :
    Calls Tryz.prog 37 #[.slice a L.length c, .int .i64 left] w fun e w' => ∃ r : Int, e = .returned (.int .i64 r) ∧ (r = -1 ∨ 0 ≤ r ∧ r + (L.length : Int) + (wgtL L : Int) = left) ∧ w' = w := by
  unfold maxLen at hm hz
  by_cases hC : left - (L.length : Int) < 0
  · go_enter Tryz.func37, Tryz.ntmps37
    go_wp2
    go_ret
    exact ⟨_, rfl, .inl rfl, rfl⟩
  · go_enter Tryz.func37, Tryz.ntmps37
    go_wp2
    go_loopw [1, 5] (fun r i wr => Box (∃ (k : Nat) (x : Int), k ≤ L.length ∧ 0 ≤ x ∧ x ≤ 1048576 ∧ r = .int .i64 x ∧ i = .int .i64 k ∧ Hid (x + (L.length : Int) + (wgtL (L.take k) : Int) = left) ∧ wr = w))
      (fun _ i _ => L.length - (intOf i).toNat)
    case atStart => exact ⟨⟨0, left - (L.length : Int), by omega, by omega, by omega, rfl, rfl, (by show _ = _; simp [wgtL]), rfl⟩⟩
    case round =>
      obtain ⟨k, x, hk, hx0, hx1, rfl, rfl, HX, hwr⟩ := hrel.out
      rw [hwr]
      clear hwr hrel
      by_cases hlt : k < L.length
      · obtain ⟨g, off, rfl, _, hc⟩ := hA k hlt
        obtain ⟨p, hp⟩ : ∃ p, L[k] = p := ⟨_, rfl⟩
        have hpz := hz k hlt
        rw [hp] at hc hpz
        have HW : Hid (wgtL (L.take (k + 1)) = wgtL (L.take k) + p.size) := by show _ = _; rw [wgtL_take L k hlt, hp]
        have hi1 : (0 : Int) ≤ (k : Int) := by omega
        have hi2 : (k : Int) < (L.length : Int) := by omega
        clear hA hz hp
        by_cases hn : x - (p.size : Int) < 0
        · go_wp2
          go_ret
          exact ⟨_, rfl, .inl rfl, rfl⟩
        · go_wp2
          go_roundw
          case rel =>
            try ((repeat apply Exists.intro); refine ⟨?_, rfl⟩)
            exact ⟨⟨k + 1, x - (p.size : Int), by omega, by omega, by omega, by go_num, by go_num, (by show _ = _; have h1 := HX.out; have h2 := HW.out; omega), by first | rfl | trivial⟩⟩
          case measure => simp [intOf]; omega
      · have hi2 : ¬ (k : Int) < (L.length : Int) := by omega
        have hke : k = L.length := by omega
        have HE : Hid (x + (L.length : Int) + (wgtL L : Int) = left) := by
          have h := HX.out
          rw [hke, List.take_length] at h
          exact h
        clear HX hke
        go_wp2
        go_ret
        exact ⟨x, rfl, .inr ⟨hx0, HE.out⟩, rfl⟩
set_option maxHeartbeats 1000000 in
theorem toStringS_any (w : World) (a : Option Addr) (cap : Nat) (l : List ByteArray) (hL : LAt w a l w.heap.size) (hm : l.length ≤ 1048576) :
    Calls Tryz.prog 47 #[.slice a l.length cap] w fun e w' => ∃ v, e = .returned v ∧ OwnV w' w.heap.size 9 v (strs l) ∧ Below w.heap.size w w' := by
  obtain ⟨i0, hi, hz0, hz1, hz2⟩ := info_parts Tryz.infoStr
  obtain ⟨w0, hmk, hown0, hgr0⟩ := run_make_full (P := Tryz.prog) w w.heap.size 23 9 i0 (.string ⟨#[]⟩) 1 Tryz.underlying23 hi hz0 hz1 .i64 .i64 l.length (by rw [hz2]; omega) (by unfold maxLen; omega) (Nat.le_refl _)
  have hb0 : Below w.heap.size w w0 := ⟨hgr0.os, hgr0.tape, hgr0.output, hgr0.size, fun j hj => hgr0.block j hj (by simp)⟩
  obtain ⟨G, hG⟩ : ∃ G, w.heap.size = G := ⟨_, rfl⟩
  have hown : OwnV w0 G 9 (.slice (some ⟨G, 0, none⟩) l.length l.length) (strs [] ++ List.replicate l.length (.string ⟨#[]⟩)) := by
    rw [← hG]
    have := hown0
    simp only [Value.cells, Nat.mul_one, toList_madeCells_one] at this
    unfold OwnV
    simpa [Go.Proofs.YtcaakommnglnbaaGreatDoor.strs] using this
  rw [hG] at hmk
  clear hown0 hgr0 hi hz0 hz1 hz2
  go_enter Tryz.func47, Tryz.ntmps47
  go_wp2
  go_loopw [4] (fun i wr => Box (∃ (k : Nat), k ≤ l.length ∧ i = .int .i64 k ∧ OwnV wr G 9 (.slice (some ⟨G, 0, none⟩) l.length l.length) (strs (l.take k) ++ List.replicate (l.length - k) (.string ⟨#[]⟩)) ∧ Below w.heap.size w wr))
    (fun i _ => l.length - (intOf i).toNat)
  case atStart => exact ⟨⟨0, by omega, rfl, by simpa using hown, hb0⟩⟩
  case round =>
    obtain ⟨k, hk, rfl, hown1, hbel⟩ := hrel.out
    by_cases hlt : k < l.length
    · obtain ⟨g, off, rfl, hg, hc0⟩ := (hL.below hbel (Nat.le_refl _)) k hlt
      have hlen : l.length = (strs (l.take k) ++ List.replicate (l.length - k) (Value.string ⟨#[]⟩)).length := by simp [strs_length]; omega
      have hst := hown1.stored hlen k (.string l[k])
      have hset : (strs (l.take k) ++ List.replicate (l.length - k) (Value.string ⟨#[]⟩)).set k (.string l[k]) = strs (l.take (k + 1)) ++ List.replicate (l.length - (k + 1)) (.string ⟨#[]⟩) := by
        rw [List.set_append_right _ _ (by simp [strs_length]; omega), strs_length, List.length_take, show k - min k l.length = 0 by omega, show l.length - k = (l.length - (k + 1)) + 1 by omega, List.replicate_succ, List.set_cons_zero, List.take_succ_eq_append_getElem hlt]
        simp only [Go.Proofs.YtcaakommnglnbaaGreatDoor.strs, List.map_append, List.map_cons, List.map_nil, List.append_assoc]
        rfl
      rw [hset] at hst
      obtain ⟨a', cap', hv, hc⟩ := hown1.shape
      obtain ⟨g', hg', hcell, hfr, _, hgs⟩ := hc k (by omega)
      rw [hg'] at hv
      simp only [Value.slice.injEq, Option.some.injEq, Addr.mk.injEq, and_true] at hv
      obtain ⟨rfl, e1, e2⟩ := hv
      clear e1 e2
      obtain ⟨x, hx⟩ : ∃ x, l[k] = x := ⟨_, rfl⟩
      obtain ⟨u, hu⟩ : ∃ u, (strs (l.take k) ++ List.replicate (l.length - k) (Value.string ⟨#[]⟩))[k]'(by omega) = u := ⟨_, rfl⟩
      rw [hx] at hc0 hst
      rw [hu] at hcell
      have HST : Hid (OwnV (wr.setCell ⟨G, k, none⟩ (.string x)) G 9 (.slice (some ⟨G, 0, none⟩) l.length l.length) (strs (l.take (k + 1)) ++ List.replicate (l.length - (k + 1)) (.string ⟨#[]⟩)) ∧ Below w.heap.size w (wr.setCell ⟨G, k, none⟩ (.string x))) := ⟨hst.1, hbel.setCell (by simp; omega) _⟩
      have hi1 : (0 : Int) ≤ (k : Int) := by omega
      have hi2 : (k : Int) < (l.length : Int) := by omega
      clear hrel hL hst hset hlen hc hu hx hg' hown1 hmk hown hb0
      go_wp2
      go_roundw
      case rel =>
        try ((repeat apply Exists.intro); refine ⟨?_, rfl⟩)
        exact ⟨⟨k + 1, by omega, by go_num, HST.out.1, HST.out.2⟩⟩
      case measure => simp [intOf]; omega
    · go_wp2
      go_ret
      have hke : k = l.length := by omega
      subst hke
      simp only [List.take_length, Nat.sub_self, List.replicate_zero, List.append_nil] at hown1
      exact ⟨_, rfl, by rw [hG]; exact hown1, hbel⟩

set_option maxHeartbeats 1000000 in
theorem eqStringS_same (w : World) (a b : Option Addr) (c1 c2 : Nat) (l : List ByteArray) (hA : LAt w a l w.heap.size) (hB : LAt w b l w.heap.size) (hl : l.length ≤ 1048576) :
    Calls Tryz.prog 55 #[.slice a l.length c1, .slice b l.length c2] w fun e w' => e = .returned (.bool true) ∧ Below w.heap.size w w' := by
  go_enter Tryz.func55, Tryz.ntmps55
  go_wp2
  go_loopw [5] (fun i wr => Box (∃ (k nq : Nat), k ≤ l.length ∧ i = .int .i64 k ∧ wr = w.drewN nq))
    (fun i _ => l.length - (intOf i).toNat)
  case atStart => exact ⟨⟨0, 0, by omega, rfl, rfl⟩⟩
  case round =>
    obtain ⟨k, nq, hk, rfl, rfl⟩ := hrel.out
    by_cases hlt : k < l.length
    · obtain ⟨g, off, rfl, _, hc1⟩ := hA k hlt
      obtain ⟨g2, off2, rfl, _, hc2⟩ := hB k hlt
      obtain ⟨x, hx⟩ : ∃ x, l[k] = x := ⟨_, rfl⟩
      rw [hx] at hc1 hc2
      clear hA hB hx hrel
      have hi1 : (0 : Int) ≤ (k : Int) := by omega
      have hi2 : (k : Int) < (l.length : Int) := by omega
      go_wp2
      go_quiet (fail)
      go_wp2
      go_roundw
      case rel =>
        try ((repeat apply Exists.intro); refine ⟨?_, rfl⟩)
        exact ⟨⟨k + 1, _, by omega, by go_num, rfl⟩⟩
      case measure => simp [intOf]; omega
    · go_wp2
      go_ret
      exact ⟨rfl, ⟨rfl, rfl, rfl, Nat.le_refl _, fun _ _ => rfl⟩⟩

end Go.Proofs.YtcaakommnglnbaaGreatDoor

namespace Go.Proofs.YtcaakommnglnbaaGreatDoor
open Go.RowKit

/-- A figure. -/
def fig (x : Nat) : UInt8 := if x < 10 then UInt8.ofNat (48 + x) else UInt8.ofNat (87 + x)

theorem fig_lo {x : Nat} (h : x < 10) : (fig x).toNat = 48 + x := by simp [fig, h]; omega

theorem fig_hi {x : Nat} (h : ¬ x < 10) (h2 : x < 16) : (fig x).toNat = 87 + x := by simp [fig, h]; omega
end Go.Proofs.YtcaakommnglnbaaGreatDoor

namespace Go.Proofs.YtcaakommnglnbaaGreatDoor
open Go.RowKit

/-- The figures of n ahead of those in s. -/
def digF : Nat → Nat → List UInt8 → List UInt8
  | 0, _, s => s
  | f + 1, n, s => if n = 0 then s else digF f (n / 10) (fig (n % 10) :: s)

/-- What Decimal answers. -/
def decOf (n : Int) : List UInt8 := if n = 0 then [48] else if n < 0 then 45 :: digF 20 n.natAbs [] else digF 20 n.natAbs []

theorem digF_on {f n : Nat} {s : List UInt8} (h : n ≠ 0) : digF (f + 1) n s = digF f (n / 10) (fig (n % 10) :: s) := by simp [digF, h]
theorem digF_zero {f : Nat} {s : List UInt8} : digF f 0 s = s := by cases f <;> simp [digF]

abbrev isDig (b : UInt8) : Prop := 48 ≤ b.toNat ∧ b.toNat ≤ 57
def dOf (b : UInt8) : Nat := b.toNat - 48

theorem fig_dOf {b : UInt8} (h : isDig b) : fig (dOf b) = b := by
  apply UInt8.toNat_inj.1
  unfold isDig at h
  rw [fig_lo (by unfold dOf; omega)]
  unfold dOf
  omega

/-- The number that figures tell behind n. -/
def valF (n : Nat) (t : List UInt8) : Nat := t.foldl (fun m b => m * 10 + dOf b) n

theorem valF_nil (n : Nat) : valF n [] = n := rfl
theorem valF_cons (n : Nat) (b : UInt8) (r : List UInt8) : valF n (b :: r) = valF (n * 10 + dOf b) r := by unfold valF; rw [List.foldl_cons]
theorem valF_ge (t : List UInt8) : ∀ n : Nat, n ≤ valF n t := by
  induction t with
  | nil => intro n; rw [valF_nil]; exact Nat.le_refl n
  | cons b r ih => intro n; have h := ih (n * 10 + dOf b); rw [valF_cons]; omega
theorem valF_snoc (t : List UInt8) : ∀ (n : Nat) (b : UInt8), valF n (t ++ [b]) = valF n t * 10 + dOf b := by
  induction t with
  | nil => intro n b; rfl
  | cons c t ih => intro n b; rw [List.cons_append, valF_cons, valF_cons]; exact ih _ b

/-- The figures of a number that figures tell: the same, where the first is not 0. -/
theorem digF_val (b : UInt8) (hb : isDig b) (h0 : dOf b ≠ 0) (r : List UInt8) : ∀ (n : Nat), n = r.length → (∀ c ∈ r, isDig c) → ∀ (f : Nat) (s : List UInt8), n + 1 ≤ f → digF f (valF 0 (b :: r)) s = b :: r ++ s := by
  intro n
  induction n generalizing r with
  | zero =>
    intro hn _ f s hf
    have hr : r = [] := List.length_eq_zero_iff.1 hn.symm
    subst hr
    obtain ⟨f, rfl⟩ : ∃ g, f = g + 1 := ⟨f - 1, by omega⟩
    have hv : valF 0 [b] = dOf b := by rw [valF_cons, valF_nil]; omega
    have hl : dOf b < 10 := by unfold dOf; unfold isDig at hb; omega
    rw [hv, digF_on h0, show dOf b / 10 = 0 by omega, show dOf b % 10 = dOf b by omega, digF_zero, fig_dOf hb]
    rfl
  | succ n ih =>
    intro hn hr f s hf
    have hne : r ≠ [] := fun h => by subst h; simp at hn
    obtain ⟨p, c, rfl⟩ : ∃ p c, r = p ++ [c] := ⟨r.dropLast, r.getLast hne, (List.dropLast_concat_getLast hne).symm⟩
    have hc := hr c (by simp)
    have hl : dOf c < 10 := by unfold dOf; unfold isDig at hc; omega
    obtain ⟨f, rfl⟩ : ∃ g, f = g + 1 := ⟨f - 1, by omega⟩
    have hv : valF 0 (b :: (p ++ [c])) = valF 0 (b :: p) * 10 + dOf c := valF_snoc (b :: p) 0 c
    have hg : dOf b ≤ valF 0 (b :: p) := by have := valF_ge p (0 * 10 + dOf b); rw [valF_cons]; omega
    rw [hv, digF_on (by omega), show (valF 0 (b :: p) * 10 + dOf c) / 10 = valF 0 (b :: p) by omega, show (valF 0 (b :: p) * 10 + dOf c) % 10 = dOf c by omega, fig_dOf hc,
      ih p (by simp at hn; omega) (fun x hx => hr x (by simp [hx])) f (c :: s) (by omega)]
    simp

/-- No figure 0 stands first in the figures of a number above 0. -/
theorem digF_head : ∀ (f n : Nat) (s : List UInt8), 0 < n → n < 10 ^ f → ∃ b r, digF f n s = b :: r ∧ b ≠ 48
  | 0, n, s, h0, h1 => by simp at h1; omega
  | f + 1, n, s, h0, h1 => by
    rw [digF_on (by omega)]
    by_cases h : n / 10 = 0
    · rw [h, digF_zero]
      refine ⟨_, _, rfl, fun hb => ?_⟩
      have := congrArg UInt8.toNat hb
      rw [fig_lo (by omega)] at this
      simp at this
      omega
    · exact digF_head f (n / 10) _ (by omega) (by rw [Nat.pow_succ] at h1; omega)

/-- What ReadDecimal finds: n is read of k figures. -/
def rdF : Nat → Nat → List UInt8 → Option Nat
  | n, k, [] => if k = 0 ∨ 1000000000 < n then none else some n
  | n, k, b :: r => if 1000000000 < n then none else if b.toNat < 48 ∨ 57 < b.toNat then none else if k = 1 ∧ n = 0 then none else rdF (n * 10 + dOf b) (k + 1) r

theorem rdF_tail : ∀ (t : List UInt8) (n k : Nat), 1 ≤ k → ¬ (k = 1 ∧ n = 0) → rdF n k t = if (∀ b ∈ t, isDig b) ∧ valF n t ≤ 1000000000 then some (valF n t) else none
  | [], n, k, hk, _ => by
    rw [valF_nil]
    unfold rdF
    by_cases h : n ≤ 1000000000
    · rw [if_neg (by omega), if_pos ⟨by simp, h⟩]
    · rw [if_pos (by omega), if_neg (fun hh => h hh.2)]
  | b :: r, n, k, hk, hz => by
    unfold rdF
    by_cases h : 1000000000 < n
    · rw [if_pos h, if_neg]
      intro hh
      have := valF_ge (b :: r) n
      omega
    · rw [if_neg h]
      by_cases hd : b.toNat < 48 ∨ 57 < b.toNat
      · rw [if_pos hd, if_neg]
        intro hh
        have := hh.1 b (by simp)
        unfold isDig at this
        omega
      · rw [if_neg hd, if_neg hz, rdF_tail r _ (k + 1) (by omega) (by omega)]
        have hb : 48 ≤ b.toNat ∧ b.toNat ≤ 57 := by omega
        rw [valF_cons]
        have hiff : ((∀ c ∈ r, isDig c) ∧ valF (n * 10 + dOf b) r ≤ 1000000000) ↔ ((∀ c ∈ b :: r, isDig c) ∧ valF (n * 10 + dOf b) r ≤ 1000000000) := by
          constructor
          · rintro ⟨h1, h2⟩
            refine ⟨fun c hc => ?_, h2⟩
            rcases List.mem_cons.1 hc with rfl | hc
            · exact hb
            · exact h1 c hc
          · rintro ⟨h1, h2⟩
            exact ⟨fun c hc => h1 c (List.mem_cons_of_mem _ hc), h2⟩
        by_cases hx : (∀ c ∈ r, isDig c) ∧ valF (n * 10 + dOf b) r ≤ 1000000000
        · rw [if_pos hx, if_pos (hiff.1 hx)]
        · rw [if_neg hx, if_neg (fun hh => hx (hiff.2 hh))]

/-- What the other text says: at most ten figures, whose number has just them for its Decimal. -/
def sdF (t : List UInt8) : Option Nat :=
  if t.length ≤ 10 ∧ (∀ b ∈ t, isDig b) ∧ valF 0 t ≤ 1000000000 ∧ decOf (valF 0 t : Nat) = t then some (valF 0 t) else none

theorem valF_pow (t : List UInt8) : ∀ n : Nat, n * 10 ^ t.length ≤ valF n t := by
  induction t with
  | nil => intro n; rw [valF_nil]; simp
  | cons b r ih =>
    intro n
    have h := ih (n * 10 + dOf b)
    rw [valF_cons, List.length_cons, Nat.pow_succ]
    refine Nat.le_trans ?_ h
    rw [show n * (10 ^ r.length * 10) = (n * 10) * 10 ^ r.length by rw [Nat.mul_comm (10 ^ r.length) 10, Nat.mul_assoc]]
    exact Nat.mul_le_mul_right _ (by omega)

theorem sdF_eq (t : List UInt8) : sdF t = rdF 0 0 t := by
  match t with
  | [] => rfl
  | b :: r =>
    by_cases hd : b.toNat < 48 ∨ 57 < b.toNat
    · have h1 : rdF 0 0 (b :: r) = none := by simp [rdF, hd]
      rw [h1]
      unfold sdF
      rw [if_neg]
      intro hh
      have := hh.2.1 b (by simp)
      unfold isDig at this
      omega
    · have hb : isDig b := by unfold isDig; omega
      by_cases h0 : dOf b = 0
      · have hb48 : b = 48 := by
          apply UInt8.toNat_inj.1
          unfold dOf at h0
          unfold isDig at hb
          show b.toNat = 48
          omega
        match r with
        | [] => subst hb48; decide
        | c :: r =>
          have h1 : rdF 0 0 (b :: c :: r) = none := by
            simp only [rdF, h0]
            rw [if_neg (by omega), if_neg hd, if_neg (by omega), if_neg (by omega)]
            by_cases hc : c.toNat < 48 ∨ 57 < c.toNat
            · rw [if_pos hc]
            · rw [if_neg hc, if_pos (by simp)]
          rw [h1]
          unfold sdF
          rw [if_neg]
          rintro ⟨_, _, hv, he⟩
          unfold decOf at he
          by_cases hz : valF 0 (b :: c :: r) = 0
          · rw [if_pos (by omega)] at he
            simp at he
          · rw [if_neg (by omega), if_neg (by omega)] at he
            obtain ⟨x, y, hxy, hx⟩ := digF_head 20 (valF 0 (b :: c :: r)) [] (by omega) (by omega)
            rw [show ((valF 0 (b :: c :: r) : Nat) : Int).natAbs = valF 0 (b :: c :: r) by omega, hxy] at he
            rw [hb48] at he
            simp at he
            exact hx he.1
      · have h1 : rdF 0 0 (b :: r) = rdF (dOf b) 1 r := by
          simp only [rdF]
          rw [if_neg (by omega), if_neg hd, if_neg (by omega)]
          simp
        have hv : valF 0 (b :: r) = valF (dOf b) r := by rw [valF_cons]; congr 1; omega
        rw [h1, rdF_tail r (dOf b) 1 (by omega) (by omega)]
        unfold sdF
        rw [hv]
        by_cases hall : (∀ x ∈ r, isDig x) ∧ valF (dOf b) r ≤ 1000000000
        · have hlen : r.length ≤ 9 := by
            refine Classical.byContradiction fun hl => ?_
            have h2 := valF_pow r (dOf b)
            have h3 : 10 ^ 10 ≤ 10 ^ r.length := Nat.pow_le_pow_right (by decide) (by omega)
            have h4 : 1 * 10 ^ r.length ≤ dOf b * 10 ^ r.length := Nat.mul_le_mul_right _ (by omega)
            omega
          have hge := valF_ge r (dOf b)
          have hdec : decOf (valF (dOf b) r : Nat) = b :: r := by
            unfold decOf
            rw [if_neg (by omega), if_neg (by omega), show ((valF (dOf b) r : Nat) : Int).natAbs = valF (dOf b) r by omega, ← hv, digF_val b hb h0 r _ rfl hall.1 20 [] (by omega)]
            simp
          rw [if_pos hall, if_pos ⟨by simp; omega, fun c hc => (List.mem_cons.1 hc).elim (fun h => h ▸ hb) (hall.1 c), hall.2, hdec⟩]
        · rw [if_neg hall, if_neg]
          rintro ⟨_, h3, h4, _⟩
          exact hall ⟨fun x hx => h3 x (by simp [hx]), h4⟩
end Go.Proofs.YtcaakommnglnbaaGreatDoor
