/- Texts that stand in one: SamePol, SeatKit, SkOkImpl. -/
import Derived.Test.YtbcjkinalghokafDoorSameIntsJ
import Derived.Test.YtbcjkinalghokafDoorMarkTextJ
import Derived.Test.YtbcjkinalghokafDoorPolHoldJ
import Derived.Test.YtbcjkinalghokafDoorSnocSJ
import Derived.Test.YtbcjkinalghokafDoorPolSizesJ
import Derived.Shelf.Abstract
import Derived.Test.YtbcjkinalghokafDoorSkOkSpecJ
import Derived.Test.YtbcjkinalghokafDoorShelf
namespace Go.Proofs.YtbcjkinalghokafDoor
open Go.RowKit Go.Sort

set_option maxHeartbeats 1000000 in
theorem sameTexts_same (w : World) (a b : Option Addr) (c1 c2 : Nat) (l : List ByteArray) (hA : LAt w a l w.heap.size) (hB : LAt w b l w.heap.size) (hl : l.length ≤ 1048576) :
    Calls Tryd.prog 38 #[.slice a l.length c1, .slice b l.length c2] w fun e w' => e = .returned (.bool true) ∧ Below w.heap.size w w' := by
  go_enter Tryd.func38, Tryd.ntmps38
  go_wp2
  go_loopw [5] (fun i wr => Box (∃ (k nq : Nat), k ≤ l.length ∧ i = .int .i64 k ∧ wr = w.drewN nq))
    (fun i _ => l.length - (intOf i).toNat)
  case atStart => exact ⟨⟨0, 0, by omega, rfl, rfl⟩⟩
  case round =>
    obtain ⟨k, nq, hk, rfl, rfl⟩ := hrel.out
    by_cases hlt : k < l.length
    · obtain ⟨g, off, rfl, _, hc1⟩ := hA k hlt
      obtain ⟨g2, off2, rfl, _, hc2⟩ := hB k hlt
      obtain ⟨x, hx⟩ : ∃ x, l[k] = x := ⟨_, rfl⟩
      rw [hx] at hc1 hc2
      clear hA hB hx hrel
      have hi1 : (0 : Int) ≤ (k : Int) := by omega
      have hi2 : (k : Int) < (l.length : Int) := by omega
      go_wp2
      go_quiet (fail)
      go_wp2
      go_roundw
      case rel =>
        try ((repeat apply Exists.intro); refine ⟨?_, rfl⟩)
        exact ⟨⟨k + 1, _, by omega, by go_num, rfl⟩⟩
      case measure => simp [intOf]; omega
    · go_wp2
      go_ret
      exact ⟨rfl, ⟨rfl, rfl, rfl, Nat.le_refl _, fun _ _ => rfl⟩⟩
set_option maxRecDepth 100000 in
set_option maxHeartbeats 2000000 in
theorem samePolicy_same (w : World) (aw am ak bw bm bk : Option Addr) (cw cm ck dw dm dk : Nat) (P : Pol) (hA : PolAt w aw am ak P w.heap.size) (hB : PolAt w bw bm bk P w.heap.size) (hsz : PolSz P) :
    Calls Tryd.prog 11 #[.agg #[.slice aw P.win.length cw, .slice am P.main.length cm, .slice ak P.sk.rows.length ck, .int .i64 P.sk.added], .agg #[.slice bw P.win.length dw, .slice bm P.main.length dm, .slice bk P.sk.rows.length dk, .int .i64 P.sk.added]] w fun e w' => e = .returned (.bool true) ∧ Below w.heap.size w w' := by
  obtain ⟨l1, l2, l3⟩ := hsz.parts
  obtain ⟨w0, hw0⟩ : ∃ x, w.alloc (.cells #[.slice aw P.win.length cw, .slice am P.main.length cm, .slice ak P.sk.rows.length ck, .int .i64 P.sk.added] 29) = x := ⟨_, rfl⟩
  obtain ⟨w1, hw1⟩ : ∃ x, w0.alloc (.cells #[.slice bw P.win.length dw, .slice bm P.main.length dm, .slice bk P.sk.rows.length dk, .int .i64 P.sk.added] 29) = x := ⟨_, rfl⟩
  have hb0 : Below w.heap.size w w0 := by rw [← hw0]; exact (Below.refl _ _).alloc (Nat.le_refl _) _
  have hb01 : Below w0.heap.size w0 w1 := by rw [← hw1]; exact (Below.refl _ _).alloc (Nat.le_refl _) _
  have s0 : w0.heap.size = w.heap.size + 1 := by rw [← hw0]; simp
  have hb1 : Below w.heap.size w w1 := hb0.trans (hb01.mono hb0.size)
  have hX : PBox w1 w.heap.size (.slice aw P.win.length cw) (.slice am P.main.length cm) (.slice ak P.sk.rows.length ck) (.int .i64 P.sk.added) := by
    have h : PBox w0 w.heap.size (.slice aw P.win.length cw) (.slice am P.main.length cm) (.slice ak P.sk.rows.length ck) (.int .i64 P.sk.added) := by rw [← hw0]; exact PBox.new _ _ _ _ _
    exact h.on hb01
  have hY : PBox w1 (w.heap.size + 1) (.slice bw P.win.length dw) (.slice bm P.main.length dm) (.slice bk P.sk.rows.length dk) (.int .i64 P.sk.added) := by rw [← hw1, ← s0]; exact PBox.new _ _ _ _ _
  have HW : Hid ((w.alloc (.cells #[.slice aw P.win.length cw, .slice am P.main.length cm, .slice ak P.sk.rows.length ck, .int .i64 P.sk.added] 29)).alloc (.cells #[.slice bw P.win.length dw, .slice bm P.main.length dm, .slice bk P.sk.rows.length dk, .int .i64 P.sk.added] 29) = w1) := by rw [hw0]; exact hw1
  have HON : Hid (∀ W, Below w1.heap.size w1 W → PBox W w.heap.size (.slice aw P.win.length cw) (.slice am P.main.length cm) (.slice ak P.sk.rows.length ck) (.int .i64 P.sk.added) ∧ PBox W (w.heap.size + 1) (.slice bw P.win.length dw) (.slice bm P.main.length dm) (.slice bk P.sk.rows.length dk) (.int .i64 P.sk.added) ∧ PolAt W aw am ak P W.heap.size ∧ PolAt W bw bm bk P W.heap.size ∧ Below w.heap.size w W) := fun W h => ⟨hX.on h, hY.on h, (hA.on hb1).on h, (hB.on hb1).on h, hb1.trans (h.mono hb1.size)⟩
  obtain ⟨x0, x1, x2, x3⟩ := hX.cells
  obtain ⟨y0, y1, y2, y3⟩ := hY.cells
  have c1 := sameTexts_same w1 aw bw cw dw P.win (hA.on hb1).1 (hB.on hb1).1 l1
  rw [← hw1, ← hw0] at x0 x1 x2 x3 y0 y1 y2 y3
  clear hw0 hw1 hb0 hb01 s0 hX hY hA hB hsz
  go_enter Tryd.func11, Tryd.ntmps11
  go_wp2_with fail
  rw [HW.out]
  refine c1.mono ?_
  rintro e w2 ⟨rfl, hb2⟩
  obtain ⟨hX, hY, hA, hB, _⟩ := HON.out w2 hb2
  obtain ⟨u0, u1, u2, u3⟩ := hX.cells
  obtain ⟨v0, v1, v2, v3⟩ := hY.cells
  have c2 := sameTexts_same w2 am bm cm dm P.main hA.2.1 hB.2.1 l2
  clear c1 hX hY hA hB x0 x1 x2 x3 y0 y1 y2 y3
  go_wp2_with fail
  refine c2.mono ?_
  rintro e w3 ⟨rfl, hb3⟩
  have hb3' := hb2.trans (hb3.mono hb2.size)
  obtain ⟨hX, hY, hA, hB, _⟩ := HON.out w3 hb3'
  obtain ⟨x0, x1, x2, x3⟩ := hX.cells
  obtain ⟨y0, y1, y2, y3⟩ := hY.cells
  have c3 := sameSketch_same w3 ak bk ck dk P.sk hA.2.2 hB.2.2 l3
  clear c2 hX hY hA hB u0 u1 u2 u3 v0 v1 v2 v3
  go_wp2_with fail
  refine c3.mono ?_
  rintro e w4 ⟨rfl, hb4⟩
  obtain ⟨_, _, _, _, hbw⟩ := HON.out w4 (hb3'.trans (hb4.mono hb3'.size))
  clear c3 x0 x1 x2 x3 y0 y1 y2 y3
  go_wp2_with fail
  go_ret
  exact ⟨rfl, hbw⟩
end Go.Proofs.YtbcjkinalghokafDoor

namespace Go.Proofs.YtbcjkinalghokafDoor
open Go.RowKit Go.Sort

def outF (G : Nat) : Value := .func (.func 29) #[] #[.pointer (some ⟨G, 0, none⟩)]
theorem out_eg : ∀ args w, (callFunc 29 args).run Tryd.prog w = .ok (.enter 29 args) w := enters_of Tryd.func29 (by kernel_rfl) rfl
theorem one_cell {w : World} {G : Nat} {x : Value} {t : TypeId} (h : w.heap[G]? = some (.cells #[x] t (0, 0))) : w.cell? ⟨G, 0, none⟩ = some x ∧ w.frozen? ⟨G, 0, none⟩ = false := by
  exact ⟨by rw [cell_of_row w G 0 _ _ (0, 0) h]; rfl, by simp [World.frozen?, h]⟩
theorem out_any (W : World) (G : Nat) (x y : ByteArray) (h : W.heap[G]? = some (.cells #[.string y] 9 (0, 0))) :
    Calls Tryd.prog 29 #[.string x, .pointer (some ⟨G, 0, none⟩)] W fun e w' => e = .returned (.tuple #[]) ∧ w' = W.setCell ⟨G, 0, none⟩ (.string x) := by
  obtain ⟨c0, f0⟩ := one_cell h
  go_enter Tryd.func29, Tryd.ntmps29
  go_wp2
  go_end0
  exact ⟨rfl, rfl⟩
/-- The seats in their variable, and the variable of who is out. -/
def Seats (w : World) (V G lo : Nat) (v1 v2 v3 : Value) (P : Pol) (out : ByteArray) : Prop :=
  PHold w V 52 [outF G] lo v1 v2 v3 P ∧ w.heap[G]? = some (.cells #[.string out] 9 (0, 0)) ∧ G < lo ∧ lo ≤ V
theorem seats_ty : tyOk 52 := by unfold tyOk; decide
theorem Seats.out {w : World} {V G lo : Nat} {v1 v2 v3 : Value} {P : Pol} {o : ByteArray} (h : Seats w V G lo v1 v2 v3 P o) (x : ByteArray) : Seats (w.setCell ⟨G, 0, none⟩ (.string x)) V G lo v1 v2 v3 P x := by
  obtain ⟨h1, h2, h3, h4⟩ := h
  refine ⟨h1.far h2 (.inr h3) (by omega) (fun k hk => Below.heap_setCell _ _ _ _ (by exact hk)) (by simp [World.setCell]), ?_, h3, h4⟩
  rw [heap_put h2]; simp
theorem Seats.on {w w' : World} {V G lo : Nat} {v1 v2 v3 : Value} {P : Pol} {o : ByteArray} (h : Seats w V G lo v1 v2 v3 P o) (hb : Below w.heap.size w w') : Seats w' V G lo v1 v2 v3 P o :=
  ⟨h.1.on hb, (hb.block G (Array.getElem?_eq_some_iff.1 h.2.1).1).trans h.2.1, h.2.2⟩
theorem Seats.lo {w : World} {V G lo : Nat} {v1 v2 v3 : Value} {P : Pol} {o : ByteArray} (h : Seats w V G lo v1 v2 v3 P o) : lo ≤ w.heap.size := by
  have := h.1.lt
  have := h.2.2.2
  omega
/-- What happens to one of its lists leaves the other variable. -/
theorem Seats.gone1 {w w' : World} {V G lo : Nat} {v1 v2 v3 : Value} {P : Pol} {o : ByteArray} (h : Seats w V G lo v1 v2 v3 P o) (hg : w.grownBy w' v1.ownBlock) (i : Nat) (x : Value) : (w'.setCell ⟨V, i, none⟩ x).heap[G]? = some (.cells #[.string o] 9 (0, 0)) := by
  have h3 := h.2.2.1
  have h4 := h.2.2.2
  rw [Below.heap_setCell _ _ _ _ (by show G ≠ V; omega), hg.block G (Array.getElem?_eq_some_iff.1 h.2.1).1 (fun e => by have := (h.1.2.1.lt G e.symm).1; omega)]
  exact h.2.1
theorem Seats.gone2 {w w' : World} {V G lo : Nat} {v1 v2 v3 : Value} {P : Pol} {o : ByteArray} (h : Seats w V G lo v1 v2 v3 P o) (hg : w.grownBy w' v2.ownBlock) (i : Nat) (x : Value) : (w'.setCell ⟨V, i, none⟩ x).heap[G]? = some (.cells #[.string o] 9 (0, 0)) := by
  have h3 := h.2.2.1
  have h4 := h.2.2.2
  rw [Below.heap_setCell _ _ _ _ (by show G ≠ V; omega), hg.block G (Array.getElem?_eq_some_iff.1 h.2.1).1 (fun e => by have := (h.1.2.2.1.lt G e.symm).1; omega)]
  exact h.2.1
theorem Seats.win {w w' : World} {V G lo : Nat} {v1 v2 v3 v1' : Value} {P : Pol} {o : ByteArray} {W' : List ByteArray} (h : Seats w V G lo v1 v2 v3 P o) (hg : w.grownBy w' v1.ownBlock) (ho : OwnV w' lo 9 v1' (strs W')) (hn : ∀ k, v1'.ownBlock = some k → v1.ownBlock = some k ∨ w.heap.size ≤ k) :
    Seats (w'.setCell ⟨V, 0, none⟩ v1') V G lo v1' v2 v3 ⟨W', P.main, P.sk⟩ o ∧ Below G w (w'.setCell ⟨V, 0, none⟩ v1') := by
  have h3 := h.2.2.1
  have h4 := h.2.2.2
  have h5 := h.lo
  refine ⟨⟨h.1.setWin seats_ty hg ho hn, h.gone1 hg 0 _, h.2.2⟩, ?_⟩
  exact ((Below.refl G w).grown hg (by omega) (fun k e => by have := (h.1.2.1.lt k e).1; omega)).setCell (by show G ≤ V; omega) _
theorem Seats.main {w w' : World} {V G lo : Nat} {v1 v2 v3 v2' : Value} {P : Pol} {o : ByteArray} {W' : List ByteArray} (h : Seats w V G lo v1 v2 v3 P o) (hg : w.grownBy w' v2.ownBlock) (ho : OwnV w' lo 9 v2' (strs W')) (hn : ∀ k, v2'.ownBlock = some k → v2.ownBlock = some k ∨ w.heap.size ≤ k) :
    Seats (w'.setCell ⟨V, 1, none⟩ v2') V G lo v1 v2' v3 ⟨P.win, W', P.sk⟩ o ∧ Below G w (w'.setCell ⟨V, 1, none⟩ v2') := by
  have h3 := h.2.2.1
  have h4 := h.2.2.2
  have h5 := h.lo
  refine ⟨⟨h.1.setMain seats_ty hg ho hn, h.gone2 hg 1 _, h.2.2⟩, ?_⟩
  exact ((Below.refl G w).grown hg (by omega) (fun k e => by have := (h.1.2.2.1.lt k e).1; omega)).setCell (by show G ≤ V; omega) _
end Go.Proofs.YtbcjkinalghokafDoor

namespace Go.Proofs.YtbcjkinalghokafDoor
open Go.RowKit Go.Sort

theorem foldMin_lt (l : List Int) : ∀ (x z : Int), l.foldl min x < z ↔ x < z ∨ ∃ y ∈ l, y < z := by
  induction l with
  | nil => intro x z; simp
  | cons a r ih =>
    intro x z
    rw [List.foldl_cons, ih]
    simp only [List.mem_cons, exists_eq_or_imp]
    have : min x a < z ↔ x < z ∨ a < z := by omega
    rw [this, or_assoc]
theorem foldMax_gt (l : List Int) : ∀ (x z : Int), z < l.foldl max x ↔ z < x ∨ ∃ y ∈ l, z < y := by
  induction l with
  | nil => intro x z; simp
  | cons a r ih =>
    intro x z
    rw [List.foldl_cons, ih]
    simp only [List.mem_cons, exists_eq_or_imp]
    have : z < max x a ↔ z < x ∨ z < a := by omega
    rw [this, or_assoc]
theorem minOf_neg {l : List Int} (hl : 0 < l.length) (z : Int) : Lib.minOf l < z ↔ ∃ y ∈ l, y < z := by
  cases l with
  | nil => simp at hl
  | cons a r =>
    unfold Lib.minOf
    rw [foldMin_lt]
    simp
theorem maxOf_pos {l : List Int} (hl : 0 < l.length) (z : Int) : z < Lib.maxOf l ↔ ∃ y ∈ l, z < y := by
  cases l with
  | nil => simp at hl
  | cons a r =>
    unfold Lib.maxOf
    rw [foldMax_gt]
    simp
/-- A row is right by its least and its greatest number. -/
theorem rowOk_minmax {r : List Int} (hl : r.length = 16) : rowOk r = (!decide (Lib.minOf r < 0) && !decide (15 < Lib.maxOf r)) := by
  have h1 := minOf_neg (l := r) (by omega) 0
  have h2 := maxOf_pos (l := r) (by omega) 15
  cases hr : rowOk r with
  | true =>
    unfold rowOk at hr
    simp only [Bool.and_eq_true, List.all_eq_true] at hr
    have n1 : ¬ Lib.minOf r < 0 := by
      rw [h1]
      rintro ⟨y, hy, hlt⟩
      have := hr.2 y hy
      simp only [numOk, decide_eq_true_eq] at this
      omega
    have n2 : ¬ 15 < Lib.maxOf r := by
      rw [h2]
      rintro ⟨y, hy, hlt⟩
      have := hr.2 y hy
      simp only [numOk, decide_eq_true_eq] at this
      omega
    simp [n1, n2]
  | false =>
    unfold rowOk at hr
    rw [Bool.and_eq_false_iff] at hr
    rcases hr with hr | hr
    · simp [hl] at hr
    · rw [List.all_eq_false] at hr
      obtain ⟨y, hy, hn⟩ := hr
      simp only [numOk, decide_eq_true_eq] at hn
      by_cases h0 : y < 0
      · have : Lib.minOf r < 0 := h1.2 ⟨y, hy, h0⟩
        simp [this]
      · have : 15 < Lib.maxOf r := h2.2 ⟨y, hy, by omega⟩
        simp [this]
theorem IAt.getD {w : World} {b off B : Nat} {l : List Int} (h : IAt w (some ⟨b, off, none⟩) l B) : ∀ j, j < l.length → w.cell? ⟨b, off + j, none⟩ = some (.int .i64 (l.getD j 0)) := by
  intro j hj
  obtain ⟨g, o, ha, _, hc⟩ := h j hj
  simp only [Option.some.injEq, Addr.mk.injEq, and_true] at ha
  obtain ⟨rfl, rfl⟩ := ha
  rw [hc, List.getD_eq_getElem?_getD, List.getElem?_eq_getElem hj]
  rfl

set_option maxRecDepth 100000 in
set_option maxHeartbeats 2000000 in
theorem implSketchOk_any (w : World) (a : Option Addr) (c : Nat) (S : Sk) (hA : SSAt w a S.rows w.heap.size) (hm : S.rows.length ≤ 1048576) :
    Calls Tryd.prog 40 #[.agg #[.slice a S.rows.length c, .int .i64 S.added]] w fun e w' => e = .returned (.bool (okK S)) ∧ Below w.heap.size w w' := by
  obtain ⟨rows, added⟩ := S
  dsimp only at *
  obtain ⟨w1, hw1⟩ : ∃ x, w.alloc (.cells #[.slice a rows.length c, .int .i64 added] 27) = x := ⟨_, rfl⟩
  have hb1 : Below w.heap.size w w1 := by rw [← hw1]; exact (Below.refl _ _).alloc (Nat.le_refl _) _
  have hB : SkBox w1 w.heap.size (.slice a rows.length c) (.int .i64 added) := by rw [← hw1]; exact SkBox.new _ _ _
  have hA1 := hA.on hb1
  obtain ⟨b0, b1⟩ := hB.cells
  have HW : Hid (w.alloc (.cells #[.slice a rows.length c, .int .i64 added] 27) = w1) := hw1
  rw [← hw1] at b0 b1
  clear hw1 hB hA
  go_enter Tryd.func40, Tryd.ntmps40
  by_cases h3 : rows.length = 3
  case neg =>
    have hn : ((rows.length : Int) != 3) = true := by simp; omega
    have HF : Hid (okK ⟨rows, added⟩ = false) := by show _ = _; simp [okK, headOkK, h3]
    clear h3
    go_wp2
    go_ret
    exact ⟨by rw [HF.out]; rfl, by rw [HW.out]; exact hb1⟩
  have hn : ((rows.length : Int) != 3) = false := by simp; omega
  have H3 : Hid (rows.length = 3) := h3
  clear h3
  by_cases hlo : added < 0
  case pos =>
    have HF : Hid (okK ⟨rows, added⟩ = false) := by
      show _ = _
      have e : decide (0 ≤ added ∧ added ≤ 63) = false := decide_eq_false (by omega)
      simp only [okK, headOkK, e, Bool.and_false, Bool.false_and]
    go_wp2
    go_ret
    exact ⟨by rw [HF.out]; rfl, by rw [HW.out]; exact hb1⟩
  by_cases hhi : 64 ≤ added
  case pos =>
    have HF : Hid (okK ⟨rows, added⟩ = false) := by
      show _ = _
      have e : decide (0 ≤ added ∧ added ≤ 63) = false := decide_eq_false (by omega)
      simp only [okK, headOkK, e, Bool.and_false, Bool.false_and]
    go_wp2
    go_ret
    exact ⟨by rw [HF.out]; rfl, by rw [HW.out]; exact hb1⟩
  have HH : Hid (headOkK ⟨rows, added⟩ = true) := by
    have e : decide (0 ≤ added ∧ added ≤ 63) = true := decide_eq_true (by omega)
    show _ = _
    simp only [headOkK, e, H3.out, decide_true, Bool.and_true]
  go_wp2
  rw [HW.out] at b0 b1 ⊢
  clear hlo hhi
  go_loopw [4, 22] (fun _ i wr => Box (∃ (k : Nat), k ≤ rows.length ∧ i = .int .i64 k ∧ Hid (∀ j (hj : j < rows.length), j < k → rowOk rows[j] = true) ∧ w1 = wr))
    (fun _ i _ => rows.length - (intOf i).toNat)
  case atStart => exact ⟨⟨0, by omega, rfl, (fun j hj h => by omega), rfl⟩⟩
  case round =>
    obtain ⟨k, hk, rfl, HP, rfl⟩ := hrel.out
    by_cases hlt : k < rows.length
    · obtain ⟨g, off, ai, ci, rfl, hg, hc, hI⟩ := hA1 k hlt
      have HFK : Hid (rowOk rows[k] = false → okK ⟨rows, added⟩ = false) := okK_false hlt
      have HPK : Hid (rowOk rows[k] = true → ∀ j (hj : j < rows.length), j < k + 1 → rowOk rows[j] = true) := by
        intro h j hj hjk
        by_cases e : j = k
        · subst e; exact h
        · exact HP.out j hj (by omega)
      obtain ⟨r, hr⟩ : ∃ r, rows[k] = r := ⟨_, rfl⟩
      rw [hr] at hc hI HFK HPK
      clear hrel hr hn
      have hi1 : (0 : Int) ≤ (k : Int) := by omega
      have hi2 : (k : Int) < (rows.length : Int) := by omega
      by_cases h16 : r.length = 16
      case neg =>
        have hn : ((r.length : Int) != 16) = true := by simp; omega
        have HF : Hid (okK ⟨rows, added⟩ = false) := HFK.out (rowOk_len_false h16)
        clear h16
        go_wp2
        go_ret
        exact ⟨by rw [HF.out]; rfl, hb1⟩
      have hn : ((r.length : Int) != 16) = false := by simp; omega
      have HMM : Hid (rowOk r = (!decide (Lib.minOf r < 0) && !decide (15 < Lib.maxOf r))) := rowOk_minmax h16
      obtain ⟨g2, off2, rfl, hx1, hx2⟩ := hI 0 (by omega)
      clear hx1 hx2
      have cMin := Tryd.slices_Min_int g2 off2 r.length ci r w1 (by omega) (Nat.le_refl _) (by omega) hI.getD
      have cMax := Tryd.slices_Max_int g2 off2 r.length ci r w1 (by omega) (Nat.le_refl _) (by omega) hI.getD
      rw [List.take_length] at cMin cMax
      generalize Lib.minOf r = mn at cMin HMM
      generalize Lib.maxOf r = mx at cMax HMM
      clear h16
      by_cases hmn : mn < 0
      · have HF : Hid (okK ⟨rows, added⟩ = false) := HFK.out (by rw [HMM.out]; simp [hmn])
        go_wp2_with (go_at_call 66; refine cMin.mono ?_; rintro e w' ⟨rfl, rfl⟩)
        go_ret
        exact ⟨by rw [HF.out]; rfl, hb1⟩
      by_cases hmx : 15 < mx
      · have HF : Hid (okK ⟨rows, added⟩ = false) := HFK.out (by rw [HMM.out]; simp [hmx])
        go_wp2_with (first | (go_at_call 66; refine cMin.mono ?_; rintro e w' ⟨rfl, rfl⟩) | (go_at_call 67; refine cMax.mono ?_; rintro e w' ⟨rfl, rfl⟩))
        go_ret
        exact ⟨by rw [HF.out]; rfl, hb1⟩
      have HT : Hid (rowOk r = true) := by show _ = _; rw [HMM.out]; simp; omega
      go_wp2_with (first | (go_at_call 66; refine cMin.mono ?_; rintro e w' ⟨rfl, rfl⟩) | (go_at_call 67; refine cMax.mono ?_; rintro e w' ⟨rfl, rfl⟩))
      go_roundw
      case rel =>
        try ((repeat apply Exists.intro); refine ⟨?_, rfl⟩)
        exact ⟨⟨k + 1, by omega, by go_num, HPK.out HT.out, by first | rfl | trivial⟩⟩
      case measure => simp [intOf]; omega
    · have HT : Hid (okK ⟨rows, added⟩ = true) := okK_true HH.out fun j hj => HP.out j hj (by omega)
      go_wp2
      go_ret
      exact ⟨by rw [HT.out]; rfl, hb1⟩
end Go.Proofs.YtbcjkinalghokafDoor
