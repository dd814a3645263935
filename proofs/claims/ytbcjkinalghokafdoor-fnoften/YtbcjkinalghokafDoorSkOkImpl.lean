/- Whether a sketch is right: the program's. -/
import Derived.Test.YtbcjkinalghokafDoorSkArr2J
import Derived.Test.YtbcjkinalghokafDoorShelf
namespace Go.Proofs.YtbcjkinalghokafDoor
open Go.RowKit Go.Sort

theorem foldMin_lt (l : List Int) : ∀ (x z : Int), l.foldl min x < z ↔ x < z ∨ ∃ y ∈ l, y < z := by
  induction l with
  | nil => intro x z; simp
  | cons a r ih =>
    intro x z
    rw [List.foldl_cons, ih]
    simp only [List.mem_cons, exists_eq_or_imp]
    have : min x a < z ↔ x < z ∨ a < z := by omega
    rw [this, or_assoc]
theorem foldMax_gt (l : List Int) : ∀ (x z : Int), z < l.foldl max x ↔ z < x ∨ ∃ y ∈ l, z < y := by
  induction l with
  | nil => intro x z; simp
  | cons a r ih =>
    intro x z
    rw [List.foldl_cons, ih]
    simp only [List.mem_cons, exists_eq_or_imp]
    have : z < max x a ↔ z < x ∨ z < a := by omega
    rw [this, or_assoc]
theorem minOf_neg {l : List Int} (hl : 0 < l.length) (z : Int) : Lib.minOf l < z ↔ ∃ y ∈ l, y < z := by
  cases l with
  | nil => simp at hl
  | cons a r =>
    unfold Lib.minOf
    rw [foldMin_lt]
    simp
theorem maxOf_pos {l : List Int} (hl : 0 < l.length) (z : Int) : z < Lib.maxOf l ↔ ∃ y ∈ l, z < y := by
  cases l with
  | nil => simp at hl
  | cons a r =>
    unfold Lib.maxOf
    rw [foldMax_gt]
    simp
/-- A row is right by its least and its greatest number. -/
theorem rowOk_minmax {r : List Int} (hl : r.length = 16) : rowOk r = (!decide (Lib.minOf r < 0) && !decide (15 < Lib.maxOf r)) := by
  have h1 := minOf_neg (l := r) (by omega) 0
  have h2 := maxOf_pos (l := r) (by omega) 15
  cases hr : rowOk r with
  | true =>
    unfold rowOk at hr
    simp only [Bool.and_eq_true, List.all_eq_true] at hr
    have n1 : ¬ Lib.minOf r < 0 := by
      rw [h1]
      rintro ⟨y, hy, hlt⟩
      have := hr.2 y hy
      simp only [numOk, decide_eq_true_eq] at this
      omega
    have n2 : ¬ 15 < Lib.maxOf r := by
      rw [h2]
      rintro ⟨y, hy, hlt⟩
      have := hr.2 y hy
      simp only [numOk, decide_eq_true_eq] at this
      omega
    simp [n1, n2]
  | false =>
    unfold rowOk at hr
    rw [Bool.and_eq_false_iff] at hr
    rcases hr with hr | hr
    · simp [hl] at hr
    · rw [List.all_eq_false] at hr
      obtain ⟨y, hy, hn⟩ := hr
      simp only [numOk, decide_eq_true_eq] at hn
      by_cases h0 : y < 0
      · have : Lib.minOf r < 0 := h1.2 ⟨y, hy, h0⟩
        simp [this]
      · have : 15 < Lib.maxOf r := h2.2 ⟨y, hy, by omega⟩
        simp [this]
theorem IAt.getD {w : World} {b off B : Nat} {l : List Int} (h : IAt w (some ⟨b, off, none⟩) l B) : ∀ j, j < l.length → w.cell? ⟨b, off + j, none⟩ = some (.int .i64 (l.getD j 0)) := by
  intro j hj
  obtain ⟨g, o, ha, _, hc⟩ := h j hj
  simp only [Option.some.injEq, Addr.mk.injEq, and_true] at ha
  obtain ⟨rfl, rfl⟩ := ha
  rw [hc, List.getD_eq_getElem?_getD, List.getElem?_eq_getElem hj]
  rfl

set_option maxRecDepth 100000 in
set_option maxHeartbeats 2000000 in
theorem implSketchOk_any (w : World) (a : Option Addr) (c : Nat) (S : Sk) (hA : SSAt w a S.rows w.heap.size) (hm : S.rows.length ≤ 1048576) :
    Calls Tryd.prog 40 #[.agg #[.slice a S.rows.length c, .int .i64 S.added]] w fun e w' => e = .returned (.bool (okK S)) ∧ Below w.heap.size w w' := by
  obtain ⟨rows, added⟩ := S
  dsimp only at *
  obtain ⟨w1, hw1⟩ : ∃ x, w.alloc (.cells #[.slice a rows.length c, .int .i64 added] 27) = x := ⟨_, rfl⟩
  have hb1 : Below w.heap.size w w1 := by rw [← hw1]; exact (Below.refl _ _).alloc (Nat.le_refl _) _
  have hB : SkBox w1 w.heap.size (.slice a rows.length c) (.int .i64 added) := by rw [← hw1]; exact SkBox.new _ _ _
  have hA1 := hA.on hb1
  obtain ⟨b0, b1⟩ := hB.cells
  have HW : Hid (w.alloc (.cells #[.slice a rows.length c, .int .i64 added] 27) = w1) := hw1
  rw [← hw1] at b0 b1
  clear hw1 hB hA
  go_enter Tryd.func40, Tryd.ntmps40
  by_cases h3 : rows.length = 3
  case neg =>
    have hn : ((rows.length : Int) != 3) = true := by simp; omega
    have HF : Hid (okK ⟨rows, added⟩ = false) := by show _ = _; simp [okK, headOkK, h3]
    clear h3
    go_wp2
    go_ret
    exact ⟨by rw [HF.out]; rfl, by rw [HW.out]; exact hb1⟩
  have hn : ((rows.length : Int) != 3) = false := by simp; omega
  have H3 : Hid (rows.length = 3) := h3
  clear h3
  by_cases hlo : added < 0
  case pos =>
    have HF : Hid (okK ⟨rows, added⟩ = false) := by
      show _ = _
      have e : decide (0 ≤ added ∧ added ≤ 63) = false := decide_eq_false (by omega)
      simp only [okK, headOkK, e, Bool.and_false, Bool.false_and]
    go_wp2
    go_ret
    exact ⟨by rw [HF.out]; rfl, by rw [HW.out]; exact hb1⟩
  by_cases hhi : 64 ≤ added
  case pos =>
    have HF : Hid (okK ⟨rows, added⟩ = false) := by
      show _ = _
      have e : decide (0 ≤ added ∧ added ≤ 63) = false := decide_eq_false (by omega)
      simp only [okK, headOkK, e, Bool.and_false, Bool.false_and]
    go_wp2
    go_ret
    exact ⟨by rw [HF.out]; rfl, by rw [HW.out]; exact hb1⟩
  have HH : Hid (headOkK ⟨rows, added⟩ = true) := by
    have e : decide (0 ≤ added ∧ added ≤ 63) = true := decide_eq_true (by omega)
    show _ = _
    simp only [headOkK, e, H3.out, decide_true, Bool.and_true]
  go_wp2
  rw [HW.out] at b0 b1 ⊢
  clear hlo hhi
  go_loopw [4, 22] (fun _ i wr => Box (∃ (k : Nat), k ≤ rows.length ∧ i = .int .i64 k ∧ Hid (∀ j (hj : j < rows.length), j < k → rowOk rows[j] = true) ∧ w1 = wr))
    (fun _ i _ => rows.length - (intOf i).toNat)
  case atStart => exact ⟨⟨0, by omega, rfl, (fun j hj h => by omega), rfl⟩⟩
  case round =>
    obtain ⟨k, hk, rfl, HP, rfl⟩ := hrel.out
    by_cases hlt : k < rows.length
    · obtain ⟨g, off, ai, ci, rfl, hg, hc, hI⟩ := hA1 k hlt
      have HFK : Hid (rowOk rows[k] = false → okK ⟨rows, added⟩ = false) := okK_false hlt
      have HPK : Hid (rowOk rows[k] = true → ∀ j (hj : j < rows.length), j < k + 1 → rowOk rows[j] = true) := by
        intro h j hj hjk
        by_cases e : j = k
        · subst e; exact h
        · exact HP.out j hj (by omega)
      obtain ⟨r, hr⟩ : ∃ r, rows[k] = r := ⟨_, rfl⟩
      rw [hr] at hc hI HFK HPK
      clear hrel hr hn
      have hi1 : (0 : Int) ≤ (k : Int) := by omega
      have hi2 : (k : Int) < (rows.length : Int) := by omega
      by_cases h16 : r.length = 16
      case neg =>
        have hn : ((r.length : Int) != 16) = true := by simp; omega
        have HF : Hid (okK ⟨rows, added⟩ = false) := HFK.out (rowOk_len_false h16)
        clear h16
        go_wp2
        go_ret
        exact ⟨by rw [HF.out]; rfl, hb1⟩
      have hn : ((r.length : Int) != 16) = false := by simp; omega
      have HMM : Hid (rowOk r = (!decide (Lib.minOf r < 0) && !decide (15 < Lib.maxOf r))) := rowOk_minmax h16
      obtain ⟨g2, off2, rfl, hx1, hx2⟩ := hI 0 (by omega)
      clear hx1 hx2
      have cMin := Tryd.slices_Min_int g2 off2 r.length ci r w1 (by omega) (Nat.le_refl _) (by omega) hI.getD
      have cMax := Tryd.slices_Max_int g2 off2 r.length ci r w1 (by omega) (Nat.le_refl _) (by omega) hI.getD
      rw [List.take_length] at cMin cMax
      generalize Lib.minOf r = mn at cMin HMM
      generalize Lib.maxOf r = mx at cMax HMM
      clear h16
      by_cases hmn : mn < 0
      · have HF : Hid (okK ⟨rows, added⟩ = false) := HFK.out (by rw [HMM.out]; simp [hmn])
        go_wp2_with (go_at_call 66; refine cMin.mono ?_; rintro e w' ⟨rfl, rfl⟩)
        go_ret
        exact ⟨by rw [HF.out]; rfl, hb1⟩
      by_cases hmx : 15 < mx
      · have HF : Hid (okK ⟨rows, added⟩ = false) := HFK.out (by rw [HMM.out]; simp [hmx])
        go_wp2_with (first | (go_at_call 66; refine cMin.mono ?_; rintro e w' ⟨rfl, rfl⟩) | (go_at_call 67; refine cMax.mono ?_; rintro e w' ⟨rfl, rfl⟩))
        go_ret
        exact ⟨by rw [HF.out]; rfl, hb1⟩
      have HT : Hid (rowOk r = true) := by show _ = _; rw [HMM.out]; simp; omega
      go_wp2_with (first | (go_at_call 66; refine cMin.mono ?_; rintro e w' ⟨rfl, rfl⟩) | (go_at_call 67; refine cMax.mono ?_; rintro e w' ⟨rfl, rfl⟩))
      go_roundw
      case rel =>
        try ((repeat apply Exists.intro); refine ⟨?_, rfl⟩)
        exact ⟨⟨k + 1, by omega, by go_num, HPK.out HT.out, by first | rfl | trivial⟩⟩
      case measure => simp [intOf]; omega
    · have HT : Hid (okK ⟨rows, added⟩ = true) := okK_true HH.out fun j hj => HP.out j hj (by omega)
      go_wp2
      go_ret
      exact ⟨by rw [HT.out]; rfl, hb1⟩
end Go.Proofs.YtbcjkinalghokafDoor
