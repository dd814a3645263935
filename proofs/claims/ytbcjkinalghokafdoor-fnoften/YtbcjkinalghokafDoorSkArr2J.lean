/- Texts that stand in one: SkArr2, SkOkSpec. -/
import Derived.Test.YtbcjkinalghokafDoorRowStepJ
import Derived.Test.YtbcjkinalghokafDoorSumSpecJ
import Derived.Test.YtbcjkinalghokafDoorSkKit
namespace Go.Proofs.YtbcjkinalghokafDoor
open Go.RowKit Go.Sort

def AllOk (rows : List (List Int)) : Prop := ∀ r ∈ rows, rowOk r = true
theorem AllOk.all16 {rows : List (List Int)} (h : AllOk rows) : All16 rows := fun r hr => rowOk_len (h r hr)
theorem bumpTo_ok {key : ByteArray} {rows : List (List Int)} (h : AllOk rows) (k : Nat) : AllOk (bumpTo key rows k) := by
  intro r hr
  unfold bumpTo at hr
  rw [List.mem_mapIdx] at hr
  obtain ⟨i, hi, rfl⟩ := hr
  have := h rows[i] (List.getElem_mem hi)
  split
  · exact bumpR_ok this
  · exact this
theorem halfTo_ok {rows : List (List Int)} (h : AllOk rows) (k : Nat) : AllOk (halfTo rows k) := by
  intro r hr
  unfold halfTo at hr
  rw [List.mem_mapIdx] at hr
  obtain ⟨i, hi, rfl⟩ := hr
  have := h rows[i] (List.getElem_mem hi)
  split
  · exact (halfR_ok this).1
  · exact this
/-- The first q numbers of a row halved. -/
def halfP (r : List Int) (q : Nat) : List Int := (r.take q).map (fun z => z / 2) ++ r.drop q
theorem halfP_zero (r : List Int) : halfP r 0 = r := by simp [halfP]
theorem halfP_all (r : List Int) (q : Nat) (h : r.length ≤ q) : halfP r q = halfR r := by simp [halfP, halfR, List.take_of_length_le h, List.drop_eq_nil_of_le h]
theorem halfP_len (r : List Int) (q : Nat) : (halfP r q).length = r.length := by simp [halfP]; omega
theorem halfP_at (r : List Int) (q : Nat) : (halfP r q).getD q 0 = r.getD q 0 := by
  unfold halfP
  by_cases hq : q < r.length
  · rw [List.getD_eq_getElem?_getD, List.getElem?_append_right (by simp; omega)]
    simp [List.getD_eq_getElem?_getD]
    rw [show q + (q - min q r.length) = q by omega]
  · rw [List.getD_eq_getElem?_getD, List.getD_eq_getElem?_getD, List.getElem?_eq_none (by simp; omega), List.getElem?_eq_none (by omega)]
theorem halfP_succ (r : List Int) (q : Nat) (hq : q < r.length) : (halfP r q).set q (r.getD q 0 / 2) = halfP r (q + 1) := by
  unfold halfP
  rw [List.set_append_right _ _ (by simp; omega), List.take_succ_eq_append_getElem hq, List.drop_eq_getElem_cons hq]
  have e : q - (List.map (fun z => z / 2) (List.take q r)).length = 0 := by simp; omega
  rw [e, List.set_cons_zero, List.getD_eq_getElem?_getD, List.getElem?_eq_getElem hq, List.map_append, List.append_assoc]
  rfl

set_option maxRecDepth 100000 in
set_option maxHeartbeats 4000000 in
theorem with_any (w : World) (rows : List (List Int)) (key : ByteArray) (h3 : rows.length = 3) (hok : AllOk rows) (hk : key.size ≤ 1048576) (ht : Tab w) :
    Calls Tryd.prog 76 #[.agg (ints rows.flatten).toArray, .string key] w fun e w' => e = .returned (.agg (ints (bumpTo key rows 3).flatten).toArray) ∧ Below w.heap.size w w' := by
  obtain ⟨w0, hw0⟩ : ∃ x, w.alloc (.cells (ints rows.flatten).toArray 70) = x := ⟨_, rfl⟩
  obtain ⟨w1, hw1⟩ : ∃ x, w0.alloc (.cells (ints zrows.flatten).toArray 70) = x := ⟨_, rfl⟩
  have hb0 : Below w.heap.size w w0 := by rw [← hw0]; exact (Below.refl _ _).alloc (Nat.le_refl _) _
  have hb1 : Below w0.heap.size w0 w1 := by rw [← hw1]; exact (Below.refl _ _).alloc (Nat.le_refl _) _
  have s0 : w0.heap.size = w.heap.size + 1 := by rw [← hw0]; simp
  have hbw : Below w.heap.size w w1 := hb0.trans (hb1.mono hb0.size)
  have hT : RBox w1 w.heap.size rows := by
    have h : RBox w0 w.heap.size rows := by rw [← hw0]; exact RBox.new _ _
    exact h.on hb1
  have hR : RBox w1 (w.heap.size + 1) zrows := by rw [← hw1, ← s0]; exact RBox.new _ _
  have HW : Hid ((w.alloc (.cells (ints rows.flatten).toArray 70)).alloc (.cells (ints zrows.flatten).toArray 70) = w1) := by rw [hw0]; exact hw1
  have H3 : Hid (rows.length = 3) := h3
  clear hw0 hw1 s0 hb0 hb1 h3
  go_enter Tryd.func76, Tryd.ntmps76
  go_wp2
  rw [zlit, HW.out]
  go_loopw [5, 6, 7] (fun _ _ i wr => Box (∃ (k : Nat), k ≤ 3 ∧ i = .int .i64 k ∧ RBox wr w.heap.size (bumpTo key rows k) ∧ RBox wr (w.heap.size + 1) zrows ∧ Below w.heap.size w wr))
    (fun _ _ i _ => 3 - (intOf i).toNat)
  case atStart => exact ⟨⟨0, by omega, rfl, by rw [bumpTo_zero]; exact hT, hR, hbw⟩⟩
  case round =>
    obtain ⟨k, hk3, rfl, hT1, hR1, hbel⟩ := hrel.out
    by_cases hlt : k < 3
    · have h3 := H3.out
      have hkr : k < rows.length := by omega
      have hok1 := bumpTo_ok (key := key) hok k
      obtain ⟨hbk, hbs⟩ := bumpTo_succ key rows k rows[k] (List.getElem?_eq_getElem hkr)
      have hkb : k < (bumpTo key rows k).length := by rw [bumpTo_length]; exact hkr
      have hgd : (bumpTo key rows k).getD k [] = rows[k] := by rw [List.getD_eq_getElem?_getD, hbk]; rfl
      have hp := placeS_lt (k : Int) key
      have hz := rowOk_at (hok rows[k] (List.getElem_mem hkr)) (placeS (k : Int) key) hp
      have c := implSketchPlace_any (k : Int) key wr hk (ht.below hbel (Nat.le_refl _))
      have HN : Hid (∀ w2, Below wr.heap.size wr w2 → w2.cell? ⟨w.heap.size, k * 16 + placeS (k : Int) key, none⟩ = some (.int .i64 (rows[k].getD (placeS (k : Int) key) 0)) ∧ w2.frozen? ⟨w.heap.size, k * 16 + placeS (k : Int) key, none⟩ = false ∧ Hid (RBox (w2.setCell ⟨w.heap.size, k * 16 + placeS (k : Int) key, none⟩ (.int .i64 (min (rows[k].getD (placeS (k : Int) key) 0 + 1) 15))) w.heap.size (bumpTo key rows (k + 1)) ∧ RBox (w2.setCell ⟨w.heap.size, k * 16 + placeS (k : Int) key, none⟩ (.int .i64 (min (rows[k].getD (placeS (k : Int) key) 0 + 1) 15))) (w.heap.size + 1) zrows ∧ Below w.heap.size w (w2.setCell ⟨w.heap.size, k * 16 + placeS (k : Int) key, none⟩ (.int .i64 (min (rows[k].getD (placeS (k : Int) key) 0 + 1) 15))))) := by
        intro w2 hb2
        have hT2 := hT1.on hb2
        have hc := hT2.cell hok1.all16 hkb hp
        rw [hgd] at hc
        have hs := hT2.set hok1.all16 hkb hp (min (rows[k].getD (placeS (k : Int) key) 0 + 1) 15)
        rw [hgd, show rows[k].set (placeS (k : Int) key) (min (rows[k].getD (placeS (k : Int) key) 0 + 1) 15) = bumpR key k rows[k] from rfl, ← hbs] at hs
        exact ⟨hc, hT2.thaw _, hs, (hR1.on hb2).kept (Below.heap_setCell _ _ _ _ (show w.heap.size + 1 ≠ w.heap.size by omega)), (hbel.trans (hb2.mono hbel.size)).setCell (Nat.le_refl _) _⟩
      generalize rows[k].getD (placeS (k : Int) key) 0 = z at hz HN
      generalize placeS (k : Int) key = p at c hp HN
      clear hrel hT hR hbw hT1 hR1 hbel hok1 hbk hbs hkb hgd h3 hkr ht
      have hi1 : (0 : Int) ≤ (k : Int) := by omega
      have hi2 : (k : Int) < 3 := by omega
      have hp1 : (0 : Int) ≤ (p : Int) := by omega
      have hp2 : (p : Int) < 16 := by omega
      go_wp2_with fail
      refine c.mono ?_
      rintro e w2 ⟨rfl, hb2⟩
      obtain ⟨xc, xf, HX⟩ := HN.out w2 hb2
      rw [show min (z + 1) 15 = if 15 < z + 1 then 15 else z + 1 by split <;> omega] at HX
      clear c hb2 HN
      go_wp2
      go_still_tail 11, (by kernel_rfl)
      go_wp2
      refine ⟨?_, ?_⟩
      · exact ⟨⟨k + 1, by omega, by go_num, HX.out.1, HX.out.2.1, HX.out.2.2.trans ⟨rfl, rfl, rfl, Nat.le_refl _, fun _ _ => rfl⟩⟩⟩
      · simp [intOf]; omega
    · have h3 := H3.out
      have hke : k = 3 := by omega
      subst hke
      have hok3 := bumpTo_ok (key := key) hok 3
      have hfl : (bumpTo key rows 3).flatten.length = 48 := by rw [flat_len _ hok3.all16, bumpTo_length, h3]
      have hsz : (Tryd.prog.info? 70).map (·.size) = some (ints (bumpTo key rows 3).flatten).toArray.size := by rw [List.size_toArray, ints_length, hfl]; kernel_rfl
      have hol : (ints zrows.flatten).toArray.size = (ints (bumpTo key rows 3).flatten).toArray.size := by rw [List.size_toArray, List.size_toArray, ints_length, ints_length, hfl, zrows_len]
      have hbf := below_setRow hbel (show w.heap.size ≤ w.heap.size + 1 by omega) (ints (bumpTo key rows 3).flatten).toArray
      have hR5 := hR1.stored (bumpTo key rows 3)
      clear hrel hT hR hbw hbel hfl h3 ht hok3
      go_wp2_with (first | (refine wpList_loadR rfl (.tmp 2) 70 rfl w.heap.size rfl 3 68 Tryd.underlying70 _ _ hT1 hsz ?_) | (refine wpList_storeR rfl (.tmp 4) (.tmp 25) 70 rfl (w.heap.size + 1) rfl _ rfl _ _ hR1 hsz hol (ints_all _) ?_))
      refine bodyPost_ret (v := .agg (ints (bumpTo key rows 3).flatten).toArray) (results_cell_row Tryd.results76 _ _ (w.heap.size + 1) 70 _ (0, 0) _ rfl hR5 Tryd.underlying70 rfl hsz) rfl ⟨rfl, hbf⟩
end Go.Proofs.YtbcjkinalghokafDoor

namespace Go.Proofs.YtbcjkinalghokafDoor
open Go.RowKit Go.Sort

theorem okK_false {rows : List (List Int)} {added : Int} {k : Nat} (hk : k < rows.length) (h : rowOk rows[k] = false) : okK ⟨rows, added⟩ = false := by
  unfold okK
  rw [Bool.and_eq_false_iff]
  right
  rw [List.all_eq_false]
  exact ⟨rows[k], List.getElem_mem _, by simp [h]⟩
theorem okK_true {rows : List (List Int)} {added : Int} (h0 : headOkK ⟨rows, added⟩ = true) (h : ∀ j (hj : j < rows.length), rowOk rows[j] = true) : okK ⟨rows, added⟩ = true := by
  unfold okK
  rw [Bool.and_eq_true]
  refine ⟨h0, ?_⟩
  rw [List.all_eq_true]
  intro r hr
  obtain ⟨j, hj, rfl⟩ := List.getElem_of_mem hr
  exact h j hj
theorem rowOk_len_false {r : List Int} (h : ¬ r.length = 16) : rowOk r = false := by simp [rowOk, h]
theorem rowOk_num_false {r : List Int} {q : Nat} (hq : q < r.length) (h : numOk r[q] = false) : rowOk r = false := by
  unfold rowOk
  rw [Bool.and_eq_false_iff]
  right
  rw [List.all_eq_false]
  exact ⟨r[q], List.getElem_mem _, by simp [h]⟩
theorem rowOk_true {r : List Int} (hl : r.length = 16) (h : ∀ q (hq : q < r.length), numOk r[q] = true) : rowOk r = true := by
  unfold rowOk
  rw [Bool.and_eq_true]
  refine ⟨by simpa using hl, ?_⟩
  rw [List.all_eq_true]
  intro z hz
  obtain ⟨q, hq, rfl⟩ := List.getElem_of_mem hz
  exact h q hq

set_option maxRecDepth 100000 in
set_option maxHeartbeats 2000000 in
theorem specSketchOk_any (w : World) (a : Option Addr) (c : Nat) (S : Sk) (hA : SSAt w a S.rows w.heap.size) (hm : S.rows.length ≤ 1048576) :
    Calls Tryd.prog 50 #[.agg #[.slice a S.rows.length c, .int .i64 S.added]] w fun e w' => e = .returned (.bool (okK S)) ∧ Below w.heap.size w w' := by
  obtain ⟨rows, added⟩ := S
  dsimp only at *
  obtain ⟨w1, hw1⟩ : ∃ x, w.alloc (.cells #[.slice a rows.length c, .int .i64 added] 27) = x := ⟨_, rfl⟩
  have hb1 : Below w.heap.size w w1 := by rw [← hw1]; exact (Below.refl _ _).alloc (Nat.le_refl _) _
  have hB : SkBox w1 w.heap.size (.slice a rows.length c) (.int .i64 added) := by rw [← hw1]; exact SkBox.new _ _ _
  have hA1 := hA.on hb1
  obtain ⟨b0, b1⟩ := hB.cells
  have HW : Hid (w.alloc (.cells #[.slice a rows.length c, .int .i64 added] 27) = w1) := hw1
  rw [← hw1] at b0 b1
  clear hw1 hB hA
  go_enter Tryd.func50, Tryd.ntmps50
  by_cases h3 : rows.length = 3
  case neg =>
    have hn : ((rows.length : Int) != 3) = true := by simp; omega
    have HF : Hid (okK ⟨rows, added⟩ = false) := by show _ = _; simp [okK, headOkK, h3]
    clear h3
    go_wp2
    go_ret
    exact ⟨by rw [HF.out]; rfl, by rw [HW.out]; exact hb1⟩
  have hn : ((rows.length : Int) != 3) = false := by simp; omega
  have H3 : Hid (rows.length = 3) := h3
  clear h3
  by_cases hin : inN added 0 63 = true
  case neg =>
    have hinf : inN added 0 63 = false := by simpa using hin
    have cI : ∀ wi, Calls Tryd.prog 63 #[.int .i64 added, .int .i64 0, .int .i64 63] wi fun e w' => e = .returned (.bool false) ∧ w' = wi := by intro wi; have := in_any added 0 63 wi; rw [hinf] at this; exact this
    have HF : Hid (okK ⟨rows, added⟩ = false) := by
      have e : decide (0 ≤ added ∧ added ≤ 63) = false := hinf
      show _ = _
      simp only [okK, headOkK, e, Bool.and_false, Bool.false_and]
    clear hin hinf
    go_wp2_with (go_at_call 63; refine (cI _).mono ?_; rintro e w' ⟨rfl, rfl⟩)
    go_ret
    exact ⟨by rw [HF.out]; rfl, by rw [HW.out]; exact hb1⟩
  have cI : ∀ wi, Calls Tryd.prog 63 #[.int .i64 added, .int .i64 0, .int .i64 63] wi fun e w' => e = .returned (.bool true) ∧ w' = wi := by intro wi; have := in_any added 0 63 wi; rw [hin] at this; exact this
  have HH : Hid (headOkK ⟨rows, added⟩ = true) := by
    have e : decide (0 ≤ added ∧ added ≤ 63) = true := hin
    show _ = _
    simp only [headOkK, e, H3.out, decide_true, Bool.and_true]
  clear hin
  go_wp2_with (go_at_call 63; refine (cI _).mono ?_; rintro e w' ⟨rfl, rfl⟩)
  rw [HW.out] at b0 b1 ⊢
  go_loopw [3, 4] (fun i _ wr => Box (∃ (k : Nat), k ≤ rows.length ∧ i = .int .i64 k ∧ Hid (∀ j (hj : j < rows.length), j < k → rowOk rows[j] = true) ∧ w1 = wr))
    (fun i _ _ => rows.length - (intOf i).toNat)
  case atStart => exact ⟨⟨0, by omega, rfl, (fun j hj h => by omega), rfl⟩⟩
  case round =>
    obtain ⟨k, hk, rfl, HP, rfl⟩ := hrel.out
    by_cases hlt : k < rows.length
    · obtain ⟨g, off, ai, ci, rfl, hg, hc, hI⟩ := hA1 k hlt
      have HFK : Hid (rowOk rows[k] = false → okK ⟨rows, added⟩ = false) := okK_false hlt
      have HPK : Hid (rowOk rows[k] = true → ∀ j (hj : j < rows.length), j < k + 1 → rowOk rows[j] = true) := by
        intro h j hj hjk
        by_cases e : j = k
        · subst e; exact h
        · exact HP.out j hj (by omega)
      obtain ⟨r, hr⟩ : ∃ r, rows[k] = r := ⟨_, rfl⟩
      rw [hr] at hc hI HFK HPK
      clear hrel hr cI hn
      have hi1 : (0 : Int) ≤ (k : Int) := by omega
      have hi2 : (k : Int) < (rows.length : Int) := by omega
      by_cases h16 : r.length = 16
      case neg =>
        have hn : ((r.length : Int) != 16) = true := by simp; omega
        have HF : Hid (okK ⟨rows, added⟩ = false) := HFK.out (rowOk_len_false h16)
        clear h16
        go_wp2
        go_ret
        exact ⟨by rw [HF.out]; rfl, hb1⟩
      have hn : ((r.length : Int) != 16) = false := by simp; omega
      have H16 : Hid (r.length = 16) := h16
      have hr16 : r.length ≤ 16 := by omega
      clear h16
      go_wp2
      go_loopw [4] (fun i wr => Box (∃ (q : Nat), q ≤ r.length ∧ i = .int .i64 q ∧ Hid (∀ j (hj : j < r.length), j < q → numOk r[j] = true) ∧ w1 = wr))
        (fun i _ => r.length - (intOf i).toNat)
      case atStart => exact ⟨⟨0, by omega, rfl, (fun j hj h => by omega), rfl⟩⟩
      case round =>
        obtain ⟨q, hq, rfl, HQ, rfl⟩ := hrel.out
        by_cases hlq : q < r.length
        · obtain ⟨g2, off2, rfl, hg2, hc2⟩ := hI q hlq
          have HNF : Hid (numOk r[q] = false → rowOk r = false) := rowOk_num_false hlq
          have HQK : Hid (numOk r[q] = true → ∀ j (hj : j < r.length), j < q + 1 → numOk r[j] = true) := by
            intro h j hj hjk
            by_cases e : j = q
            · subst e; exact h
            · exact HQ.out j hj (by omega)
          obtain ⟨z, hz⟩ : ∃ z, r[q] = z := ⟨_, rfl⟩
          rw [hz] at hc2 HNF HQK
          clear hrel hz
          have hj1 : (0 : Int) ≤ (q : Int) := by omega
          have hj2 : (q : Int) < (r.length : Int) := by omega
          have cN := fun wi => in_any z 0 15 wi
          by_cases hno : inN z 0 15 = true
          · rw [hno] at cN
            have HT : Hid (∀ j (hj : j < r.length), j < q + 1 → numOk r[j] = true) := HQK.out hno
            clear hno
            go_wp2_with (go_at_call 63; refine (cN _).mono ?_; rintro e w' ⟨rfl, rfl⟩)
            go_roundw
            case rel =>
              try ((repeat apply Exists.intro); refine ⟨?_, rfl⟩)
              exact ⟨⟨q + 1, by omega, by go_num, HT, by first | rfl | trivial⟩⟩
            case measure => simp [intOf]; omega
          · have hnof : inN z 0 15 = false := by simpa using hno
            rw [hnof] at cN
            have HF : Hid (okK ⟨rows, added⟩ = false) := HFK.out (HNF.out hnof)
            clear hno hnof
            go_wp2_with (go_at_call 63; refine (cN _).mono ?_; rintro e w' ⟨rfl, rfl⟩)
            go_ret
            exact ⟨by rw [HF.out]; rfl, hb1⟩
        · have HT : Hid (rowOk r = true) := rowOk_true H16.out fun j hj => HQ.out j hj (by omega)
          go_wp2
          refine ⟨⟨⟨k + 1, by omega, by go_num, HPK.out HT.out, trivial⟩⟩, ?_⟩
          simp [intOf]
          omega
    · have HT : Hid (okK ⟨rows, added⟩ = true) := okK_true HH.out fun j hj => HP.out j hj (by omega)
      clear cI
      go_wp2
      go_ret
      exact ⟨by rw [HT.out]; rfl, hb1⟩
end Go.Proofs.YtbcjkinalghokafDoor
