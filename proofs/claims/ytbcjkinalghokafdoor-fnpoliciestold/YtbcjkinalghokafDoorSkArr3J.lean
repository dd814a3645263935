/- Texts that stand in one: SkArr3, SkListsImpl. -/
import Derived.Test.YtbcjkinalghokafDoorSkArrJ
import Derived.Test.YtbcjkinalghokafDoorPolOkSzJ
import Derived.Test.YtbcjkinalghokafDoorSkLaw
import Derived.Test.YtbcjkinalghokafDoorCellSpec
namespace Go.Proofs.YtbcjkinalghokafDoor
open Go.RowKit Go.Sort

set_option maxRecDepth 100000 in
set_option maxHeartbeats 4000000 in
theorem halved_any (w : World) (rows : List (List Int)) (h3 : rows.length = 3) (hok : AllOk rows) :
    Calls Tryd.prog 77 #[.agg (ints rows.flatten).toArray] w fun e w' => e = .returned (.agg (ints (halfTo rows 3).flatten).toArray) ∧ Below w.heap.size w w' := by
  obtain ⟨w0, hw0⟩ : ∃ x, w.alloc (.cells (ints rows.flatten).toArray 70) = x := ⟨_, rfl⟩
  obtain ⟨w1, hw1⟩ : ∃ x, w0.alloc (.cells (ints zrows.flatten).toArray 70) = x := ⟨_, rfl⟩
  have hb0 : Below w.heap.size w w0 := by rw [← hw0]; exact (Below.refl _ _).alloc (Nat.le_refl _) _
  have hb1 : Below w0.heap.size w0 w1 := by rw [← hw1]; exact (Below.refl _ _).alloc (Nat.le_refl _) _
  have s0 : w0.heap.size = w.heap.size + 1 := by rw [← hw0]; simp
  have hbw : Below w.heap.size w w1 := hb0.trans (hb1.mono hb0.size)
  have hT : RBox w1 w.heap.size rows := by
    have h : RBox w0 w.heap.size rows := by rw [← hw0]; exact RBox.new _ _
    exact h.on hb1
  have hR : RBox w1 (w.heap.size + 1) zrows := by rw [← hw1, ← s0]; exact RBox.new _ _
  have HW : Hid ((w.alloc (.cells (ints rows.flatten).toArray 70)).alloc (.cells (ints zrows.flatten).toArray 70) = w1) := by rw [hw0]; exact hw1
  have H3 : Hid (rows.length = 3) := h3
  clear hw0 hw1 s0 hb0 hb1 h3
  go_enter Tryd.func77, Tryd.ntmps77
  go_wp2
  rw [zlit, HW.out]
  go_loopw [3, 4, 5, 8] (fun _ _ i _ wr => Box (∃ (k : Nat), k ≤ 3 ∧ i = .int .i64 k ∧ RBox wr w.heap.size (halfTo rows k) ∧ RBox wr (w.heap.size + 1) zrows ∧ Below w.heap.size w wr))
    (fun _ _ i _ _ => 3 - (intOf i).toNat)
  case atStart => exact ⟨⟨0, by omega, rfl, by rw [halfTo_zero]; exact hT, hR, hbw⟩⟩
  case round =>
    obtain ⟨k, hk3, rfl, hT1, hR1, hbel⟩ := hrel.out
    by_cases hlt : k < 3
    · have h3 := H3.out
      have hkr : k < rows.length := by omega
      have hok1 := halfTo_ok hok k
      obtain ⟨hbk, hbs⟩ := halfTo_succ rows k rows[k] (List.getElem?_eq_getElem hkr)
      have hkb : k < (halfTo rows k).length := by rw [halfTo_length]; exact hkr
      have hokr := hok rows[k] (List.getElem_mem hkr)
      obtain ⟨r, hr⟩ : ∃ r, rows[k] = r := ⟨_, rfl⟩
      rw [hr] at hbk hbs hokr
      have hl16 := rowOk_len hokr
      have hset0 : (halfTo rows k).set k (halfP r 0) = halfTo rows k := by
        rw [halfP_zero]
        apply List.ext_getElem?
        intro i
        by_cases hi : k = i
        · subst hi; rw [List.getElem?_set_self hkb, hbk]
        · rw [List.getElem?_set_ne hi]
      obtain ⟨hs, hhs⟩ : ∃ hs, halfTo rows k = hs := ⟨_, rfl⟩
      rw [hhs] at hT1 hok1 hbs hkb hset0
      have HN : Hid (∀ (wq : World) (q : Nat), q < 16 → RBox wq w.heap.size (hs.set k (halfP r q)) → wq.cell? ⟨w.heap.size, k * 16 + q, none⟩ = some (.int .i64 (r.getD q 0)) ∧ wq.frozen? ⟨w.heap.size, k * 16 + q, none⟩ = false ∧ RBox (wq.setCell ⟨w.heap.size, k * 16 + q, none⟩ (.int .i64 (r.getD q 0 / 2))) w.heap.size (hs.set k (halfP r (q + 1)))) := by
        intro wq q hq hB
        have h16 : All16 (hs.set k (halfP r q)) := all16_set hok1.all16 k (by rw [halfP_len]; exact hl16)
        have hkl : k < (hs.set k (halfP r q)).length := by rw [List.length_set]; exact hkb
        have hgd : (hs.set k (halfP r q)).getD k [] = halfP r q := by rw [List.getD_eq_getElem?_getD, List.getElem?_set_self hkb]; rfl
        have hc := hB.cell h16 hkl hq
        rw [hgd, halfP_at] at hc
        have hst := hB.set h16 hkl hq (r.getD q 0 / 2)
        rw [hgd, halfP_succ r q (by omega), List.set_set] at hst
        exact ⟨hc, hB.thaw _, hst⟩
      have HZ : Hid (∀ q, q < 16 → 0 ≤ r.getD q 0 ∧ r.getD q 0 ≤ 15) := fun q hq => rowOk_at hokr q hq
      have HE : Hid (∀ wq, RBox wq w.heap.size (hs.set k (halfP r 16)) → RBox wq w.heap.size (halfTo rows (k + 1))) := by
        intro wq h
        rw [halfP_all r 16 (by omega), ← hbs] at h
        exact h
      have HST : Hid (RBox wr w.heap.size (hs.set k (halfP r 0)) ∧ RBox wr (w.heap.size + 1) zrows ∧ Below w.heap.size w wr) := ⟨by rw [hset0]; exact hT1, hR1, hbel⟩
      clear hrel hT hR hbw hT1 hR1 hbel hok1 hbk hbs hkb h3 hkr hset0 hl16 hokr hr hhs
      have hi1 : (0 : Int) ≤ (k : Int) := by omega
      have hi2 : (k : Int) < 3 := by omega
      go_wp2
      go_loopw [4, 8] (fun _ j wq => Box (∃ (q : Nat), q ≤ 16 ∧ j = .int .i64 q ∧ RBox wq w.heap.size (hs.set k (halfP r q)) ∧ RBox wq (w.heap.size + 1) zrows ∧ Below w.heap.size w wq))
        (fun _ j _ => 16 - (intOf j).toNat)
      case atStart => exact ⟨⟨0, by omega, rfl, HST.out.1, HST.out.2.1, HST.out.2.2⟩⟩
      case round =>
        obtain ⟨q, hq16, rfl, hT1, hR1, hbel⟩ := hrel.out
        by_cases hlq : q < 16
        · obtain ⟨xc, xf, xs⟩ := HN.out _ q hlq hT1
          have hz := HZ.out q hlq
          generalize r.getD q 0 = z at xc xs hz
          have HX : Hid (RBox (wr.setCell ⟨w.heap.size, k * 16 + q, none⟩ (.int .i64 (z / 2))) w.heap.size (hs.set k (halfP r (q + 1))) ∧ RBox (wr.setCell ⟨w.heap.size, k * 16 + q, none⟩ (.int .i64 (z / 2))) (w.heap.size + 1) zrows ∧ Below w.heap.size w (wr.setCell ⟨w.heap.size, k * 16 + q, none⟩ (.int .i64 (z / 2)))) := ⟨xs, hR1.kept (Below.heap_setCell _ _ _ _ (show w.heap.size + 1 ≠ w.heap.size by omega)), hbel.setCell (Nat.le_refl _) _⟩
          have hdv : z.tdiv 2 = z / 2 := Int.tdiv_eq_ediv_of_nonneg hz.1
          have hj1 : (0 : Int) ≤ (q : Int) := by omega
          have hj2 : (q : Int) < 16 := by omega
          clear hrel hT1 hR1 hbel xs HN HZ HE HST
          go_wp2
          go_still_tail 8, (by kernel_rfl)
          go_wp2
          refine ⟨?_, ?_⟩
          · exact ⟨⟨q + 1, by omega, by go_num, HX.out.1, HX.out.2.1, HX.out.2.2.trans ⟨rfl, rfl, rfl, Nat.le_refl _, fun _ _ => rfl⟩⟩⟩
          · simp [intOf]; omega
        · obtain rfl : q = 16 := by omega
          have HF := HE.out _ hT1
          clear hrel hT1 HN HZ HE HST
          go_wp2
          refine ⟨⟨⟨k + 1, by omega, by go_num, HF, hR1, hbel⟩⟩, ?_⟩
          simp [intOf]
          omega
    · have h3 := H3.out
      have hke : k = 3 := by omega
      subst hke
      have hok3 := halfTo_ok hok 3
      have hfl : (halfTo rows 3).flatten.length = 48 := by rw [flat_len _ hok3.all16, halfTo_length, h3]
      have hsz : (Tryd.prog.info? 70).map (·.size) = some (ints (halfTo rows 3).flatten).toArray.size := by rw [List.size_toArray, ints_length, hfl]; kernel_rfl
      have hol : (ints zrows.flatten).toArray.size = (ints (halfTo rows 3).flatten).toArray.size := by rw [List.size_toArray, List.size_toArray, ints_length, ints_length, hfl, zrows_len]
      have hbf := below_setRow hbel (show w.heap.size ≤ w.heap.size + 1 by omega) (ints (halfTo rows 3).flatten).toArray
      have hR5 := hR1.stored (halfTo rows 3)
      clear hrel hT hR hbw hbel hfl h3 hok3
      go_wp2_with (first | (refine wpList_loadR rfl (.tmp 1) 70 rfl w.heap.size rfl 3 68 Tryd.underlying70 _ _ hT1 hsz ?_) | (refine wpList_storeR rfl (.tmp 2) (.tmp 21) 70 rfl (w.heap.size + 1) rfl _ rfl _ _ hR1 hsz hol (ints_all _) ?_))
      refine bodyPost_ret (v := .agg (ints (halfTo rows 3).flatten).toArray) (results_cell_row Tryd.results77 _ _ (w.heap.size + 1) 70 _ (0, 0) _ rfl hR5 Tryd.underlying70 rfl hsz) rfl ⟨rfl, hbf⟩
end Go.Proofs.YtbcjkinalghokafDoor

namespace Go.Proofs.YtbcjkinalghokafDoor
open Go.RowKit Go.Sort

/-- A row that was just made is put into its place. -/
theorem OwnSS.put_new {wr w4 : World} {lo G n c k : Nat} {v4 : Value} {LL : List (List Int)} {r : List Int} (h : OwnSS wr lo wr.heap.size (.slice (some ⟨G, 0, none⟩) n c) LL) (hk : k < LL.length) (hlo : lo ≤ wr.heap.size)
    (ho : OwnV w4 wr.heap.size 3 v4 (ints r)) (hg : (wr.alloc (.cells #[] 3)).grownBy w4 (some wr.heap.size)) :
    ∃ ua uc x, v4 = .slice ua r.length uc ∧ w4.cell? ⟨G, k, none⟩ = some x ∧ w4.frozen? ⟨G, k, none⟩ = false ∧ OwnSS (w4.setCell ⟨G, k, none⟩ (.slice ua r.length uc)) lo (w4.setCell ⟨G, k, none⟩ (.slice ua r.length uc)).heap.size (.slice (some ⟨G, 0, none⟩) n c) (LL.set k r) ∧ Below wr.heap.size wr w4 ∧ lo ≤ G ∧ G < wr.heap.size := by
  have hb : Below wr.heap.size wr w4 := ((Below.refl _ wr).alloc (Nat.le_refl _) _).grown hg (by simp) (fun k e => by cases e; exact Nat.le_refl _)
  obtain ⟨ua, uc, rfl, _⟩ := ho.ints
  obtain ⟨g1, cap1, x, hv, xc, xf, hg1, hg2, hput⟩ := (h.below hb (Nat.le_refl _)).put ho hlo k hk
  simp only [Value.slice.injEq, Option.some.injEq, Addr.mk.injEq, and_true] at hv
  obtain ⟨rfl, _, _⟩ := hv
  exact ⟨ua, uc, x, rfl, xc, xf, by simpa using hput, hb, hg1, hg2⟩

set_option maxRecDepth 100000 in
set_option maxHeartbeats 4000000 in
theorem lists_any (w : World) (rows : List (List Int)) (h3 : rows.length = 3) (h16 : All16 rows) :
    Calls Tryd.prog 72 #[.agg (ints rows.flatten).toArray] w fun e w' => ∃ v, e = .returned v ∧ OwnSS w' w.heap.size w'.heap.size v rows ∧ Below w.heap.size w w' := by
  obtain ⟨w1, hw1⟩ : ∃ x, w.alloc (.cells (ints rows.flatten).toArray 70) = x := ⟨_, rfl⟩
  have hb1 : Below w.heap.size w w1 := by rw [← hw1]; exact (Below.refl _ _).alloc (Nat.le_refl _) _
  have hR : RBox w1 w.heap.size rows := by rw [← hw1]; exact RBox.new _ _
  have s1 : w1.heap.size = w.heap.size + 1 := by rw [← hw1]; simp
  have HW : Hid (w.alloc (.cells (ints rows.flatten).toArray 70) = w1) := hw1
  obtain ⟨i0, hi, hz0, hz1, hz2⟩ := info_parts Tryd.infoIntS
  obtain ⟨w2, hmk, hown0, hgr0⟩ := run_make_full (P := Tryd.prog) w1 w1.heap.size 25 40 i0 (.slice none 0 0) 1 Tryd.underlying25 hi hz0 hz1 .i64 .i64 3 (by rw [hz2]; omega) (by unfold maxLen; omega) (Nat.le_refl _)
  have hb2 : Below w1.heap.size w1 w2 := ⟨hgr0.os, hgr0.tape, hgr0.output, hgr0.size, fun j hj => hgr0.block j hj (by simp)⟩
  obtain ⟨G, hG⟩ : ∃ G, w1.heap.size = G := ⟨_, rfl⟩
  have hown : OwnSS w2 G w2.heap.size (.slice (some ⟨G, 0, none⟩) 3 3) (List.replicate 3 []) := by
    rw [← hG]
    refine OwnSS.made ?_
    have := hown0
    rw [show (Value.slice none 0 0).cells = #[Value.slice none 0 0] from rfl, toList_madeCells_one, Nat.mul_one] at this
    unfold OwnV
    rw [List.length_replicate]
    exact this
  rw [hG] at hmk
  have hbw : Below w.heap.size w w2 := hb1.trans (hb2.mono hb1.size)
  have hR2 := hR.on hb2
  rw [← hw1, show ((3 : Nat) : Int) = 3 from rfl] at hmk
  have hGw : w.heap.size < G := by omega
  clear hown0 hgr0 hi hz0 hz1 hz2 hw1 hb1 hb2 hR s1
  go_enter Tryd.func72, Tryd.ntmps72
  go_wp2
  go_loopw [4, 6] (fun _ i wr => Box (∃ (k : Nat), k ≤ 3 ∧ i = .int .i64 k ∧ OwnSS wr G wr.heap.size (.slice (some ⟨G, 0, none⟩) 3 3) (rows.take k ++ List.replicate (rows.length - k) []) ∧ RBox wr w.heap.size rows ∧ Below w.heap.size w wr))
    (fun _ i _ => 3 - (intOf i).toNat)
  case atStart => exact ⟨⟨0, by omega, rfl, by simpa [h3] using hown, hR2, hbw⟩⟩
  case round =>
    obtain ⟨k, hk, rfl, hown1, hR1, hbel⟩ := hrel.out
    by_cases hlt : k < 3
    · have hk3 : k < rows.length := by omega
      have hI := hR1.at h16 hk3
      have hl16 := all16_get h16 hk3
      have HL : Hid (k < (rows.take k ++ List.replicate (rows.length - k) ([] : List Int)).length) := by show _ < _; simp; omega
      have HF := fill_set rows [] k hk3
      obtain ⟨r, hrr⟩ : ∃ r, rows[k] = r := ⟨_, rfl⟩
      rw [hrr] at hI HF hl16
      have HF' : Hid ((rows.take k ++ List.replicate (rows.length - k) ([] : List Int)).set k r = rows.take (k + 1) ++ List.replicate (rows.length - (k + 1)) []) := HF
      have HLr : Hid (rows.length = 3 ∧ r.length = 16) := ⟨h3, hl16⟩
      have hGs : G ≤ wr.heap.size := by
        obtain ⟨vs, hv, hb, _⟩ := hown1
        have := hb G rfl
        omega
      have HN : Hid (∀ v4 w4, OwnV w4 wr.heap.size 3 v4 (ints r) → (wr.alloc (.cells #[] 3)).grownBy w4 (some wr.heap.size) → ∃ ua uc x, v4 = .slice ua r.length uc ∧ w4.cell? ⟨G, k, none⟩ = some x ∧ w4.frozen? ⟨G, k, none⟩ = false ∧ Hid (OwnSS (w4.setCell ⟨G, k, none⟩ (.slice ua r.length uc)) G (w4.setCell ⟨G, k, none⟩ (.slice ua r.length uc)).heap.size (.slice (some ⟨G, 0, none⟩) 3 3) (rows.take (k + 1) ++ List.replicate (rows.length - (k + 1)) []) ∧ RBox (w4.setCell ⟨G, k, none⟩ (.slice ua r.length uc)) w.heap.size rows ∧ Below w.heap.size w (w4.setCell ⟨G, k, none⟩ (.slice ua r.length uc)))) := by
        intro v4 w4 ho hg
        obtain ⟨ua, uc, x, e, xc, xf, hput, hb, _, _⟩ := hown1.put_new HL.out hGs ho hg
        rw [HF] at hput
        exact ⟨ua, uc, x, e, xc, xf, hput, (hR1.on hb).kept (Below.heap_setCell _ _ _ _ (show w.heap.size ≠ G by omega)), (hbel.trans (hb.mono hbel.size)).setCell (show w.heap.size ≤ G by omega) _⟩
      clear hrel hmk hown hR2 hbw HF HF' hrr hown1 hR1 hbel h3 hl16 HL
      have hi1 : (0 : Int) ≤ (k : Int) := by omega
      have hi2 : (k : Int) < 3 := by omega
      go_wp2_with (at_builtin; refine wpList_allI rfl (.tmp 11) (.tmp 14) 40 rfl wr.heap.size 3 Tryd.underlying40 Tryd.infoInt wr.heap.size rfl (own_empty wr) ⟨w.heap.size, k * 16, none⟩ 16 r _ (by rw [HLr.out.2]; rfl) (hI.alloc _) (by have := HLr.out.2; omega) (by simp) ?_; intro v4 w4 hown4 hgr4; obtain ⟨ua, uc, x4, rfl, xc, xf, HX⟩ := HN.out v4 w4 hown4 hgr4; clear hown4 hgr4)
      go_roundw
      case rel =>
        try ((repeat apply Exists.intro); refine ⟨?_, rfl⟩)
        exact ⟨⟨k + 1, by omega, by go_num, HX.out.1, HX.out.2.1, HX.out.2.2⟩⟩
      case measure => simp [intOf]; omega
    · go_wp2_with fail
      go_ret
      have hke : k = rows.length := by omega
      subst hke
      simp only [List.take_length, Nat.sub_self, List.replicate_zero, List.append_nil] at hown1
      exact ⟨_, rfl, hown1.mono (by omega) (Nat.le_refl _), hbel⟩
end Go.Proofs.YtbcjkinalghokafDoor
