/- The rows of a sketch halved: the program's. -/
import Derived.Test.YtifjjfjadcpmaaeDoorSkArr2
namespace Go.Proofs.YtifjjfjadcpmaaeDoor
open Go.RowKit Go.Sort

set_option maxRecDepth 100000 in
set_option maxHeartbeats 4000000 in
theorem halved_any (w : World) (rows : List (List Int)) (h3 : rows.length = 3) (hok : AllOk rows) :
    Calls Tryd.prog 59 #[.agg (ints rows.flatten).toArray] w fun e w' => e = .returned (.agg (ints (halfTo rows 3).flatten).toArray) ∧ Below w.heap.size w w' := by
  obtain ⟨w0, hw0⟩ : ∃ x, w.alloc (.cells (ints rows.flatten).toArray 81) = x := ⟨_, rfl⟩
  obtain ⟨w1, hw1⟩ : ∃ x, w0.alloc (.cells (ints zrows.flatten).toArray 81) = x := ⟨_, rfl⟩
  have hb0 : Below w.heap.size w w0 := by rw [← hw0]; exact (Below.refl _ _).alloc (Nat.le_refl _) _
  have hb1 : Below w0.heap.size w0 w1 := by rw [← hw1]; exact (Below.refl _ _).alloc (Nat.le_refl _) _
  have s0 : w0.heap.size = w.heap.size + 1 := by rw [← hw0]; simp
  have hbw : Below w.heap.size w w1 := hb0.trans (hb1.mono hb0.size)
  have hT : RBox w1 w.heap.size rows := by
    have h : RBox w0 w.heap.size rows := by rw [← hw0]; exact RBox.new _ _
    exact h.on hb1
  have hR : RBox w1 (w.heap.size + 1) zrows := by rw [← hw1, ← s0]; exact RBox.new _ _
  have HW : Hid ((w.alloc (.cells (ints rows.flatten).toArray 81)).alloc (.cells (ints zrows.flatten).toArray 81) = w1) := by rw [hw0]; exact hw1
  have H3 : Hid (rows.length = 3) := h3
  clear hw0 hw1 s0 hb0 hb1 h3
  go_enter Tryd.func59, Tryd.ntmps59
  go_wp2
  rw [zlit, HW.out]
  go_loopw [3, 4, 5, 8] (fun _ _ i _ wr => Box (∃ (k : Nat), k ≤ 3 ∧ i = .int .i64 k ∧ RBox wr w.heap.size (halfTo rows k) ∧ RBox wr (w.heap.size + 1) zrows ∧ Below w.heap.size w wr))
    (fun _ _ i _ _ => 3 - (intOf i).toNat)
  case atStart => exact ⟨⟨0, by omega, rfl, by rw [halfTo_zero]; exact hT, hR, hbw⟩⟩
  case round =>
    obtain ⟨k, hk3, rfl, hT1, hR1, hbel⟩ := hrel.out
    by_cases hlt : k < 3
    · have h3 := H3.out
      have hkr : k < rows.length := by omega
      have hok1 := halfTo_ok hok k
      obtain ⟨hbk, hbs⟩ := halfTo_succ rows k rows[k] (List.getElem?_eq_getElem hkr)
      have hkb : k < (halfTo rows k).length := by rw [halfTo_length]; exact hkr
      have hokr := hok rows[k] (List.getElem_mem hkr)
      obtain ⟨r, hr⟩ : ∃ r, rows[k] = r := ⟨_, rfl⟩
      rw [hr] at hbk hbs hokr
      have hl16 := rowOk_len hokr
      have hset0 : (halfTo rows k).set k (halfP r 0) = halfTo rows k := by
        rw [halfP_zero]
        apply List.ext_getElem?
        intro i
        by_cases hi : k = i
        · subst hi; rw [List.getElem?_set_self hkb, hbk]
        · rw [List.getElem?_set_ne hi]
      obtain ⟨hs, hhs⟩ : ∃ hs, halfTo rows k = hs := ⟨_, rfl⟩
      rw [hhs] at hT1 hok1 hbs hkb hset0
      have HN : Hid (∀ (wq : World) (q : Nat), q < 16 → RBox wq w.heap.size (hs.set k (halfP r q)) → wq.cell? ⟨w.heap.size, k * 16 + q, none⟩ = some (.int .i64 (r.getD q 0)) ∧ wq.frozen? ⟨w.heap.size, k * 16 + q, none⟩ = false ∧ RBox (wq.setCell ⟨w.heap.size, k * 16 + q, none⟩ (.int .i64 (r.getD q 0 / 2))) w.heap.size (hs.set k (halfP r (q + 1)))) := by
        intro wq q hq hB
        have h16 : All16 (hs.set k (halfP r q)) := all16_set hok1.all16 k (by rw [halfP_len]; exact hl16)
        have hkl : k < (hs.set k (halfP r q)).length := by rw [List.length_set]; exact hkb
        have hgd : (hs.set k (halfP r q)).getD k [] = halfP r q := by rw [List.getD_eq_getElem?_getD, List.getElem?_set_self hkb]; rfl
        have hc := hB.cell h16 hkl hq
        rw [hgd, halfP_at] at hc
        have hst := hB.set h16 hkl hq (r.getD q 0 / 2)
        rw [hgd, halfP_succ r q (by omega), List.set_set] at hst
        exact ⟨hc, hB.thaw _, hst⟩
      have HZ : Hid (∀ q, q < 16 → 0 ≤ r.getD q 0 ∧ r.getD q 0 ≤ 15) := fun q hq => rowOk_at hokr q hq
      have HE : Hid (∀ wq, RBox wq w.heap.size (hs.set k (halfP r 16)) → RBox wq w.heap.size (halfTo rows (k + 1))) := by
        intro wq h
        rw [halfP_all r 16 (by omega), ← hbs] at h
        exact h
      have HST : Hid (RBox wr w.heap.size (hs.set k (halfP r 0)) ∧ RBox wr (w.heap.size + 1) zrows ∧ Below w.heap.size w wr) := ⟨by rw [hset0]; exact hT1, hR1, hbel⟩
      clear hrel hT hR hbw hT1 hR1 hbel hok1 hbk hbs hkb h3 hkr hset0 hl16 hokr hr hhs
      have hi1 : (0 : Int) ≤ (k : Int) := by omega
      have hi2 : (k : Int) < 3 := by omega
      go_wp2
      go_loopw [4, 8] (fun _ j wq => Box (∃ (q : Nat), q ≤ 16 ∧ j = .int .i64 q ∧ RBox wq w.heap.size (hs.set k (halfP r q)) ∧ RBox wq (w.heap.size + 1) zrows ∧ Below w.heap.size w wq))
        (fun _ j _ => 16 - (intOf j).toNat)
      case atStart => exact ⟨⟨0, by omega, rfl, HST.out.1, HST.out.2.1, HST.out.2.2⟩⟩
      case round =>
        obtain ⟨q, hq16, rfl, hT1, hR1, hbel⟩ := hrel.out
        by_cases hlq : q < 16
        · obtain ⟨xc, xf, xs⟩ := HN.out _ q hlq hT1
          have hz := HZ.out q hlq
          generalize r.getD q 0 = z at xc xs hz
          have HX : Hid (RBox (wr.setCell ⟨w.heap.size, k * 16 + q, none⟩ (.int .i64 (z / 2))) w.heap.size (hs.set k (halfP r (q + 1))) ∧ RBox (wr.setCell ⟨w.heap.size, k * 16 + q, none⟩ (.int .i64 (z / 2))) (w.heap.size + 1) zrows ∧ Below w.heap.size w (wr.setCell ⟨w.heap.size, k * 16 + q, none⟩ (.int .i64 (z / 2)))) := ⟨xs, hR1.kept (Below.heap_setCell _ _ _ _ (show w.heap.size + 1 ≠ w.heap.size by omega)), hbel.setCell (Nat.le_refl _) _⟩
          have hdv : z.tdiv 2 = z / 2 := Int.tdiv_eq_ediv_of_nonneg hz.1
          have hj1 : (0 : Int) ≤ (q : Int) := by omega
          have hj2 : (q : Int) < 16 := by omega
          clear hrel hT1 hR1 hbel xs HN HZ HE HST
          go_wp2
          go_still_tail 8, (by kernel_rfl)
          go_wp2
          refine ⟨?_, ?_⟩
          · exact ⟨⟨q + 1, by omega, by go_num, HX.out.1, HX.out.2.1, HX.out.2.2.trans ⟨rfl, rfl, rfl, Nat.le_refl _, fun _ _ => rfl⟩⟩⟩
          · simp [intOf]; omega
        · obtain rfl : q = 16 := by omega
          have HF := HE.out _ hT1
          clear hrel hT1 HN HZ HE HST
          go_wp2
          refine ⟨⟨⟨k + 1, by omega, by go_num, HF, hR1, hbel⟩⟩, ?_⟩
          simp [intOf]
          omega
    · have h3 := H3.out
      have hke : k = 3 := by omega
      subst hke
      have hok3 := halfTo_ok hok 3
      have hfl : (halfTo rows 3).flatten.length = 48 := by rw [flat_len _ hok3.all16, halfTo_length, h3]
      have hsz : (Tryd.prog.info? 81).map (·.size) = some (ints (halfTo rows 3).flatten).toArray.size := by rw [List.size_toArray, ints_length, hfl]; kernel_rfl
      have hol : (ints zrows.flatten).toArray.size = (ints (halfTo rows 3).flatten).toArray.size := by rw [List.size_toArray, List.size_toArray, ints_length, ints_length, hfl, zrows_len]
      have hbf := below_setRow hbel (show w.heap.size ≤ w.heap.size + 1 by omega) (ints (halfTo rows 3).flatten).toArray
      have hR5 := hR1.stored (halfTo rows 3)
      clear hrel hT hR hbw hbel hfl h3 hok3
      go_wp2_with (first | (refine wpList_loadR rfl (.tmp 1) 81 rfl w.heap.size rfl 3 79 Tryd.underlying81 _ _ hT1 hsz ?_) | (refine wpList_storeR rfl (.tmp 2) (.tmp 21) 81 rfl (w.heap.size + 1) rfl _ rfl _ _ hR1 hsz hol (ints_all _) ?_))
      refine bodyPost_ret (v := .agg (ints (halfTo rows 3).flatten).toArray) (results_cell_row Tryd.results59 _ _ (w.heap.size + 1) 81 _ (0, 0) _ rfl hR5 Tryd.underlying81 rfl hsz) rfl ⟨rfl, hbf⟩
end Go.Proofs.YtifjjfjadcpmaaeDoor
