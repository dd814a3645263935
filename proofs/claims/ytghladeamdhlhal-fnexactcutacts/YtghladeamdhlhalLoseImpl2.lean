/- What is left of a disk: the program's. -/
import Derived.Test.YtghladeamdhlhalDiskImpl
import Derived.Test.YtghladeamdhlhalLoseImpl
import Derived.Test.YtghladeamdhlhalLosePlain
import Derived.Test.YtghladeamdhlhalGather
import Derived.Test.YtghladeamdhlhalInts
import Derived.Test.YtghladeamdhlhalShelf
import Derived.Deep.RegionLaw
namespace Go.Proofs.Ytghladeamdhlhal
open Go.RowKit Go.Sort

set_option maxHeartbeats 4000000 in
theorem implLose_any (w : World) (a : Option Addr) (cap : Nat) (L : List Fil) (b : Option Addr) (capb : Nat) (left : List Int) (hL : FAt w a L w.heap.size) (hI : IAt w b left w.heap.size) (hm : L.length + wgt L ≤ 1048576) (hi : left.length ≤ 1048576) :
    Calls Try.prog 25 #[.agg #[.slice a L.length cap], .slice b left.length capb] w fun e w' => ∃ v, e = .returned (.tuple #[.agg #[v], .bool (dOk L)]) ∧ OwnF w' w.heap.size 63 v (loseL L left) ∧ Below w.heap.size w w' := by
  obtain ⟨wb, hwb⟩ : ∃ wb, (w.alloc (.cells #[.slice a L.length cap] 31)).alloc (.cells #[.slice none 0 0] 31) = wb := ⟨_, rfl⟩
  have hb : Below w.heap.size w wb := by rw [← hwb]; exact ((Below.refl _ _).alloc (Nat.le_refl _) _).alloc (by simp) _
  have hbs : wb.heap.size = w.heap.size + 1 + 1 := by rw [← hwb]; simp
  have hbox : wb.heap[w.heap.size]? = some (.cells #[.slice a L.length cap] 31 (0, 0)) := by rw [← hwb, Below.heap_alloc _ _ _ (by simp), heap_alloc_new]
  have hres : wb.heap[w.heap.size + 1]? = some (.cells #[.slice none 0 0] 31 (0, 0)) := by
    rw [← hwb]
    have := heap_alloc_new (w.alloc (.cells #[.slice a L.length cap] 31)) (.cells #[.slice none 0 0] 31)
    simpa using this
  have hLb : FAt wb a L wb.heap.size := (hL.below hb (Nat.le_refl _)).mono hb.size
  have c0 := implDiskOk_any wb a cap L hLb (by omega)
  have HW : Hid ((w.alloc (.cells #[.slice a L.length cap] 31)).alloc (.cells #[.slice none 0 0] 31) = wb) := hwb
  clear hwb
  go_enter Try.func25, Try.ntmps25
  go_wp2_with fail
  rw [HW.out]
  refine c0.mono ?_
  rintro e w1 ⟨rfl, hb1⟩
  have hbox1 := (hb1.block w.heap.size (by omega)).trans hbox
  have hres1 := (hb1.block (w.heap.size + 1) (by omega)).trans hres
  have hw1 : Below w.heap.size w w1 := hb.trans (hb1.mono hb.size)
  have hsz1 : w.heap.size + 1 + 1 ≤ w1.heap.size := by have := hb1.size; omega
  clear c0 hbox hres hLb
  have qR : w1.cell? ⟨w.heap.size + 1, 0, none⟩ = some (.slice none 0 0) := by simp [World.cell?, hres1]
  have zR : w1.frozen? ⟨w.heap.size + 1, 0, none⟩ = false := by simp [World.frozen?, hres1]
  have qB : w1.cell? ⟨w.heap.size, 0, none⟩ = some (.slice a L.length cap) := by simp [World.cell?, hbox1]
  cases hd : dOk L with
  | false =>
    have hl : Hid (loseL L left = []) := by simp [loseL, hd, Hid]
    have HD : Hid (dOk L = false) := hd
    clear hbox1 hres1 hd
    have q5 := cell_set_same (v := .slice none 0 0) qR
    go_wp2
    refine bodyPost_ret (v := .tuple #[.agg #[.slice none 0 0], .bool false]) (by simp [results, Try.results25, go_sem, q5]) rfl ⟨.slice none 0 0, by rw [HD.out], ?_, ?_⟩
    · rw [hl.out]; exact OwnF.nil _ _ _
    · exact hw1.setCell (by simp) _
  | true => 
    have HD : Hid (dOk L = true) := hd
    clear hd
    obtain ⟨V, hV⟩ : ∃ V, w1.heap.size = V := ⟨_, rfl⟩
    have hw2 : Below w.heap.size w (w1.alloc (.cells #[.slice none 0 0] 31)) := hw1.alloc hw1.size _
    have hbox2 := (Below.heap_alloc w1 (.cells #[.slice none 0 0] 31) w.heap.size (by omega)).trans hbox1
    have hres2 := (Below.heap_alloc w1 (.cells #[.slice none 0 0] 31) (w.heap.size + 1) (by omega)).trans hres1
    have hvar2 := heap_alloc_new w1 (.cells #[.slice none 0 0] 31)
    rw [hV] at hvar2
    have qB2 : (w1.alloc (.cells #[.slice none 0 0] 31)).cell? ⟨w.heap.size, 0, none⟩ = some (.slice a L.length cap) := (World.cell?_of_block (Below.heap_alloc w1 (.cells #[.slice none 0 0] 31) w.heap.size (by omega))).trans qB
    clear hbox1 hres1 qR zR
    go_wp2
    clear qB2
    go_loopw [18] (fun i wr => Box (∃ (k : Nat) (v : Value), k ≤ L.length ∧ i = .int .i64 k ∧ wr.heap[w.heap.size]? = some (.cells #[.slice a L.length cap] 31 (0, 0)) ∧ wr.heap[w.heap.size + 1]? = some (.cells #[.slice none 0 0] 31 (0, 0)) ∧ wr.heap[V]? = some (.cells #[v] 31 (0, 0)) ∧ OwnF wr (V + 1) 63 v (loseTo L left k) ∧ Below w.heap.size w wr))
      (fun i _ => L.length - (intOf i).toNat)
    case atStart => exact ⟨⟨0, .slice none 0 0, by omega, rfl, hbox2, hres2, hvar2, OwnF.nil _ _ _, hw2⟩⟩
    case round =>
      obtain ⟨k, v, hk, rfl, hbox, hres, hvar, hown, hbel⟩ := hrel.out
      have qB : wr.cell? ⟨w.heap.size, 0, none⟩ = some (.slice a L.length cap) := by simp [World.cell?, hbox]
      by_cases hlt : k < L.length
      · obtain ⟨g, off, rfl, hg, hc0, hc1, hc2⟩ := (hL.below hbel (Nat.le_refl _)) k hlt
        have hfo := dOk_at HD.out hlt
        have hkl := dOk_len HD.out
        obtain ⟨f, hf⟩ : ∃ f, L[k] = f := ⟨_, rfl⟩
        rw [hf] at hc0 hc1 hc2 hfo
        have hln := lossN_in hfo (toldAt left k)
        have hkp := fOk_kp hfo
        have hi1 : (0 : Int) ≤ (k : Int) := by omega
        have hi2 : (k : Int) < (L.length : Int) := by omega
        have HF : Hid (L[k] = f) := hf
        obtain ⟨wx, hwx⟩ : ∃ wx, wr.alloc (.cells #[.string f.nm, .string f.tx, .int .i64 f.kp] 63) = wx := ⟨_, rfl⟩
        have hbx : Below wr.heap.size wr wx := by rw [← hwx]; exact (Below.refl _ _).alloc (Nat.le_refl _) _
        have hVr : V < wr.heap.size := (Array.getElem?_eq_some_iff.1 hvar).1
        have hxs : wx.heap.size = wr.heap.size + 1 := by rw [← hwx]; simp
        obtain ⟨X, hX⟩ : ∃ X, wr.heap.size = X := ⟨_, rfl⟩
        have x0 : wx.cell? ⟨X, 0, none⟩ = some (.string f.nm) := by rw [← hwx, ← hX]; simp
        have x1 : wx.cell? ⟨X, 1, none⟩ = some (.string f.tx) := by rw [← hwx, ← hX]; simp
        have x2 : wx.cell? ⟨X, 2, none⟩ = some (.int .i64 f.kp) := by rw [← hwx, ← hX]; simp
        have xV : wx.cell? ⟨V, 0, none⟩ = some v := by rw [World.cell?_of_block (hbx.block V hVr)]; simp [World.cell?, hvar]
        have zV : wx.frozen? ⟨V, 0, none⟩ = false := by rw [World.frozen?_of_block (hbx.block V hVr)]; simp [World.frozen?, hvar]
        have HOW : Hid (OwnF wx (V + 1) 63 v (loseTo L left k)) := hown.below hbx (Nat.le_refl _)
        have HWX : Hid (wr.alloc (.cells #[.string f.nm, .string f.tx, .int .i64 f.kp] 63) = wx) := hwx
        have HB3 : Hid (wx.heap[w.heap.size]? = some (.cells #[.slice (some ⟨g, off, none⟩) L.length cap] 31 (0, 0)) ∧ wx.heap[w.heap.size + 1]? = some (.cells #[.slice none 0 0] 31 (0, 0)) ∧ wx.heap[V]? = some (.cells #[v] 31 (0, 0))) := ⟨(hbx.block _ (by omega)).trans hbox, (hbx.block _ (by omega)).trans hres, (hbx.block _ hVr).trans hvar⟩
        have hbw : Below w.heap.size w wx := hbel.trans (hbx.mono hbel.size)
        have HIT := (hI.below hbw (Nat.le_refl _))
        rw [hX] at hxs hVr
        clear hrel hL hf hwx hbox hres hvar hown hbx hw2 hbox2 hres2 hvar2
        by_cases hkt : k < left.length
        · obtain ⟨gb, offb, rfl, hgb, hcb⟩ := HIT k hkt
          have htold := toldAt_in hkt
          obtain ⟨T, hT⟩ : ∃ T, left[k] = T := ⟨_, rfl⟩
          rw [hT] at hcb htold
          rw [← HWX.out] at hcb
          have hi3 : (k : Int) < (left.length : Int) := by omega
          clear hT HIT
          obtain ⟨N, hN⟩ : ∃ N, min (max T f.kp) (f.tx.size : Int) = N := ⟨_, rfl⟩
          have hN0 : 0 ≤ N := by omega
          have hN1 : N ≤ (f.tx.size : Int) := by omega
          have e : lossN f (toldAt left k) = N := by rw [htold]; unfold lossN; split <;> split <;> omega
          have HCUT : Hid (cutF f (toldAt left k) = ⟨f.nm, f.tx.extract 0 N.toNat, N⟩) := by simp [cutF, e, Hid]
          have hnmS := (fOk_nm hfo).2
          have htxS := fOk_tx hfo
          have hex : (f.tx.extract 0 N.toNat).size ≤ 1048576 := by rw [ByteArray.size_extract]; omega
          have hsl := fun w => run_slice_string_h (P := Try.prog) w 9 f.tx Try.underlying9 .i64 N hN0 hN1
          clear htold hln e
          go_wp2
          rw [HWX.out]
          clear qB hcb hN
          go_region_law (first
            | (refine step_snocF (by rfl) _ _ 29 (by rfl) (V + 1) 63 Try.underlying29 Try.infoFile _ (loseTo L left k) (by rfl) (by exact HOW1.out.alloc _) w2.heap.size (cutF f (toldAt left k)) (0, 0) (by rfl) (by rw [HCUT.out]; exact heap_alloc_new w2 _) (by rw [loseTo_length]; omega) (by simp; omega) ?_; intro g2 cap2 w3 hown2 hgr2; have hk2 := gathered (hbX.alloc hbX.size _) HB3.out.1 HB3.out.2.1 HB3.out.2.2 (by omega) HOW.out hbw hgr2 hown2; have q2 : w3.cell? ⟨V, 0, none⟩ = some v := (by simp [World.cell?, hk2.1]); have z2 : w3.frozen? ⟨V, 0, none⟩ = false := (by simp [World.frozen?, hk2.1]))
            | (go_simp; go_at_call 49; refine (fileCopy_any ⟨f.nm, f.tx.extract 0 N.toNat, N⟩ _ (by show f.nm.size ≤ 1048576; omega) hex).mono ?_; rintro e w2 ⟨rfl, hb2⟩; have hbX : Below wx.heap.size wx w2 := (bdrew wx).trans hb2; have xV2 : w2.cell? ⟨V, 0, none⟩ = some v := (hbX.cell (p := ⟨V, 0, none⟩) (by simp; omega)).trans xV; have xV3 := kept_x_new xV2; have HOW1 : Hid (OwnF w2 (V + 1) 63 v (loseTo L left k)) := HOW.out.below hbX (Nat.le_refl _); have hw2s := hbX.size))
          all_goals (
            rw [← loseTo_succ hlt HF.out] at hk2
            have HK2 := hk2.2
            clear hk2 hown2 hgr2
            go_wp2
            refine ⟨?_, ?_⟩
            · exact ⟨⟨k + 1, _, by omega, by go_num, HK2.1, HK2.2.1, HK2.2.2.1, HK2.2.2.2.1, HK2.2.2.2.2⟩⟩
            · simp [intOf]; omega)
        · have htold := toldAt_out hkt
          have hi3 : ¬ (k : Int) < (left.length : Int) := by omega
          clear HIT
          obtain ⟨N, hN⟩ : ∃ N, min (max 0 f.kp) (f.tx.size : Int) = N := ⟨_, rfl⟩
          have hN0 : 0 ≤ N := by omega
          have hN1 : N ≤ (f.tx.size : Int) := by omega
          have e : lossN f (toldAt left k) = N := by rw [htold]; unfold lossN; split <;> split <;> omega
          have HCUT : Hid (cutF f (toldAt left k) = ⟨f.nm, f.tx.extract 0 N.toNat, N⟩) := by simp [cutF, e, Hid]
          have hnmS := (fOk_nm hfo).2
          have htxS := fOk_tx hfo
          have hex : (f.tx.extract 0 N.toNat).size ≤ 1048576 := by rw [ByteArray.size_extract]; omega
          have hsl := fun w => run_slice_string_h (P := Try.prog) w 9 f.tx Try.underlying9 .i64 N hN0 hN1
          clear htold hln e
          go_wp2
          rw [HWX.out]
          clear qB hN
          go_region_law (first
            | (refine step_snocF (by rfl) _ _ 29 (by rfl) (V + 1) 63 Try.underlying29 Try.infoFile _ (loseTo L left k) (by rfl) (by exact HOW1.out.alloc _) w2.heap.size (cutF f (toldAt left k)) (0, 0) (by rfl) (by rw [HCUT.out]; exact heap_alloc_new w2 _) (by rw [loseTo_length]; omega) (by simp; omega) ?_; intro g2 cap2 w3 hown2 hgr2; have hk2 := gathered (hbX.alloc hbX.size _) HB3.out.1 HB3.out.2.1 HB3.out.2.2 (by omega) HOW.out hbw hgr2 hown2; have q2 : w3.cell? ⟨V, 0, none⟩ = some v := (by simp [World.cell?, hk2.1]); have z2 : w3.frozen? ⟨V, 0, none⟩ = false := (by simp [World.frozen?, hk2.1]))
            | (go_simp; go_at_call 49; refine (fileCopy_any ⟨f.nm, f.tx.extract 0 N.toNat, N⟩ _ (by show f.nm.size ≤ 1048576; omega) hex).mono ?_; rintro e w2 ⟨rfl, hb2⟩; have hbX : Below wx.heap.size wx w2 := (bdrew wx).trans hb2; have xV2 : w2.cell? ⟨V, 0, none⟩ = some v := (hbX.cell (p := ⟨V, 0, none⟩) (by simp; omega)).trans xV; have xV3 := kept_x_new xV2; have HOW1 : Hid (OwnF w2 (V + 1) 63 v (loseTo L left k)) := HOW.out.below hbX (Nat.le_refl _); have hw2s := hbX.size))
          all_goals (
            rw [← loseTo_succ hlt HF.out] at hk2
            have HK2 := hk2.2
            clear hk2 hown2 hgr2
            go_wp2
            refine ⟨?_, ?_⟩
            · exact ⟨⟨k + 1, _, by omega, by go_num, HK2.1, HK2.2.1, HK2.2.2.1, HK2.2.2.2.1, HK2.2.2.2.2⟩⟩
            · simp [intOf]; omega)
      · have hke : k = L.length := by omega
        subst hke
        obtain ⟨av, cv, rfl, _⟩ := hown.shape
        have HL : Hid (loseL L left = loseTo L left L.length) := by simp [loseL, HD.out, Hid]
        have qR : wr.cell? ⟨w.heap.size + 1, 0, none⟩ = some (.slice none 0 0) := by simp [World.cell?, hres]
        have zR : wr.frozen? ⟨w.heap.size + 1, 0, none⟩ = false := by simp [World.frozen?, hres]
        have qV : wr.cell? ⟨V, 0, none⟩ = some (.slice av (loseTo L left L.length).length cv) := by simp [World.cell?, hvar]
        have q5 := cell_set_same (v := .slice av (loseTo L left L.length).length cv) qR
        have HO : Hid (OwnF wr (V + 1) 63 (.slice av (loseTo L left L.length).length cv) (loseTo L left L.length)) := hown
        clear hrel hL hI hbox hres hvar hown hbox2 hres2 hvar2 hw2
        go_wp2
        refine bodyPost_ret (v := .tuple #[.agg #[.slice av (loseTo L left L.length).length cv], .bool true]) (by simp [results, Try.results25, go_sem, q5]) rfl ⟨_, by rw [HD.out], ?_, ?_⟩
        · rw [HL.out]
          refine (HO.out.mono (by omega)).kept fun j hj => ?_
          have := (HO.out.lt j hj).1
          rw [heap_setCell_other _ _ _ _ (by simp; omega)]
        · exact hbel.setCell (by simp) _
end Go.Proofs.Ytghladeamdhlhal
