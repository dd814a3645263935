/- A copy of a disk: the program's. -/
import Derived.Test.YtghladeamdhlhalFolderDisk
namespace Go.Proofs.Ytghladeamdhlhal
open Go.RowKit Go.Sort

set_option maxRecDepth 100000 in
set_option maxHeartbeats 4000000 in
theorem diskCopy_any (w : World) (a : Option Addr) (cap : Nat) (L : List Fil) (hL : FAt w a L w.heap.size) (hm : L.length + wgt L ≤ 1048576) :
    Calls Try.prog 46 #[.agg #[.slice a L.length cap]] w fun e w' => ∃ v, e = .returned (.agg #[v]) ∧ OwnF w' w.heap.size 63 v L ∧ Below w.heap.size w w' := by
  obtain ⟨wb, hwb⟩ : ∃ wb, ((w.alloc (.cells #[.slice a L.length cap] 31)).alloc (.cells #[.slice none 0 0] 31)).alloc (.cells #[.slice none 0 0] 31) = wb := ⟨_, rfl⟩
  have hb : Below w.heap.size w wb := by rw [← hwb]; exact (((Below.refl _ w).alloc (Nat.le_refl _) _).alloc (by simp) _).alloc (by simp; omega) _
  have h3 := new3 w (.cells #[.slice a L.length cap] 31) (.cells #[.slice none 0 0] 31) (.cells #[.slice none 0 0] 31)
  have q0 : (((w.alloc (.cells #[.slice a L.length cap] 31)).alloc (.cells #[.slice none 0 0] 31)).alloc (.cells #[.slice none 0 0] 31)).cell? ⟨w.heap.size, 0, none⟩ = some (.slice a L.length cap) := by simp [World.cell?, h3.1]
  rw [hwb] at h3
  have HS : Hid (wb.heap.size = w.heap.size + 1 + 1 + 1) := by show _ = _; rw [← hwb]; simp
  have HW : Hid (((w.alloc (.cells #[.slice a L.length cap] 31)).alloc (.cells #[.slice none 0 0] 31)).alloc (.cells #[.slice none 0 0] 31) = wb) := hwb
  have HL : Hid (∀ wr, Below w.heap.size w wr → FAt wr a L w.heap.size) := fun wr h => hL.below h (Nat.le_refl _)
  have HR : Hid (∀ wr : World, (∀ j, j < w.heap.size + 1 + 1 → wr.heap[j]? = wb.heap[j]?) → wr.heap[w.heap.size + 1]? = some (.cells #[.slice none 0 0] 31 (0, 0))) := fun wr h => (h _ (by omega)).trans h3.2.1
  have h3v := h3.2.2
  clear hwb hL h3
  go_enter Try.func46, Try.ntmps46
  go_wp2
  rw [HW.out]
  clear q0
  go_loopw [9] (fun i wr => Box (∃ (k : Nat) (v : Value), k ≤ L.length ∧ i = .int .i64 k ∧ Hid (∀ j, j < w.heap.size + 1 + 1 → wr.heap[j]? = wb.heap[j]?) ∧ wr.heap[w.heap.size + 1 + 1]? = some (.cells #[v] 31 (0, 0)) ∧ OwnF wr (w.heap.size + 1 + 1 + 1) 63 v (L.take k) ∧ Below w.heap.size w wr))
    (fun i _ => L.length - (intOf i).toNat)
  case atStart => exact ⟨⟨0, .slice none 0 0, by omega, rfl, fun _ _ => rfl, h3v, OwnF.nil _ _ _, hb⟩⟩
  case round =>
    obtain ⟨k, v, hk, rfl, HK, hvar, hown, hbel⟩ := hrel.out
    clear hrel h3v hb
    by_cases hlt : k < L.length
    · obtain ⟨g, off, rfl, hg, hc0, hc1, hc2⟩ := HL.out wr hbel k hlt
      have hwm := wgt_mem hlt
      have hTK : L.take (k + 1) = L.take k ++ [L[k]] := List.take_succ_eq_append_getElem hlt
      obtain ⟨f, hf⟩ : ∃ f, L[k] = f := ⟨_, rfl⟩
      rw [hf] at hc0 hc1 hc2 hwm hTK
      have HTK : Hid (L.take (k + 1) = L.take k ++ [f]) := hTK
      have hi1 : (0 : Int) ≤ (k : Int) := by omega
      have hi2 : (k : Int) < (L.length : Int) := by omega
      have hVr : w.heap.size + 1 + 1 < wr.heap.size := (Array.getElem?_eq_some_iff.1 hvar).1
      obtain ⟨wx, hwx⟩ : ∃ wx, wr.alloc (.cells #[.string f.nm, .string f.tx, .int .i64 f.kp] 63) = wx := ⟨_, rfl⟩
      have hbx : Below wr.heap.size wr wx := by rw [← hwx]; exact (Below.refl _ _).alloc (Nat.le_refl _) _
      have x0 : wx.cell? ⟨wr.heap.size, 0, none⟩ = some (.string f.nm) := by rw [← hwx]; simp
      have x1 : wx.cell? ⟨wr.heap.size, 1, none⟩ = some (.string f.tx) := by rw [← hwx]; simp
      have x2 : wx.cell? ⟨wr.heap.size, 2, none⟩ = some (.int .i64 f.kp) := by rw [← hwx]; simp
      have hvx := (hbx.block _ hVr).trans hvar
      have xV : wx.cell? ⟨w.heap.size + 1 + 1, 0, none⟩ = some v := by simp [World.cell?, hvx]
      have zV : wx.frozen? ⟨w.heap.size + 1 + 1, 0, none⟩ = false := by simp [World.frozen?, hvx]
      have hxs : w.heap.size + 1 + 1 < wx.heap.size := Nat.lt_of_lt_of_le hVr hbx.size
      have HOW : Hid (OwnF wx (w.heap.size + 1 + 1 + 1) 63 v (L.take k)) := hown.below hbx (Nat.le_refl _)
      have HVAR : Hid (wx.heap[w.heap.size + 1 + 1]? = some (.cells #[v] 31 (0, 0))) := hvx
      have HWX : Hid (wr.alloc (.cells #[.string f.nm, .string f.tx, .int .i64 f.kp] 63) = wx) := hwx
      have HKX : Hid (∀ j, j < w.heap.size + 1 + 1 → wx.heap[j]? = wb.heap[j]?) := fun j hj => (hbx.block j (by omega)).trans (HK.out j hj)
      have hbw : Below w.heap.size w wx := hbel.trans (hbx.mono hbel.size)
      have HTL : Hid ((L.take k).length ≤ 1048576) := by show _ ≤ _; rw [List.length_take]; omega
      clear hTK hf hwx hvx hown hvar hbx HK hbel
      generalize L.take k = T at HOW HTK HTL
      go_wp2
      rw [HWX.out]
      clear hc0 hc1 hc2
      go_region_law (first
        | (refine step_snocF (by rfl) _ _ 29 (by rfl) (w.heap.size + 1 + 1 + 1) 63 Try.underlying29 Try.infoFile _ T (by rfl) (by exact HOW1.out.alloc _) w5.heap.size f (0, 0) (by rfl) (by exact heap_alloc_new w5 _) (by have := HTL.out; omega) (by simp; omega) ?_; intro g2 cap2 w6 hown2 hgr2; have hk2 := gatheredAll (hbX.alloc hbX.size _) HVAR.out (by omega) HOW.out hbw hgr2 hown2; have q2 : w6.cell? ⟨w.heap.size + 1 + 1, 0, none⟩ = some v := (by simp [World.cell?, hk2.1]); have z2 : w6.frozen? ⟨w.heap.size + 1 + 1, 0, none⟩ = false := (by simp [World.frozen?, hk2.1]))
        | (go_simp; go_at_call 49; refine (fileCopy_any f _ (by omega) (by omega)).mono ?_; rintro e w5 ⟨rfl, hb5⟩; have hbX : Below wx.heap.size wx w5 := (bdrew wx).trans hb5; have xV2 : w5.cell? ⟨w.heap.size + 1 + 1, 0, none⟩ = some v := (hbX.cell (p := ⟨w.heap.size + 1 + 1, 0, none⟩) (by simp; omega)).trans xV; have xV3 := kept_x_new xV2; have HOW1 : Hid (OwnF w5 (w.heap.size + 1 + 1 + 1) 63 v T) := HOW.out.below hbX (Nat.le_refl _); have hw5s := hbX.size))
      all_goals (
        rw [← HTK.out] at hk2
        have HK2 := hk2.2
        clear hk2 hown2 hgr2
        go_wp2
        refine ⟨?_, ?_⟩
        · exact ⟨⟨k + 1, _, by omega, by go_num, fun j hj => (HK2.1 j hj).trans (HKX.out j hj), HK2.2.1, HK2.2.2.1, HK2.2.2.2⟩⟩
        · simp [intOf]; omega)
    · have hke : k = L.length := by omega
      subst hke
      rw [List.take_length] at hown
      obtain ⟨av, cv, rfl, _⟩ := hown.shape
      have hres := HR.out wr HK.out
      have qR : wr.cell? ⟨w.heap.size + 1, 0, none⟩ = some (.slice none 0 0) := by simp [World.cell?, hres]
      have zR : wr.frozen? ⟨w.heap.size + 1, 0, none⟩ = false := by simp [World.frozen?, hres]
      have qV : wr.cell? ⟨w.heap.size + 1 + 1, 0, none⟩ = some (.slice av L.length cv) := by simp [World.cell?, hvar]
      have q5 := cell_set_same (v := .slice av L.length cv) qR
      have HO : Hid (OwnF wr (w.heap.size + 1 + 1 + 1) 63 (.slice av L.length cv) L) := hown
      clear hres hvar hown
      go_wp2
      refine bodyPost_ret (v := .agg #[.slice av L.length cv]) (by simp [results, Try.results46, go_sem, q5]) rfl ⟨_, rfl, ?_, ?_⟩
      · refine (HO.out.mono (by omega)).kept fun j hj => ?_
        have := (HO.out.lt j hj).1
        rw [heap_setCell_other _ _ _ _ (by simp; omega)]
      · exact hbel.setCell (by simp) _
end Go.Proofs.Ytghladeamdhlhal
