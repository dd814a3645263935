/- Files taken away: the other text. -/
import Derived.Test.YtghladeamdhlhalFilesLaw
import Derived.Test.YtghladeamdhlhalActPlain
import Derived.Test.YtghladeamdhlhalGather
import Derived.Deep.RegionLaw
namespace Go.Proofs.Ytghladeamdhlhal
open Go.RowKit Go.Sort

set_option maxHeartbeats 2000000 in
theorem l03Without_any (w : World) (a : Option Addr) (cap : Nat) (L : List Fil) (nm : ByteArray) (hL : FAt w a L w.heap.size) (hm : L.length ≤ 1048576) :
    Calls Try.prog 37 #[.agg #[.slice a L.length cap], .string nm] w fun e w' => ∃ v, e = .returned (.agg #[v]) ∧ OwnF w' w.heap.size 63 v (woL L nm) ∧ Below w.heap.size w w' := by
  obtain ⟨wb, hwb⟩ : ∃ wb, ((w.alloc (.cells #[.slice a L.length cap] 31)).alloc (.cells #[.slice none 0 0] 31)).alloc (.cells #[.slice none 0 0] 31) = wb := ⟨_, rfl⟩
  have hb : Below w.heap.size w wb := by rw [← hwb]; exact (((Below.refl w.heap.size w).alloc (Nat.le_refl _) _).alloc (by simp) _).alloc (by simp; omega) _
  have hn3 := new3 w (.cells #[.slice a L.length cap] 31) (.cells #[.slice none 0 0] 31) (.cells #[.slice none 0 0] 31)
  rw [hwb] at hn3
  obtain ⟨V, hV⟩ : ∃ V, w.heap.size + 1 + 1 = V := ⟨_, rfl⟩
  have hn3v := hn3.2.2
  rw [hV] at hn3v
  have HW : Hid (((w.alloc (.cells #[.slice a L.length cap] 31)).alloc (.cells #[.slice none 0 0] 31)).alloc (.cells #[.slice none 0 0] 31) = wb) := hwb
  have HV : Hid (w.heap.size + 1 + 1 = V) := hV
  clear hwb
  go_enter Try.func37, Try.ntmps37
  go_wp2
  rw [HW.out]
  go_loopw [6] (fun i wr => Box (∃ (k : Nat) (v : Value), k ≤ L.length ∧ i = .int .i64 k ∧ wr.heap[w.heap.size]? = some (.cells #[.slice a L.length cap] 31 (0, 0)) ∧ wr.heap[w.heap.size + 1]? = some (.cells #[.slice none 0 0] 31 (0, 0)) ∧ wr.heap[V]? = some (.cells #[v] 31 (0, 0)) ∧ OwnF wr (V + 1) 63 v ((L.take k).filter fun f => !eqS f.nm nm) ∧ Below w.heap.size w wr))
    (fun i _ => L.length - (intOf i).toNat)
  case atStart => exact ⟨⟨0, .slice none 0 0, by omega, rfl, hn3.1, hn3.2.1, hn3v, OwnF.nil _ _ _, hb⟩⟩
  case round =>
    obtain ⟨k, v, hk, rfl, hbox, hres, hvar, hown, hbel⟩ := hrel.out
    have qB : wr.cell? ⟨w.heap.size, 0, none⟩ = some (.slice a L.length cap) := by simp [World.cell?, hbox]
    have xV : wr.cell? ⟨V, 0, none⟩ = some v := by simp [World.cell?, hvar]
    by_cases hlt : k < L.length
    · obtain ⟨g, off, rfl, hg, hc0, hc1, hc2⟩ := (hL.below hbel (Nat.le_refl _)) k hlt
      obtain ⟨f, hf⟩ : ∃ f, L[k] = f := ⟨_, rfl⟩
      rw [hf] at hc0 hc1 hc2
      have hi1 : (0 : Int) ≤ (k : Int) := by omega
      have hi2 : (k : Int) < (L.length : Int) := by omega
      have HF : Hid (L[k] = f) := hf
      have HB3 : Hid (wr.heap[w.heap.size]? = some (.cells #[.slice (some ⟨g, off, none⟩) L.length cap] 31 (0, 0)) ∧ wr.heap[w.heap.size + 1]? = some (.cells #[.slice none 0 0] 31 (0, 0)) ∧ wr.heap[V]? = some (.cells #[v] 31 (0, 0))) := ⟨hbox, hres, hvar⟩
      have HOW : Hid (OwnF wr (V + 1) 63 v ((L.take k).filter fun f => !eqS f.nm nm)) := hown
      have hVr : V < wr.heap.size := (Array.getElem?_eq_some_iff.1 hvar).1
      have xV3 := kept_x_new xV
      have hlenf := filter_take_len L (fun f => !eqS f.nm nm) k
      clear hrel hL hf hbox hres hvar hown hn3 hn3v hV
      cases he : (f.nm.toList == nm.toList) with
      | true =>
        have hp : (!eqS f.nm nm) = false := by simp [eqS, he]
        go_wp2
        go_roundw
        case rel =>
          try ((repeat apply Exists.intro); refine ⟨?_, rfl⟩)
          exact ⟨⟨k + 1, v, by omega, by go_num, HB3.out.1, HB3.out.2.1, HB3.out.2.2, by rw [filter_take_off hlt HF.out hp]; exact HOW.out, hbel⟩⟩
        case measure => simp [intOf]; omega
      | false =>
        have hp : Hid ((!eqS f.nm nm) = true) := by simp [eqS, he, Hid]
        go_wp2
        go_region_law (refine step_snocF (by rfl) _ _ 29 (by rfl) (V + 1) 63 Try.underlying29 Try.infoFile _ ((L.take k).filter fun f => !eqS f.nm nm) (by rfl) (by exact HOW.out.alloc _) wr.heap.size f (0, 0) (by rfl) (by exact heap_alloc_new wr _) (by omega) (by simp; omega) ?_; intro g2 cap2 w2 hown2 hgr2; have hk2 := gathered ((bdrew wr).alloc (Nat.le_refl _) _) HB3.out.1 HB3.out.2.1 HB3.out.2.2 (by have := HV.out; omega) HOW.out hbel hgr2 hown2; have q2 : w2.cell? ⟨V, 0, none⟩ = some v := (by simp [World.cell?, hk2.1]); have z2 : w2.frozen? ⟨V, 0, none⟩ = false := (by simp [World.frozen?, hk2.1]))
        all_goals (
          rw [← filter_take_on (p := fun f => !eqS f.nm nm) hlt HF.out hp.out] at hk2
          have HK2 := hk2.2
          clear hk2 hown2 hgr2
          go_wp2
          refine ⟨?_, ?_⟩
          · exact ⟨⟨k + 1, _, by omega, by go_num, HK2.1, HK2.2.1, HK2.2.2.1, HK2.2.2.2.1, HK2.2.2.2.2⟩⟩
          · simp [intOf]; omega)
    · have hke : k = L.length := by omega
      subst hke
      rw [List.take_length] at hown
      obtain ⟨av, cv, rfl, _⟩ := hown.shape
      have qR : wr.cell? ⟨w.heap.size + 1, 0, none⟩ = some (.slice none 0 0) := by simp [World.cell?, hres]
      have zR : wr.frozen? ⟨w.heap.size + 1, 0, none⟩ = false := by simp [World.frozen?, hres]
      have q5 := cell_set_same (v := .slice av (L.filter fun f => !eqS f.nm nm).length cv) qR
      have HO : Hid (OwnF wr (V + 1) 63 (.slice av (L.filter fun f => !eqS f.nm nm).length cv) (woL L nm)) := hown
      clear hrel hL hbox hres hvar hown hn3 hn3v hV
      obtain ⟨n, hn⟩ : ∃ n, (L.filter fun f => !eqS f.nm nm).length = n := ⟨_, rfl⟩
      rw [hn] at xV q5 HO
      clear hn
      go_wp2
      refine bodyPost_ret (v := .agg #[.slice av n cv]) (by simp [results, Try.results37, go_sem, q5]) rfl ⟨_, rfl, ?_, ?_⟩
      · refine (HO.out.mono (by have := HV.out; omega)).kept fun j hj => ?_
        have h1 := (HO.out.lt j hj).1
        have h2 := HV.out
        rw [heap_setCell_other _ _ _ _ (by simp; omega)]
      · exact hbel.setCell (by simp) _
end Go.Proofs.Ytghladeamdhlhal
