/- A folder told as a disk: the program's. -/
import Derived.Test.YtghladeamdhlhalFolderOf
import Derived.Test.YtghladeamdhlhalLoseImpl
import Derived.Test.YtghladeamdhlhalGather2
import Derived.Test.YtghladeamdhlhalShelf
import Derived.Deep.RegionLaw
namespace Go.Proofs.Ytghladeamdhlhal
open Go.RowKit Go.Sort

theorem keys_sorted {M : List (Fil × Nat)} (hr : RiseM M) {ss : List (List UInt8)} (h : ss.Perm (strKeys (mOf M))) : (ss.mergeSort (fun x y => decide (x ≤ y))).map encStr = strs (M.map fun p => p.1.nm) := by
  have e1 : strKeys (mOf M) = M.map fun p => p.1.nm.data.toList := by
    simp [strKeys, mOf, List.map_map, Function.comp_def, entD, strOf]
  have e2 : ss.mergeSort (fun x y => decide (x ≤ y)) = (strKeys (mOf M)).mergeSort (fun x y => decide (x ≤ y)) := mergeSort_of_perm h
  rw [e2, e1, List.mergeSort_of_pairwise]
  · simp [strs, List.map_map, Function.comp_def, encStr]
  · rw [List.pairwise_map]
    refine hr.imp ?_
    intro p q hpq
    unfold ltS at hpq
    rw [bytesLess_eq, toList_data', toList_data'] at hpq
    simp only [decide_eq_true_eq] at hpq ⊢
    exact List.le_of_lt hpq

theorem ownsRow_mono {w : World} {base base' : Nat} {e : TypeId} {size k : Nat} {v : Value} {xs : List Value} (h : w.ownsRow base e size v k xs) (hb : base' ≤ base) : w.ownsRow base' e size v k xs := by
  refine ⟨h.1, ?_⟩
  rcases h.2 with h | ⟨g, cap, cur, hv, hg, rest⟩
  · exact .inl h
  · exact .inr ⟨g, cap, cur, hv, Nat.le_trans hb hg, rest⟩

/-- A variable V of a call holds files that it gathers, behind the block B3. -/
theorem gatheredFar {wx W w2 : World} {B3 V : Nat} {T e : TypeId} {v v2 : Value} {L M : List Fil} (hW : Below wx.heap.size wx W) (hV : wx.heap[V]? = some (.cells #[v] T (0, 0))) (hVB : V < B3) (hB3 : B3 ≤ wx.heap.size)
    (hown : OwnF wx B3 e v L) (hgr : W.grownBy w2 v.ownBlock) (hown2 : OwnF w2 B3 e v2 M) :
    w2.heap[V]? = some (.cells #[v] T (0, 0)) ∧ (∀ j, j < B3 → j ≠ V → (w2.setCell ⟨V, 0, none⟩ v2).heap[j]? = wx.heap[j]?) ∧ (w2.setCell ⟨V, 0, none⟩ v2).heap[V]? = some (.cells #[v2] T (0, 0)) ∧
      OwnF (w2.setCell ⟨V, 0, none⟩ v2) B3 e v2 M ∧ Below V wx (w2.setCell ⟨V, 0, none⟩ v2) := by
  have hWs := hW.size
  have k : ∀ j, j < B3 → w2.heap[j]? = wx.heap[j]? := fun j hj => (hgr.block j (by omega) (fun h => by have := (hown.lt j h.symm).1; omega)).trans (hW.block j (by omega))
  have k2 := (k V hVB).trans hV
  refine ⟨k2, fun j hj hne => ?_, ?_, ?_, ?_⟩
  · rw [heap_setCell_other _ _ _ _ (by simpa using hne), k j hj]
  · rw [setCell_eq_setRow w2 V 0 _ T _ v2 k2]
    have := setRow_heap w2 V _ (#[v].setIfInBounds 0 v2) T _ k2
    simpa using this
  · refine hown2.kept fun j hj => ?_
    have := (hown2.lt j hj).1
    rw [heap_setCell_other _ _ _ _ (by simp; omega)]
  · have hB2 : Below V wx w2 := ⟨hgr.os.trans hW.os, hgr.tape.trans hW.tape, hgr.output.trans hW.output, Nat.le_trans hW.size hgr.size, fun j hj => k j (by omega)⟩
    exact hB2.setCell (by simp) _

set_option maxRecDepth 100000 in
set_option maxHeartbeats 4000000 in
theorem disk_any (w : World) (b base : Nat) (M : List (Fil × Nat)) (hF : Fo w b base M) (hM : M.length ≤ 30) (hf : ∀ p ∈ M, fOk p.1 = true) :
    Calls Try.prog 42 #[.map (some b)] w fun e w' => ∃ v, e = .returned (.agg #[v]) ∧ OwnF w' w.heap.size 63 v (M.map (·.1)) ∧ Below w.heap.size w w' := by
  obtain ⟨w2, hw2⟩ : ∃ w2, (w.alloc (.cells #[.slice none 0 0] 31)).alloc (.cells #[.slice none 0 0] 31) = w2 := ⟨_, rfl⟩
  have hb2 : Below w.heap.size w w2 := by rw [← hw2]; exact ((Below.refl _ w).alloc (Nat.le_refl _) _).alloc (by simp) _
  have HS2 : Hid (w2.heap.size = w.heap.size + 2) := by show _ = _; rw [← hw2]; simp
  have hR : w2.heap[w.heap.size]? = some (.cells #[.slice none 0 0] 31 (0, 0)) := by rw [← hw2, Below.heap_alloc _ _ _ (by simp), heap_alloc_new]
  have hV : w2.heap[w.heap.size + 1]? = some (.cells #[.slice none 0 0] 31 (0, 0)) := by
    rw [← hw2]
    have := heap_alloc_new (w.alloc (.cells #[.slice none 0 0] 31)) (.cells #[.slice none 0 0] 31)
    simpa using this
  have HW : Hid ((w.alloc (.cells #[.slice none 0 0] 31)).alloc (.cells #[.slice none 0 0] 31) = w2) := hw2
  clear hw2
  have hF2 := hF.below hb2
  have cK := callsIn_wide.1 (Try.maps_Keys (some b) w2)
  have cS := callsIn_wide.1 (Try.sorted_keys b M.length (mOf M) ptrE w2 hF2.own (by rw [mOf_size]; unfold maxLen; omega) (by rw [mOf_size]; omega))
  go_enter Try.func42, Try.ntmps42
  go_wp2_with fail
  rw [HW.out]
  refine cK.mono ?_
  rintro e w3 ⟨rfl, rfl⟩
  go_wp2_with fail
  refine cS.mono ?_
  rintro e w3 ⟨vk, ss, rfl, hperm, hrow, _, hb3⟩
  rw [keys_sorted hF2.rise hperm] at hrow
  have hb23 : Below w2.heap.size w2 w3 := ((Below.refl _ w2).alloc (Nat.le_refl _) _).trans (hb3.mono (by simp))
  have hlen : ss.length = (strs (M.map fun p => p.1.nm)).length := by rw [strs_length, List.length_map, hperm.length_eq]; simp [strKeys, mOf]
  rw [hlen] at hrow
  have hkeys : OwnV w3 w2.heap.size 9 vk (strs (M.map fun p => p.1.nm)) := ownsRow_mono (base' := w2.heap.size) hrow (by simp)
  have hbw3 : Below w.heap.size w w3 := hb2.trans (hb23.mono hb2.size)
  have hs2 := HS2.out
  have hR3 : w3.heap[w.heap.size]? = some (.cells #[.slice none 0 0] 31 (0, 0)) := (hb23.block _ (by omega)).trans hR
  have hV3 : w3.heap[w.heap.size + 1]? = some (.cells #[.slice none 0 0] 31 (0, 0)) := (hb23.block _ (by omega)).trans hV
  have hF3 : Fo w3 b base M := hF2.below hb23
  have hs3 := hb23.size
  obtain ⟨B3, hB3⟩ : ∃ B3, w3.heap.size = B3 := ⟨_, rfl⟩
  have HF : Hid (∀ wr : World, (∀ j, j < B3 → j ≠ w.heap.size + 1 → wr.heap[j]? = w3.heap[j]?) → Fo wr b base M) := by
    intro wr hk
    have hlb := hF.own.lt
    refine hF3.kept (hk b (by have := hF3.own.lt; omega) (by omega)) (fun p hp => hk p.2 (by have := (hF3.blk p hp).2.lt; omega) ?_)
    have := (hF.blk p hp).2.lt
    omega
  have HKy : Hid (∀ wr : World, (∀ j, j < B3 → j ≠ w.heap.size + 1 → wr.heap[j]? = w3.heap[j]?) → OwnV wr w2.heap.size 9 vk (strs (M.map fun p => p.1.nm))) := by
    intro wr hk
    refine hkeys.kept fun k hk' => hk k ?_ ?_
    · have := (hkeys.lt k hk').2; omega
    · have := (hkeys.lt k hk').1; omega
  have HRr : Hid (∀ wr : World, (∀ j, j < B3 → j ≠ w.heap.size + 1 → wr.heap[j]? = w3.heap[j]?) → wr.heap[w.heap.size]? = some (.cells #[.slice none 0 0] 31 (0, 0))) := fun wr hk => (hk _ (by omega) (by omega)).trans hR3
  obtain ⟨ak, capk, hvk, _⟩ := hkeys.shape
  rw [strs_length, List.length_map] at hvk
  subst hvk
  have hB3' : w.heap.size + 2 ≤ B3 := by omega
  have HB3 : Hid (w3.heap.size = B3) := hB3
  clear hF hF2 hF3 cK cS hb2 hb3 hb23 hrow hlen hkeys hR hV hR3 hs2 hB3 hs3 hperm HS2
  go_wp2
  go_loopw [10] (fun i wr => Box (∃ (k : Nat) (v : Value), k ≤ M.length ∧ i = .int .i64 k ∧ Hid (∀ j, j < B3 → j ≠ w.heap.size + 1 → wr.heap[j]? = w3.heap[j]?) ∧ wr.heap[w.heap.size + 1]? = some (.cells #[v] 31 (0, 0)) ∧ OwnF wr B3 63 v ((M.map (·.1)).take k) ∧ B3 ≤ wr.heap.size ∧ Below w.heap.size w wr))
    (fun i _ => M.length - (intOf i).toNat)
  case atStart => exact ⟨⟨0, .slice none 0 0, by omega, rfl, fun _ _ _ => rfl, hV3, OwnF.nil _ _ _, by have := HB3.out; omega, hbw3⟩⟩
  case round =>
    obtain ⟨k, v, hk, rfl, HK, hvar, hown, hBr, hbel⟩ := hrel.out
    clear hrel hV3 hbw3 HB3
    by_cases hlt : k < M.length
    · have hFr := HF.out wr HK.out
      have hKr := HKy.out wr HK.out
      obtain ⟨a2, cap2, hv2, hcells⟩ := hKr.shape
      obtain ⟨gk, hak, hck, _⟩ := hcells k (by rw [strs_length, List.length_map]; exact hlt)
      rw [strs_length, List.length_map] at hv2
      cases hv2
      subst hak
      rw [strs_at (by rw [List.length_map]; exact hlt), List.getElem_map] at hck
      have hmem : M[k] ∈ M := List.getElem_mem hlt
      have hfo := hf _ hmem
      have hB := (hFr.blk _ hmem).2
      have hTK : (M.map (·.1)).take (k + 1) = (M.map (·.1)).take k ++ [M[k].1] := by
        rw [List.take_succ_eq_append_getElem (by rw [List.length_map]; exact hlt), List.getElem_map]
      have hlook : (Instr.lookup 68 (.map (some b)) (.string M[k].1.nm) false).run Try.prog wr.drew = .ok (.pointer (some ⟨M[k].2, 0, none⟩)) wr.drew := by
        have hFd : Fo wr.drew b base M := hFr.kept rfl (fun _ _ => rfl)
        rcases hFd.look M[k].1.nm (by have := (fOk_nm hfo).2; unfold maxLen; omega) with ⟨f, g, hm, hfn, hfind, hl⟩ | ⟨hfind, hl⟩
        · have : (f, g) = M[k] := by
            obtain ⟨j, hj, hje⟩ := List.getElem_of_mem hm
            have hr := List.pairwise_iff_getElem.1 hFd.rise
            rcases Nat.lt_trichotomy j k with h | rfl | h
            · have := hr j k hj hlt h; rw [hje, hfn, ltS_irr] at this; cases this
            · exact hje.symm
            · have := hr k j hlt hj h; rw [hje, hfn, ltS_irr] at this; cases this
          rw [← this] at hl ⊢
          exact hl
        · rw [List.find?_eq_none] at hfind
          have := hfind M[k].1 (List.mem_map.2 ⟨_, hmem, rfl⟩)
          simp [eqS_refl] at this
      obtain ⟨f, g, hfg⟩ : ∃ f g, M[k] = (f, g) := ⟨_, _, rfl⟩
      rw [hfg] at hck hfo hB hTK hlook
      dsimp only at hck hfo hB hTK hlook
      obtain ⟨hc0, hc1, hc2⟩ := hB.cells
      have hgl := hB.lt
      have HTK : Hid ((M.map (·.1)).take (k + 1) = (M.map (·.1)).take k ++ [f]) := hTK
      have hnmS := (fOk_nm hfo).2
      have htxS := fOk_tx hfo
      have hi1 : (0 : Int) ≤ (k : Int) := by omega
      have hi2 : (k : Int) < (M.length : Int) := by omega
      have hVr : w.heap.size + 1 < wr.heap.size := by omega
      have xV : wr.cell? ⟨w.heap.size + 1, 0, none⟩ = some v := by simp [World.cell?, hvar]
      have zV : wr.frozen? ⟨w.heap.size + 1, 0, none⟩ = false := by simp [World.frozen?, hvar]
      have HOW : Hid (OwnF wr B3 63 v ((M.map (·.1)).take k)) := hown
      have HVAR : Hid (wr.heap[w.heap.size + 1]? = some (.cells #[v] 31 (0, 0))) := hvar
      have hTL : ((M.map (·.1)).take k).length ≤ 30 := by rw [List.length_take]; omega
      have HTL : Hid (((M.map (·.1)).take k).length ≤ 30) := hTL
      clear hFr hKr hcells hmem hfo hB hTK hown hvar hfg hTL
      generalize (M.map (·.1)).take k = T at HOW HTK HTL
      go_wp2
      go_region_law (first
        | (refine step_snocF (by rfl) _ _ 29 (by rfl) B3 63 Try.underlying29 Try.infoFile _ T (by rfl) (by exact HOW1.out.alloc _) w5.heap.size f (0, 0) (by rfl) (by exact heap_alloc_new w5 _) (by have := HTL.out; omega) (by simp; omega) ?_; intro g2 cap2 w6 hown2 hgr2; have hk2 := gatheredFar (hbX.alloc hbX.size _) HVAR.out (by omega) (by omega) HOW.out hgr2 hown2; have q2 : w6.cell? ⟨w.heap.size + 1, 0, none⟩ = some v := (by simp [World.cell?, hk2.1]); have z2 : w6.frozen? ⟨w.heap.size + 1, 0, none⟩ = false := (by simp [World.frozen?, hk2.1]))
        | (go_simp; go_at_call 49; refine (fileCopy_any f _ (by omega) (by omega)).mono ?_; rintro e w5 ⟨rfl, hb5⟩; have hbX : Below wr.heap.size wr w5 := (bdrew wr).trans hb5; have xV2 : w5.cell? ⟨w.heap.size + 1, 0, none⟩ = some v := (hbX.cell (p := ⟨w.heap.size + 1, 0, none⟩) (by simp; omega)).trans xV; have xV3 := kept_x_new xV2; have HOW1 : Hid (OwnF w5 B3 63 v T) := HOW.out.below hbX (Nat.le_refl _); have hw5s := hbX.size))
      all_goals (
        rw [← HTK.out] at hk2
        have HK2 := hk2.2
        have hs6 := HK2.2.2.2.size
        clear hk2 hown2 hgr2
        go_wp2
        refine ⟨?_, ?_⟩
        · exact ⟨⟨k + 1, _, by omega, by go_num, fun j hj hne => (HK2.1 j hj hne).trans (HK.out j hj hne), HK2.2.1, HK2.2.2.1, by omega, hbel.trans (HK2.2.2.2.mono (by omega))⟩⟩
        · simp [intOf]; omega)
    · have hke : k = M.length := by omega
      subst hke
      have HT : Hid ((M.map (·.1)).take M.length = M.map (·.1)) := List.take_of_length_le (by simp)
      rw [HT.out] at hown
      obtain ⟨av, cv, hv', _⟩ := hown.shape
      rw [List.length_map] at hv'
      subst hv'
      have hres := HRr.out wr HK.out
      have qR : wr.cell? ⟨w.heap.size, 0, none⟩ = some (.slice none 0 0) := by simp [World.cell?, hres]
      have zR : wr.frozen? ⟨w.heap.size, 0, none⟩ = false := by simp [World.frozen?, hres]
      have qV : wr.cell? ⟨w.heap.size + 1, 0, none⟩ = some (.slice av M.length cv) := by simp [World.cell?, hvar]
      have q5 := cell_set_same (v := .slice av M.length cv) qR
      have HO : Hid (OwnF wr B3 63 (.slice av M.length cv) (M.map (·.1))) := hown
      clear hres hvar hown HT
      go_wp2
      refine bodyPost_ret (v := .agg #[.slice av M.length cv]) (by simp [results, Try.results42, go_sem, q5]) rfl ⟨_, rfl, ?_, ?_⟩
      · refine (HO.out.mono (by omega)).kept fun j hj => ?_
        have := (HO.out.lt j hj).1
        rw [heap_setCell_other _ _ _ _ (by simp; omega)]
      · exact hbel.setCell (by simp) _
end Go.Proofs.Ytghladeamdhlhal
