/- Entries sorted by their keys: slices.SortFunc at what a call has gathered. -/
import Derived.Test.YtepfblabdibggabDoorShelf
import Derived.Test.YtepfblabdibggabDoorFindPlain
import Derived.Test.YtepfblabdibggabDoorEnRows
import Derived.Test.YtepfblabdibggabDoorBaseJ
import Derived.Shelf.SlSortCmp.WholeK
import Derived.Shelf.SlSortCmp.NoneTotal
namespace Go.Proofs.YtepfblabdibggabDoor
open Go.RowKit Go.Sort
theorem cmp_lt : ∀ (a b : List UInt8), (Lib.compareBytes a b < 0) ↔ Op.bytesLess a b = true
  | [], [] => by simp [Lib.compareBytes, Op.bytesLess]
  | [], b :: bs => by simp [Lib.compareBytes, Op.bytesLess]
  | a :: ar, [] => by simp [Lib.compareBytes, Op.bytesLess]
  | a :: ar, b :: bs => by
    have ih := cmp_lt ar bs
    unfold Lib.compareBytes Op.bytesLess
    by_cases h1 : a < b
    · simp [h1]
    · by_cases h2 : b < a
      · have : ¬ a = b := by rintro rfl; exact h1 h2
        simp [h1, h2, this]
      · have : a = b := by
          have h3 : ¬ a.toNat < b.toNat := fun h => h1 (UInt8.lt_iff_toNat_lt.2 h)
          have h4 : ¬ b.toNat < a.toNat := fun h => h2 (UInt8.lt_iff_toNat_lt.2 h)
          exact UInt8.toNat_inj.1 (by omega)
        subst this
        simp [h1, ih]
def cmpE (x y : En) : Int := Lib.compareBytes x.key.data.toList y.key.data.toList
theorem cmpE_lt (x y : En) : ltOf cmpE x y = ltS x.key y.key := by
  unfold ltOf cmpE ltS
  rw [ByteArray.toList_eq, ByteArray.toList_eq]
  have h := cmp_lt x.key.data.toList y.key.data.toList
  cases hb : Op.bytesLess x.key.data.toList y.key.data.toList
  · rw [hb] at h
    exact decide_eq_false (fun hc => by have := h.1 hc; cases this)
  · rw [hb] at h
    exact decide_eq_true (h.2 rfl)
theorem cmpE_swo : SWO (ltOf cmpE) where
  irrefl x := by rw [cmpE_lt]; exact ltS_irr _
  trans x y z h1 h2 := by rw [cmpE_lt] at *; exact ltS_trans h1 h2
  ntrans x y z h1 h2 := by
    rw [cmpE_lt] at *
    cases h : ltS x.key z.key with
    | false => rfl
    | true =>
      by_cases hxy : x.key = y.key
      · rw [hxy, h2] at h; cases h
      · rcases ltS_total hxy with h3 | h3
        · rw [h1] at h3; cases h3
        · have := ltS_trans h3 h
          rw [h2] at this; cases this
theorem enl_flat {D : List En} [Inhabited En] : flatK En.cells 4 D.toArray = (enl D).toArray := by
  refine ext_get! (by simp [enl_length]) fun t ht => ?_
  rw [size_flatK] at ht
  rw [get_flatK _ _ _ _ ht]
  have hs : t / 4 < D.length := by simp at ht; omega
  have hat := enl_at D (t / 4) hs
  have hD : D.toArray[t / 4]! = D[t / 4] := by simp [hs]
  rw [hD]
  have hg : ∀ v, (enl D)[t]? = some v → (enl D).toArray[t]! = v := fun v hv => by simp [Array.getElem!_eq_getD, hv]
  rcases (by omega : t % 4 = 0 ∨ t % 4 = 1 ∨ t % 4 = 2 ∨ t % 4 = 3) with h | h | h | h
  · rw [hg (.string D[t / 4].key) (by have := hat.1; rwa [show 4 * (t / 4) = t by omega] at this), h]; rfl
  · rw [hg (.int .i64 D[t / 4].st) (by have := hat.2.1; rwa [show 4 * (t / 4) + 1 = t by omega] at this), h]; rfl
  · rw [hg (.int .i64 D[t / 4].lf) (by have := hat.2.2.1; rwa [show 4 * (t / 4) + 2 = t by omega] at this), h]; rfl
  · rw [hg (.string D[t / 4].bd) (by have := hat.2.2.2; rwa [show 4 * (t / 4) + 3 = t by omega] at this), h]; rfl
theorem heap_sortedE {w : World} {g n : Nat} {os : Array Obj} {cur : Array Value} {e : TypeId} {fr : Nat × Nat} (d : Array Value) (hb : w.heap[g]? = some (.cells cur e fr)) :
    (grow (Go.Sort.putRow id (Sort.ahead w n) g 0 d) os).heap[g]? = some (.cells (Go.Sort.putCells id 0 d cur) e fr) := by
  have hg : g < w.heap.size := (Array.getElem?_eq_some_iff.1 hb).1
  rw [heap_grow_old _ _ (by simpa using hg)]
  simp [Go.Sort.putRow, mapBlock, Sort.ahead, Array.getElem?_modify, hb, onCells]
theorem grownBy_sortedE {w : World} {g n : Nat} {os : Array Obj} (d : Array Value) : w.grownBy (grow (Go.Sort.putRow id (Sort.ahead w n) g 0 d) os) (some g) := by
  refine ⟨rfl, rfl, rfl, by simp, fun k hk hne => ?_⟩
  rw [heap_grow_old _ _ (by simpa using hk)]
  have : g ≠ k := fun e => hne (by rw [e])
  simp [Go.Sort.putRow, mapBlock, Sort.ahead, Array.getElem?_modify, this]
theorem take_putCellsE (cur : Array Value) (ts : List Value) (h : ts.length ≤ cur.size) : (Go.Sort.putCells id 0 ts.toArray cur).toList.take ts.length = ts := by
  apply List.ext_getElem?
  intro j
  by_cases hj : j < ts.length
  · rw [List.getElem?_take_of_lt hj, Array.getElem?_toList]
    simp [Go.Sort.putCells, hj, show j < cur.size by omega]
  · rw [List.getElem?_take_eq_none (by omega), List.getElem?_eq_none (by omega)]
set_option maxHeartbeats 1000000 in
theorem cmpE_any (x y : En) (W : World) :
    Calls Tryd.prog 44 #[.agg #[.string x.key, .int .i64 x.st, .int .i64 x.lf, .string x.bd], .agg #[.string y.key, .int .i64 y.st, .int .i64 y.lf, .string y.bd]] W fun e w' => e = .returned (.int .i64 (cmpE x y)) ∧ ∃ q os', w' = grow (W.drewN q) os' := by
  have hcon := fun W' => Tryd.strings_Compare x.key y.key W'
  unfold cmpE
  generalize Lib.compareBytes x.key.data.toList y.key.data.toList = r at hcon ⊢
  go_enter Tryd.func44, Tryd.ntmps44
  go_wp2_with (go_at_call 45; refine (hcon _).mono ?_; rintro e w' ⟨rfl, rfl⟩)
  go_ret
  exact ⟨rfl, 0, _, by rw [alloc_eq_grow, alloc_eq_grow, grow_grow]; rfl⟩
set_option maxHeartbeats 2000000 in
theorem sortE_any (w : World) (base : Nat) (v : Value) (L : List En) (ho : OwnN w base 28 v L) (hl : L.length ≤ 100000) :
    Calls Tryd.prog 43 #[v, .func (.func 44) #[] #[]] w fun e w' => e = .returned (.tuple #[]) ∧ ∃ D : List En, OwnN w' base 28 v D ∧ D.Perm L ∧ (D.Pairwise fun x y => ltS y.key x.key = false) ∧ w.grownBy w' v.ownBlock := by
  haveI : Inhabited En := ⟨zen⟩
  by_cases hL : L.length = 0
  · obtain rfl := List.eq_nil_of_length_eq_zero hL
    obtain ⟨a, c, rfl, _⟩ := ho.at
    have hcon := AnyF.slices_SortFunc_none Tryd.sortEn a c (.func (.func 44) #[] #[]) w
    change Calls Tryd.prog 43 _ _ _ at hcon
    refine hcon.mono ?_
    rintro e w' ⟨rfl, rfl⟩
    exact ⟨rfl, [], ho, List.Perm.refl _, List.Pairwise.nil, grownBy_refl _ _⟩
  · rcases ho.2 with ⟨rfl, hn⟩ | ⟨g, cap, cur, rfl, hb, hg, h1, h2, h3, h4⟩
    · exact absurd hn hL
    · have hgs := (Array.getElem?_eq_some_iff.1 hg).1
      have hH : HoldsK En.cells 4 w g 0 L.toArray := by
        intro j hj
        rw [enl_flat] at hj ⊢
        have hj' : j < L.length * 4 := by simpa [enl_length] using hj
        rw [Nat.zero_add]
        refine ⟨?_, World.ownsRow.frozenAt ho j⟩
        rw [World.ownsRow.cellAt ho j hj']
        have : j < (enl L).length := by rw [enl_length]; exact hj'
        simp [this]
      have hcmp : CmpLays Tryd.prog 44 #[] En.cells 4 cmpE g 0 L.toArray.size w := fun _ _ _ _ x y => cmpE_any x y _
      have eg : ∀ args w, (callFunc 44 args).run Tryd.prog w = .ok (.enter 44 args) w := enters_of Tryd.func44 (by kernel_rfl) rfl
      have hcon := AnyQ.slices_SortFunc Tryd.sortEn 4 Tryd.isAgg28 Tryd.sizeOf28 En.cells (fun _ => rfl) (fun x v hv => by simp [En.cells] at hv; rcases hv with rfl | rfl | rfl | rfl <;> rfl) cmpE cmpE_swo 44 #[] g 0 cap L.toArray w eg hcmp hH hgs (by simp; omega)
      change Calls Tryd.prog 43 _ _ _ at hcon
      rw [List.size_toArray] at hcon
      refine hcon.mono ?_
      rintro e w' ⟨rfl, d', n, os, hp, hs, rfl⟩
      have hsz : d'.size = L.length := by have := hp.1; simpa using this
      have hperm : d'.toList.Perm L := by
        have h := hp.2.2
        have e1 : d'.extract 0 L.length = d' := by rw [← hsz]; exact Array.extract_size
        have e2 : L.toArray.extract 0 L.length = L.toArray := by
          have h2 := Array.extract_size (xs := L.toArray)
          rwa [List.size_toArray] at h2
        rw [e1, e2] at h
        exact h
      have hsort : d'.toList.Pairwise fun x y => ltS y.key x.key = false := by
        rw [List.pairwise_iff_getElem]
        intro i j hi hj hij
        have hi' : i < d'.size := by simpa using hi
        have hj' : j < d'.size := by simpa using hj
        have h := hs i j (Nat.zero_le _) hij (by omega)
        rw [cmpE_lt, getElem!_pos d' j hj', getElem!_pos d' i hi'] at h
        simpa using h
      refine ⟨rfl, d'.toList, ?_, hperm, hsort, ?_⟩
      · have hfl : flatK En.cells 4 d' = (enl d'.toList).toArray := by
          have h := enl_flat (D := d'.toList)
          rwa [Array.toArray_toList] at h
        unfold sortWorldK putRowK
        rw [hfl]
        have hdl : d'.toList.length = L.length := by simpa using hsz
        have hel : (enl d'.toList).length = L.length * 4 := by rw [enl_length, hdl]
        unfold OwnN
        rw [hdl]
        refine ⟨hel, .inr ⟨g, cap, _, rfl, hb, heap_sortedE _ hg, h1, h2, by simp [Go.Sort.putCells, h3], ?_⟩⟩
        rw [← hel]
        exact take_putCellsE cur _ (by rw [hel, h3]; omega)
      · unfold sortWorldK putRowK
        exact grownBy_sortedE _
end Go.Proofs.YtepfblabdibggabDoor
