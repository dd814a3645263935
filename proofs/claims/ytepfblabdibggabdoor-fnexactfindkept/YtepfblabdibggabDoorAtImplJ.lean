/- Texts that stand in one: AtImpl, FindImpl. -/
import Derived.Test.YtepfblabdibggabDoorFilesLaw
import Derived.Test.YtepfblabdibggabDoorDiskPlainJ
import Derived.Test.YtepfblabdibggabDoorShelf
import Derived.Test.YtepfblabdibggabDoorLastImpl
import Derived.Test.YtepfblabdibggabDoorSortEn
import Derived.Test.YtepfblabdibggabDoorEntActsJ
import Derived.Test.YtepfblabdibggabDoorUnframeImpl
import Derived.Test.YtepfblabdibggabDoorDiskImpl
import Derived.Test.YtepfblabdibggabDoorLawKitJ
namespace Go.Proofs.YtepfblabdibggabDoor
open Go.RowKit Go.Sort

theorem clone_any (s : ByteArray) (w : World) (h : s.size ≤ 1048576) :
    Calls Tryd.prog 67 #[.string s] w fun e w' => e = .returned (.string s) ∧ Below w.heap.size w w' := by
  go_enter Tryd.func67, Tryd.ntmps67
  go_wp2_with fail
  refine (Tryd.stringslite_Clone s w (by omega)).mono ?_
  rintro e w1 ⟨rfl, hb⟩
  go_wp2
  go_ret
  exact ⟨rfl, hb⟩

set_option maxHeartbeats 1000000 in
theorem implFileAt_any (w : World) (a : Option Addr) (cap : Nat) (L : List Fil) (nm : ByteArray) (hL : FAt w a L w.heap.size) (hm : L.length + wgt L ≤ 1048576) :
    Calls Tryd.prog 40 #[.agg #[.slice a L.length cap], .string nm] w fun e w' => e = .returned (.tuple #[.string (fileAt L nm).1, .bool (fileAt L nm).2]) ∧ Below w.heap.size w w' := by
  have hb0 := (Below.refl w.heap.size w).alloc (Nat.le_refl _) (.cells #[.slice a L.length cap] 41)
  go_enter Tryd.func40, Tryd.ntmps40
  go_wp2
  go_loopw [11] (fun i wr => Box (∃ (k : Nat), k ≤ L.length ∧ i = .int .i64 k ∧ NoneTo L nm k ∧ Below w.heap.size w wr))
    (fun i _ => L.length - (intOf i).toNat)
  case atStart => exact ⟨⟨0, by omega, rfl, NoneTo.zero _ _, hb0⟩⟩
  case round =>
    obtain ⟨k, hk, rfl, hno, hbel⟩ := hrel.out
    by_cases hlt : k < L.length
    · obtain ⟨g, off, rfl, hg, hc0, hc1, hc2⟩ := (hL.below hbel (Nat.le_refl _)) k hlt
      have hw := wgt_mem hlt
      obtain ⟨f, hf⟩ : ∃ f, L[k] = f := ⟨_, rfl⟩
      rw [hf] at hc0 hc1 hc2 hw
      have hi1 : (0 : Int) ≤ (k : Int) := by omega
      have hi2 : (k : Int) < (L.length : Int) := by omega
      have HF : Hid (L[k] = f) := hf
      have HN : Hid (NoneTo L nm k) := hno
      have hbx : Below w.heap.size w (wr.alloc (.cells #[.string f.nm, .string f.tx, .int .i64 f.kp] 90)) := hbel.alloc hbel.size _
      have cC := clone_any f.tx (wr.alloc (.cells #[.string f.nm, .string f.tx, .int .i64 f.kp] 90)) (by omega)
      clear hrel hL hno hf hw
      cases he : (f.nm.toList == nm.toList) with
      | true =>
        have hp : Hid (fileAt L nm = (f.tx, true)) := fileAt_some HN.out hlt HF.out he
        go_wp2_with fail
        refine cC.mono ?_
        rintro e w1 ⟨rfl, hb1⟩
        go_wp2
        go_ret2
        exact ⟨by rw [hp.out]; rfl, hbx.trans (hb1.mono hbx.size)⟩
      | false =>
        go_wp2
        go_roundw
        case rel =>
          try ((repeat apply Exists.intro); refine ⟨?_, rfl⟩)
          exact ⟨⟨k + 1, by omega, by go_num, HN.out.succ hlt HF.out he, hbx⟩⟩
        case measure => simp [intOf]; omega
    · go_wp2
      go_ret2
      have hke : k = L.length := by omega
      subst hke
      exact ⟨by rw [fileAt_none hno]; rfl, hbel⟩
end Go.Proofs.YtepfblabdibggabDoor

namespace Go.Proofs.YtepfblabdibggabDoor
open Go.RowKit
set_option maxRecDepth 100000 in
set_option maxHeartbeats 8000000 in
theorem implFindKept_any (w : World) (a : Option Addr) (c : Nat) (L : List Fil) (hL : FAt w a L w.heap.size) (hm : L.length + wgt L ≤ 1048576) (ht : Tab w) :
    Calls Tryd.prog 16 #[.agg #[.slice a L.length c]] w fun e w' => ∃ v, e = .returned v ∧ OwnN w' w.heap.size 28 v (keptE L) ∧ Below w.heap.size w w' := by
  obtain ⟨A, hA⟩ : ∃ A, w.heap.size = A := ⟨_, rfl⟩
  obtain ⟨wb, hwb⟩ : ∃ wb, w.alloc (.cells #[.slice a L.length c] 41) = wb := ⟨_, rfl⟩
  have hb : Below A w wb := by rw [← hwb, ← hA]; exact (Below.refl _ _).alloc (Nat.le_refl _) _
  have hbs : A < wb.heap.size := by rw [← hwb, ← hA]; simp
  have hbox : wb.cell? ⟨A, 0, none⟩ = some (.slice a L.length c) := by rw [← hwb, ← hA]; simp
  have HD : Hid (∀ wi, Below wb.heap.size wb wi → wi.cell? ⟨A, 0, none⟩ = some (.slice a L.length c) ∧ FAt wi a L wi.heap.size ∧ Below A w wi ∧ A ≤ wi.heap.size ∧ Tab wi) := by
    intro wi hi
    have hw : Below A w wi := hb.trans (hi.mono (by omega))
    exact ⟨(hi.cell hbs).trans hbox, FAt.on (FAt.on hL (by rw [hA]; exact hb)) hi, hw, by have := hi.size; omega, ht.below (by rw [hA]; exact hw) (Nat.le_refl _)⟩
  have HB0 : Hid (Below wb.heap.size wb wb) := Below.refl _ _
  have c0 := implDiskOk_any wb a c L (HD.out wb HB0.out).2.1 (by omega)
  have HTX : Hid ((fileAt L nKept).1.size ≤ 1048576) := by
    show _ ≤ _
    unfold fileAt
    cases hf : L.find? (fun f => eqS f.nm nKept) with
    | none => exact Nat.zero_le _
    | some f =>
      obtain ⟨j, hj, rfl⟩ := List.getElem_of_mem (List.mem_of_find?_eq_some hf)
      have := wgt_mem hj
      show L[j].tx.size ≤ 1048576
      omega
  have b0 := hbox
  have hAw : A ≤ wb.heap.size := Nat.le_of_lt hbs
  rw [hA]
  clear hb hbs hbox hL ht
  cases hd : dOk L
  case false =>
    rw [show keptE L = [] by unfold keptE; rw [hd]; rfl]
    rw [hd] at c0
    go_enter Tryd.func16, Tryd.ntmps16
    go_wp2_with fail
    refine c0.mono ?_
    rintro e w1 ⟨rfl, hb1⟩
    have HB1 : Hid (Below wb.heap.size wb w1) := HB0.out.trans (hb1.mono HB0.out.size)
    clear c0 hb1 HB0
    go_wp2_with fail
    go_ret
    exact ⟨.slice none 0 0, rfl, World.ownsRow_nil _ _ _ _, (HD.out w1 HB1.out).2.2.1⟩
  case true =>
    have HK : Hid (keptE L = findE (entsOf (ufL (fileAt L nKept).1))) := by show _ = _; unfold keptE; rw [hd]; rfl
    rw [HK.out]
    rw [hd] at c0
    clear hd
    have c2 := fun wi hi => implFileAt_any wi a c L nKept (HD.out wi hi).2.1 hm
    have hul := ufL_le (fileAt L nKept).1
    obtain ⟨tx, htx⟩ : ∃ x, (fileAt L nKept).1 = x := ⟨_, rfl⟩
    obtain ⟨th, hth⟩ : ∃ x, (fileAt L nKept).2 = x := ⟨_, rfl⟩
    have htxs : tx.size ≤ 1048576 := by rw [← htx]; exact HTX.out
    simp only [htx, hth] at c2
    rw [htx] at hul ⊢
    have C3 : Hid (∀ wi, Below wb.heap.size wb wi → Calls Tryd.prog 41 #[.string tx] wi fun e w' => ∃ v, e = .returned (.tuple #[v, .int .i64 (ufE tx : Nat)]) ∧ OwnV w' wi.heap.size 9 v (strs (ufL tx)) ∧ Below wi.heap.size wi w') := fun wi hi => implUnframe_any tx wi htxs (HD.out wi hi).2.2.2.2
    have HUS : Hid (∀ x ∈ ufL tx, x.size ≤ 1048576) := ufL_sizes htxs
    clear htx hth HK HTX htxs
    generalize ufE tx = ue at C3
    generalize ufL tx = U at C3 hul HUS ⊢
    unfold nKept at c2
    go_enter Tryd.func16, Tryd.ntmps16
    go_wp2_with fail
    refine c0.mono ?_
    rintro e w1 ⟨rfl, hb1⟩
    have HB1 : Hid (Below wb.heap.size wb w1) := HB0.out.trans (hb1.mono HB0.out.size)
    have b0 := (HD.out w1 HB1.out).1
    clear c0 hb1 HB0
    go_wp2_with fail
    refine (c2 w1 HB1.out).mono ?_
    rintro e w2 ⟨rfl, hb2⟩
    have HB2 : Hid (Below wb.heap.size wb w2) := HB1.out.trans (hb2.mono HB1.out.size)
    clear c2 hb2 HB1 b0
    go_wp2_with fail
    refine (C3.out _ HB2.out).mono ?_
    rintro e w3 ⟨vU, rfl, hoU, hb3⟩
    obtain ⟨aU, cU, hvU, hAU⟩ := hoU.strsAt
    subst hvU
    have HB3 : Hid (Below wb.heap.size wb w3) := HB2.out.trans (hb3.mono HB2.out.size)
    have c4 := lastOfEach_any w3 aU cU U hAU (by omega) HUS.out
    clear hb3 HB2 hoU hAU C3
    go_wp2_with fail
    refine c4.mono ?_
    rintro e w4 ⟨v4, rfl, ho4, hb4⟩
    have HB4 : Hid (Below wb.heap.size wb w4 ∧ wb.heap.size ≤ w3.heap.size) := ⟨HB3.out.trans (hb4.mono HB3.out.size), HB3.out.size⟩
    have hfl : (lastE (entsOf U)).length ≤ 100000 := by
      have h1 := lastE_len (entsOf U)
      have h2 := ents_len U
      omega
    have c5 := sortE_any w4 w3.heap.size v4 (lastE (entsOf U)) ho4 hfl
    have HO4 : Hid (∀ k, v4.ownBlock = some k → w3.heap.size ≤ k) := fun k hk => (ho4.lt k hk).1
    clear hb4 ho4 c4 HB3 hfl
    go_wp2_with fail
    refine c5.mono ?_
    rintro e w5 ⟨rfl, D, hoD, hp, hs, hg5⟩
    have HB5 : Hid (Below wb.heap.size wb w5) := Below.grown HB4.out.1 hg5 HB4.out.1.size (fun k hk => Nat.le_trans HB4.out.2 (HO4.out k hk))
    have hDf : D = findE (entsOf U) := sorted_find hp hs
    subst hDf
    have HO5 : Hid (OwnN w5 A 28 v4 (findE (entsOf U))) := hoD.mono (Nat.le_trans hAw HB4.out.2)
    clear c5 hoD hp hs hg5
    go_wp2_with fail
    go_ret
    exact ⟨v4, rfl, HO5.out, (HD.out w5 HB5.out).2.2.1⟩
end Go.Proofs.YtepfblabdibggabDoor
