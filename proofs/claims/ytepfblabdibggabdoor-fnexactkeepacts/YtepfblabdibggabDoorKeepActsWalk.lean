/- Exact KeepActs, walked. -/
import Derived.Test.YtepfblabdibggabDoorKeepActsImpl
import Derived.Test.YtepfblabdibggabDoorKeepActsSpec
import Derived.Test.YtepfblabdibggabDoorActsHeld
namespace Go.Proofs.YtepfblabdibggabDoor
open Go.RowKit Go.Sort
theorem OwnA.apart {w1 w2 : World} {b1 : Nat} {e1 e2 : TypeId} {v1 v2 : Value} {xs ys : List Ac} (h1 : OwnA w1 b1 e1 v1 xs) (h2 : OwnA w2 w1.heap.size e2 v2 ys) : ∀ k, v1.ownBlock = some k → v2.ownBlock ≠ some k := fun k hk he => by
  have := (h1.lt k hk).2
  have := (h2.lt k he).1
  omega
set_option maxRecDepth 100000 in
set_option maxHeartbeats 8000000 in
theorem keepActs_walk (E : En) (w : World) (hS : E.Sized) (ht : Tab w) :
    Calls Tryd.prog 3 #[.agg #[.string E.key, .int .i64 E.st, .int .i64 E.lf, .string E.bd]] w fun e w' => e = .returned (.bool true) ∧ Below w.heap.size w w' := by
  obtain ⟨⟨hn, hb⟩, _, _⟩ := hS
  obtain ⟨A, hA⟩ : ∃ A, w.heap.size = A := ⟨_, rfl⟩
  obtain ⟨wb, hwb⟩ : ∃ wb, w.alloc (.cells #[.string E.key, .int .i64 E.st, .int .i64 E.lf, .string E.bd] 23) = wb := ⟨_, rfl⟩
  have hbb : Below w.heap.size w wb := by rw [← hwb]; exact (Below.refl _ _).alloc (Nat.le_refl _) _
  have hx : EnB wb A 23 E := by rw [← hwb, ← hA]; exact EnB.new w _ E
  have HX : Hid (∀ wi : World, Below wb.heap.size wb wi → wi.cell? ⟨A, 0, none⟩ = some (.string E.key) ∧ wi.cell? ⟨A, 1, none⟩ = some (.int .i64 E.st) ∧ wi.cell? ⟨A, 2, none⟩ = some (.int .i64 E.lf) ∧ wi.cell? ⟨A, 3, none⟩ = some (.string E.bd)) := fun wi hi => (hx.on hi).cells
  have HB : Hid (Below A w wb ∧ A ≤ wb.heap.size) := ⟨by rw [← hA]; exact hbb, Nat.le_of_lt hx.lt⟩
  have HW : Hid (Below wb.heap.size wb wb) := Below.refl _ _
  have HT : Hid (∀ wi, Below wb.heap.size wb wi → Tab wi) := fun wi hi => (ht.below hbb (Nat.le_refl _)).below hi (Nat.le_refl _)
  have c0 := szEntry_any wb E.key E.bd E.st E.lf 1048576 (by omega) (by omega) hn hb
  obtain ⟨b0, b1, b2, b3⟩ := HX.out wb HW.out
  clear hbb hx hn hb ht
  go_enter Tryd.func3, Tryd.ntmps3
  go_wp2_with fail
  refine c0.mono ?_
  rintro e w1 ⟨r, rfl, hr, hb1⟩
  have HW : Hid (Below wb.heap.size wb w1) := HW.out.trans (hb1.mono HW.out.size)
  obtain ⟨b0, b1, b2, b3⟩ := HX.out w1 HW.out
  clear hb1 c0
  rcases hr with rfl | ⟨hr0, hr1⟩
  · go_wp2_with fail
    go_ret
    exact ⟨rfl, by rw [hA]; exact HB.out.1.trans (HW.out.mono HB.out.2)⟩
  have CS : Hid (∀ wi, Calls Tryd.prog 7 #[.agg #[.string E.key, .int .i64 E.st, .int .i64 E.lf, .string E.bd]] wi fun e w' => ∃ v, e = .returned (.tuple #[v, .bool (enOk E)]) ∧ OwnA w' wi.heap.size 57 v (keepL E) ∧ Below wi.heap.size wi w') := fun wi => specKeepActs_any wi E (by omega) (by omega)
  have CI : Hid (∀ wi, Below wb.heap.size wb wi → Calls Tryd.prog 9 #[.agg #[.string E.key, .int .i64 E.st, .int .i64 E.lf, .string E.bd]] wi fun e w' => ∃ v, e = .returned (.tuple #[v, .bool (enOk E)]) ∧ OwnA w' wi.heap.size 57 v (keepL E) ∧ Below wi.heap.size wi w') := fun wi hi => implKeepActs_any wi E (by omega) (by omega) (HT.out wi hi)
  have hlen := keepL_len E
  obtain ⟨L, hL⟩ : ∃ L, keepL E = L := ⟨_, rfl⟩
  obtain ⟨ok, hok⟩ : ∃ ok, enOk E = ok := ⟨_, rfl⟩
  rw [hL] at hlen
  simp only [hL, hok] at CS CI
  have hoo : (ok != ok) = false := by simp
  clear hL hok hr1 HT
  go_wp2_with fail
  refine (toEntry_any _ E.key E.bd E.st E.lf).mono ?_
  rintro e w2 ⟨rfl, hb2⟩
  have HW : Hid (Below wb.heap.size wb w2) := HW.out.trans (hb2.mono HW.out.size)
  clear hb2 b0 b1 b2 b3
  go_wp2_with fail
  refine (CS.out _).mono ?_
  rintro e w3 ⟨v0, rfl, ho0, hb3⟩
  have HW : Hid (Below wb.heap.size wb w3) := HW.out.trans (hb3.mono HW.out.size)
  obtain ⟨b0, b1, b2, b3⟩ := HX.out w3 HW.out
  clear hb3
  go_wp2_with fail
  refine (toEntry_any _ E.key E.bd E.st E.lf).mono ?_
  rintro e w4 ⟨rfl, hb4⟩
  have HW : Hid (Below wb.heap.size wb w4) := HW.out.trans (hb4.mono HW.out.size)
  have HO0 : Hid (OwnA w4 w2.heap.size 57 v0 L) := ho0.below hb4 (Nat.le_refl _)
  clear hb4 ho0 b0 b1 b2 b3
  go_wp2_with fail
  refine (CI.out _ HW.out).mono ?_
  rintro e w5 ⟨v1, rfl, ho1, hb5⟩
  have HB5 : Hid (Below wb.heap.size wb w5 ∧ wb.heap.size ≤ w4.heap.size) := ⟨HW.out.trans (hb5.mono HW.out.size), HW.out.size⟩
  have HAP : Hid (∀ k, v0.ownBlock = some k → v1.ownBlock ≠ some k) := HO0.out.apart ho1
  have HO05 : Hid (OwnA w5 w2.heap.size 57 v0 L) := HO0.out.below hb5 (Nat.le_refl _)
  have HO15 : Hid (OwnA w5 w4.heap.size 57 v1 L) := ho1
  clear hb5 ho1 HO0
  obtain ⟨a0, k0, hv0, hA0⟩ := HO05.out.at
  obtain ⟨a1, k1, hv1, hA1⟩ := HO15.out.at
  subst hv0 hv1
  have c6 := eqActS_same w5 a1 a0 k1 k0 L hA1 hA0 (by omega)
  clear hA0 hA1
  go_wp2_with fail
  refine c6.mono ?_
  rintro e w6 ⟨rfl, hb6⟩
  have HB6 : Hid (Below wb.heap.size wb w6 ∧ wb.heap.size ≤ w4.heap.size) := ⟨HB5.out.1.trans (hb6.mono HB5.out.1.size), HB5.out.2⟩
  have HO06 : Hid (OwnA w6 w2.heap.size 57 (.slice a0 L.length k0) L) := HO05.out.below hb6 (Nat.le_refl _)
  have HO16 : Hid (OwnA w6 w4.heap.size 57 (.slice a1 L.length k1) L) := HO15.out.below hb6 (Nat.le_refl _)
  clear c6 hb6 HO05 HO15 HB5
  obtain ⟨q, hq⟩ : ∃ q, 1 + 4 * L.length = q := ⟨_, rfl⟩
  have HQ : Hid (1 + 4 * L.length = q) := hq
  clear hq
  have hq1 : ¬ ((q : Int) < 0) := by omega
  have hq2 : ((q : Int) != (q : Int)) = false := by simp
  have c7 := markActsM_any w6 _ _ L 1 HO16.out (by omega) (by omega) (by omega)
  rw [HQ.out] at c7
  go_wp2_with fail
  refine c7.mono ?_
  rintro e w7 ⟨rfl, ho7, hgr7⟩
  have HO07 : Hid (OwnA w7 w2.heap.size 57 (.slice a0 L.length k0) L) := HO06.out.grown hgr7 HAP.out
  have HO17 : Hid (OwnA w7 w4.heap.size 57 (.slice a1 L.length k1) (mAcl 1 L.length)) := ho7
  have HB7 : Hid (Below wb.heap.size wb w7) := Below.grown HB6.out.1 hgr7 HB6.out.1.size (fun k hk => Nat.le_trans HB6.out.2 (HO16.out.lt k hk).1)
  clear c7 ho7 hgr7 HO06 HO16 HB6
  have c8 := heldActS_any w7 _ _ L.length 1 HO17.out (by omega) (by omega) (by omega)
  rw [HQ.out] at c8
  go_wp2_with fail
  refine c8.mono ?_
  rintro e w8 ⟨rfl, hb8⟩
  have HO08 : Hid (OwnA w8 w2.heap.size 57 (.slice a0 L.length k0) L) := HO07.out.below hb8 (Nat.le_refl _)
  have HO18 : Hid (OwnA w8 w4.heap.size 57 (.slice a1 L.length k1) (mAcl 1 L.length)) := HO17.out.below hb8 (Nat.le_refl _)
  have HB8 : Hid (Below wb.heap.size wb w8) := HB7.out.trans (hb8.mono HB7.out.size)
  clear c8 hb8 HO07 HO17 HB7
  obtain ⟨b0, b1, b2, b3⟩ := HX.out w8 HB8.out
  go_wp2_with fail
  refine (toEntry_any _ E.key E.bd E.st E.lf).mono ?_
  rintro e w9 ⟨rfl, hb9⟩
  have HB9 : Hid (Below wb.heap.size wb w9) := HB8.out.trans (hb9.mono HB8.out.size)
  have HO09 : Hid (OwnA w9 w2.heap.size 57 (.slice a0 L.length k0) L) := HO08.out.below hb9 (Nat.le_refl _)
  have HO19 : Hid (OwnA w9 w4.heap.size 57 (.slice a1 L.length k1) (mAcl 1 L.length)) := HO18.out.below hb9 (Nat.le_refl _)
  clear hb9 b0 b1 b2 b3 HO08 HO18 HB8
  go_wp2_with fail
  refine (CI.out _ HB9.out).mono ?_
  rintro e w10 ⟨v2, rfl, ho2, hb10⟩
  obtain ⟨a2, k2, hv2, hA2⟩ := ho2.at
  subst hv2
  have HB10 : Hid (Below wb.heap.size wb w10) := HB9.out.trans (hb10.mono HB9.out.size)
  have HO10 : Hid (OwnA w10 w2.heap.size 57 (.slice a0 L.length k0) L) := HO09.out.below hb10 (Nat.le_refl _)
  have HO11 : Hid (OwnA w10 w4.heap.size 57 (.slice a1 L.length k1) (mAcl 1 L.length)) := HO19.out.below hb10 (Nat.le_refl _)
  clear hb10 HO09 HO19 HB9
  obtain ⟨a0', k0', hv0, hA0⟩ := HO10.out.at
  simp only [Value.slice.injEq, true_and] at hv0
  obtain ⟨rfl, rfl⟩ := hv0
  have c11 := eqActS_same w10 a2 a0 k2 k0 L hA2 hA0 (by omega)
  clear hA0 hA2 ho2
  go_wp2_with fail
  refine c11.mono ?_
  rintro e w11 ⟨rfl, hb11⟩
  have HB11 : Hid (Below wb.heap.size wb w11) := HB10.out.trans (hb11.mono HB10.out.size)
  have HO12 : Hid (OwnA w11 w4.heap.size 57 (.slice a1 L.length k1) (mAcl 1 L.length)) := HO11.out.below hb11 (Nat.le_refl _)
  clear c11 hb11 HO10 HO11 HB10
  have c12 := heldActS_any w11 _ _ L.length 1 HO12.out (by omega) (by omega) (by omega)
  rw [HQ.out] at c12
  go_wp2_with fail
  refine c12.mono ?_
  rintro e w12 ⟨rfl, hb12⟩
  have HB12 : Hid (Below wb.heap.size wb w12) := HB11.out.trans (hb12.mono HB11.out.size)
  clear c12 hb12
  go_wp2_with fail
  go_ret
  exact ⟨rfl, by rw [hA]; exact HB.out.1.trans (HB12.out.mono HB.out.2)⟩
end Go.Proofs.YtepfblabdibggabDoor
