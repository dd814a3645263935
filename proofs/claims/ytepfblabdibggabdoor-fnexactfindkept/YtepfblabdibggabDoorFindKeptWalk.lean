/- Exact FindKept, walked. -/
import Derived.Test.YtepfblabdibggabDoorFindSpec
import Derived.Test.YtepfblabdibggabDoorAtImplJ
import Derived.Test.YtepfblabdibggabDoorEnsMark
import Derived.Test.YtepfblabdibggabDoorMarkFiles
import Derived.Test.YtepfblabdibggabDoorBoxes
import Derived.Deep.RegionHeld3
namespace Go.Proofs.YtepfblabdibggabDoor
open Go.RowKit Go.Sort

/-- What the law holds: the disk handed over in its variable, the two answers. -/
structure Fnd (X : Nat) (vx v0 vg : Value) (L : List Fil) (Z Y : List En) (wi : World) : Prop where
  cx : DBox wi X vx
  ox : ∃ L', L'.length = L.length ∧ OwnF wi 0 90 vx L'
  o0 : OwnN wi 0 28 v0 Z
  og : OwnN wi 0 28 vg Y
theorem Fnd.next {X : Nat} {vx v0 vg : Value} {L : List Fil} {Z Y : List En} {wi wj : World} (h : Fnd X vx v0 vg L Z Y wi) (hb : Below wi.heap.size wi wj) : Fnd X vx v0 vg L Z Y wj :=
  ⟨h.cx.on hb, ⟨h.ox.choose, h.ox.choose_spec.1, h.ox.choose_spec.2.below hb (Nat.le_refl _)⟩, h.o0.below hb (Nat.le_refl _), h.og.below hb (Nat.le_refl _)⟩
set_option maxRecDepth 100000 in
set_option maxHeartbeats 8000000 in
theorem findKept_walk (a : Option Addr) (cap : Nat) (L : List Fil) (w : World) (hL : FAt w a L w.heap.size) (hs : Sized L) (hm : L.length ≤ maxLen) (ht : Tab w) :
    Calls Tryd.prog 4 #[.agg #[.slice a L.length cap]] w fun e w' => e = .returned (.bool true) ∧ Below w.heap.size w w' := by
  obtain ⟨wb, hwb⟩ : ∃ wb, w.alloc (.cells #[.slice a L.length cap] 35) = wb := ⟨_, rfl⟩
  have hb : Below w.heap.size w wb := by rw [← hwb]; exact (Below.refl _ _).alloc (Nat.le_refl _) _
  have hbs : w.heap.size < wb.heap.size := by rw [← hwb]; simp
  have hbox : wb.cell? ⟨w.heap.size, 0, none⟩ = some (.slice a L.length cap) := by rw [← hwb]; simp
  have hLb : FAt wb a L wb.heap.size := FAt.on hL hb
  have HB : Hid (∀ wi, Below wb.heap.size wb wi → wi.cell? ⟨w.heap.size, 0, none⟩ = some (.slice a L.length cap) ∧ FAt wi a L wi.heap.size ∧ Below w.heap.size w wi) := fun wi hi => ⟨(hi.cell hbs).trans hbox, FAt.on hLb hi, bthen hb hi⟩
  have HT : Hid (∀ wi, Below wb.heap.size wb wi → Tab wi) := fun wi hi => (ht.below hb (Nat.le_refl _)).below hi (Nat.le_refl _)
  have c0 := szDisk_any wb a cap L 1048576 (by omega) (by omega) hLb hs hm
  have HW : Hid (w.alloc (.cells #[.slice a L.length cap] 35) = wb) := hwb
  clear hL hs hb hwb hLb ht
  go_enter Tryd.func4, Tryd.ntmps4
  go_wp2_with fail
  rw [HW.out]
  refine c0.mono ?_
  rintro e w1 ⟨r, rfl, hr, hb1⟩
  obtain ⟨q1, hL1, hw1⟩ := HB.out w1 hb1
  clear c0
  rcases hr with rfl | ⟨hr0, hr1⟩
  · go_wp2
    go_ret
    exact ⟨rfl, hw1⟩
  have hlen : L.length ≤ 1048576 := by omega
  have hlw : L.length + wgt L ≤ 1048576 := by omega
  have hz : ∀ j (hj : j < L.length), L[j].tx.size ≤ 1048576 := fun j hj => by have := wgt_mem hj; omega
  clear hr1
  have hMl := keptE_len L
  obtain ⟨Z, hZ⟩ : ∃ Z, keptE L = Z := ⟨_, rfl⟩
  have CS : Hid (∀ (wi : World) (x : Option Addr) (cx : Nat), FAt wi x L wi.heap.size → Calls Tryd.prog 14 #[.agg #[.slice x L.length cx]] wi fun e w' => ∃ v, e = .returned v ∧ OwnN w' wi.heap.size 28 v Z ∧ Below wi.heap.size wi w') := by
    intro wi x cx h1
    rw [← hZ]
    exact specFindKept_any wi x cx L h1 hlen hz
  have CI : Hid (∀ (wi : World) (x : Option Addr) (cx : Nat), Below wb.heap.size wb wi → FAt wi x L wi.heap.size → Calls Tryd.prog 16 #[.agg #[.slice x L.length cx]] wi fun e w' => ∃ v, e = .returned v ∧ OwnN w' wi.heap.size 28 v Z ∧ Below wi.heap.size wi w') := by
    intro wi x cx h0 h1
    rw [← hZ]
    exact implFindKept_any wi x cx L h1 hlw (HT.out wi h0)
  rw [hZ] at hMl
  clear hZ hz HT
  go_wp2_with fail
  refine (toDisk_any w1 a cap L hL1 hlen).mono ?_
  rintro e w2 ⟨v2, rfl, ho2, hb2⟩
  have hB2 := bthen hb1 hb2
  obtain ⟨a2, cap2, rfl, hA2⟩ := ho2.at
  clear q1 hL1 hw1
  go_wp2_with fail
  refine (CS.out w2 a2 cap2 hA2).mono ?_
  rintro e w4 ⟨v4, rfl, ho4, hb4⟩
  have hB4 := bthen hB2 hb4
  obtain ⟨q4, hL4, _⟩ := HB.out w4 hB4
  clear ho2 hA2
  go_wp2_with fail
  refine (toDisk_any w4 a cap L hL4 hlen).mono ?_
  rintro e w6 ⟨v6, rfl, ho6, hb6⟩
  obtain ⟨a6, cap6, rfl, hA6⟩ := ho6.at
  have hB6 := bthen hB4 hb6
  obtain ⟨w7, hw7⟩ : ∃ w7, w6.alloc (.cells #[.slice a6 L.length cap6] 41) = w7 := ⟨_, rfl⟩
  have hb7 : Below w6.heap.size w6 w7 := by rw [← hw7]; exact bplus (Below.refl _ _) _
  have hxx : DBox w7 w6.heap.size (.slice a6 L.length cap6) := by rw [← hw7]; exact DBox.new _ _
  have hs7 : w6.heap.size < w7.heap.size := by rw [← hw7]; simp
  have HW7 : Hid (w6.alloc (.cells #[.slice a6 L.length cap6] 41) = w7) := hw7
  clear hw7
  have hB7 := bthen hB6 hb7
  clear q4 hL4
  go_wp2_with fail
  rw [HW7.out]
  refine (CI.out w7 a6 cap6 hB7 (FAt.on hA6 hb7)).mono ?_
  rintro e w9 ⟨v9, rfl, ho9, hb9⟩
  have hB9 := bthen hB7 hb9
  have h4to9 : Below w4.heap.size w4 w9 := bthen (bthen hb6 hb7) hb9
  have hox9 : OwnF w9 0 90 (.slice a6 L.length cap6) L := ((ho6.below hb7 (Nat.le_refl _)).below hb9 (Nat.le_refl _)).mono (Nat.zero_le _)
  have H9' : Hid (Fnd w6.heap.size (.slice a6 L.length cap6) v4 v9 L Z Z w9 ∧ OwnF w9 0 90 (.slice a6 L.length cap6) L) :=
    ⟨⟨hxx.on hb9, ⟨L, rfl, hox9⟩, (ho4.below h4to9 (Nat.le_refl _)).mono (Nat.zero_le _), ho9.mono (Nat.zero_le _)⟩, hox9⟩
  have HX : Hid (∀ k, (Value.slice a6 L.length cap6).ownBlock = some k → w4.heap.size ≤ k ∧ k < w6.heap.size) := fun k hk => ho6.lt k hk
  have HG : Hid (∀ k, v9.ownBlock = some k → w7.heap.size ≤ k ∧ k < w9.heap.size) := fun k hk => ho9.lt k hk
  have H0 : Hid (∀ k, v4.ownBlock = some k → w2.heap.size ≤ k ∧ k < w4.heap.size) := fun k hk => ho4.lt k hk
  have ES : Hid (wb.heap.size ≤ w2.heap.size ∧ w2.heap.size ≤ w4.heap.size ∧ w4.heap.size ≤ w6.heap.size ∧ w6.heap.size < w7.heap.size ∧ w7.heap.size ≤ w9.heap.size) := ⟨hB2.size, hb4.size, hb6.size, hs7, hb9.size⟩
  have HBB : Hid (Below wb.heap.size wb w9) := hB9
  obtain ⟨X, hX⟩ : ∃ X, w6.heap.size = X := ⟨_, rfl⟩
  clear hxx hs7 ho4 ho6 ho9 hA6 hb2 hb4 hb6 hb7 hb9 h4to9 hB2 hB4 hB6 hB7 hB9 hox9
  rw [hX] at H9' ES HX ⊢
  clear hX
  obtain ⟨a4, c4, hv4, hA4⟩ := H9'.out.1.o0.at
  obtain ⟨a9, c9, hv9, hA9⟩ := H9'.out.1.og.at
  subst hv4 hv9
  have e10 := eqEntryS_same w9 a9 a4 c9 c4 Z hA9 hA4 (by omega)
  clear hA4 hA9
  go_wp2_with fail
  refine e10.mono ?_
  rintro e w11 ⟨rfl, hb11⟩
  have HB11 : Hid (Below wb.heap.size wb w11) := bthen HBB.out hb11
  have H11 : Hid (Fnd X (.slice a6 L.length cap6) (.slice a4 Z.length c4) (.slice a9 Z.length c9) L Z Z w11 ∧ OwnF w11 0 90 (.slice a6 L.length cap6) L) := ⟨H9'.out.1.next hb11, H9'.out.2.below hb11 (Nat.le_refl _)⟩
  obtain ⟨q11, hL11, hw11⟩ := HB.out w11 HB11.out
  have c11 := H11.out.1.cx.cell
  have hx11 := H11.out.2
  have hS0 : Below w11.heap.size w11 w11.drew ∧ w11.drew.cell? ⟨X, 0, none⟩ = some (.slice a6 L.length cap6) ∧ w11.drew.cell? ⟨w.heap.size, 0, none⟩ = some (.slice a L.length cap) := ⟨⟨rfl, rfl, rfl, Nat.le_refl _, fun _ _ => rfl⟩, c11, q11⟩
  have hp1 : X < w11.heap.size := H11.out.1.cx.lt
  have hp2 : w.heap.size < w11.heap.size := World.block_lt_of_cell? w11 _ q11
  clear e10 hb11 H9' HBB
  go_wp2_with fail
  go_region_held3 (fun w' => Below w11.heap.size w11 w' ∧ w'.cell? ⟨X, 0, none⟩ = some (.slice a6 L.length cap6) ∧ w'.cell? ⟨w.heap.size, 0, none⟩ = some (.slice a L.length cap)) (first | exact hS0 | (refine kept2 (by assumption) hp1 hp2 ?_; assumption))
    (first
      | (go_at_call 15; refine (toDisk_any _ a cap L (FAt.on hL11 (And.left (by assumption))) hlen).mono ?_; rintro e w12 ⟨v12, rfl, ho12, hb12⟩; obtain ⟨a12, cap12, rfl, hA12⟩ := ho12.at)
      | (go_at_call 18; refine (eqDisk_same _ _ _ _ _ L (hx11.below (And.left (by assumption)) (Nat.le_refl _)) ho12 hlen).mono ?_; rintro e w13 ⟨rfl, hb13⟩))
  have h11to13 : Below w11.heap.size w11 w13 := And.left (by assumption)
  have HB15 : Hid (Below wb.heap.size wb w13) := bthen HB11.out h11to13
  have H15 : Hid (Fnd X (.slice a6 L.length cap6) (.slice a4 Z.length c4) (.slice a9 Z.length c9) L Z Z w13 ∧ OwnF w13 0 90 (.slice a6 L.length cap6) L) := ⟨H11.out.1.next h11to13, H11.out.2.below h11to13 (Nat.le_refl _)⟩
  have c15 := H15.out.1.cx.cell
  clear q11 hL11 hw11 c11 hS0 hp1 hp2 H11 hx11 ho12 hA12 HB11
  go_wp2_with fail
  refine (markDisk_any w13 0 _ L 1 H15.out.2 hlen (by omega) (by omega)).mono ?_
  rintro e w16 ⟨he16, ho16, hg16⟩
  obtain ⟨k16, hk16⟩ : ∃ k16 : Nat, 1 + 3 * L.length = k16 := ⟨_, rfl⟩
  rw [hk16] at he16
  subst he16
  have hd17 : decide ((k16 : Int) < 0) = false := decide_eq_false (by omega)
  have HB17 : Hid (Below wb.heap.size wb w16) := Below.grown HB15.out hg16 HB15.out.size (fun k hk => by have := HX.out k hk; have := ES.out; omega)
  have H17 : Hid (Fnd X (.slice a6 L.length cap6) (.slice a4 Z.length c4) (.slice a9 Z.length c9) L Z Z w16) :=
    ⟨H15.out.1.cx.grown hg16 (fun k hk => by have := HX.out k hk; have := ES.out; omega),
     ⟨_, mfl_length 1 L.length, ho16⟩,
     H15.out.1.o0.grown hg16 (fun k hk he => by have h1 := HX.out k he; have h2 := H0.out k hk; have h3 := ES.out; omega),
     H15.out.1.og.grown hg16 (fun k hk he => by have h1 := HX.out k he; have h2 := HG.out k hk; have h3 := ES.out; omega)⟩
  obtain ⟨a4', c4', hv4, hA4⟩ := H17.out.o0.at
  obtain ⟨a9', c9', hv9, hA9⟩ := H17.out.og.at
  simp only [Value.slice.injEq, true_and] at hv4 hv9
  obtain ⟨rfl, rfl⟩ := hv4
  obtain ⟨rfl, rfl⟩ := hv9
  have e18 := eqEntryS_same w16 a9 a4 c9 c4 Z hA9 hA4 (by omega)
  clear hA4 hA9 hk16 c15 H15 HB15 hg16 ho16
  go_wp2_with fail
  refine e18.mono ?_
  rintro e w18 ⟨rfl, hb18⟩
  have HB18 : Hid (Below wb.heap.size wb w18) := bthen HB17.out hb18
  have H18 : Hid (Fnd X (.slice a6 L.length cap6) (.slice a4 Z.length c4) (.slice a9 Z.length c9) L Z Z w18) := H17.out.next hb18
  obtain ⟨q, hq⟩ : ∃ q, 1 + 4 * Z.length = q := ⟨_, rfl⟩
  have HQ : Hid (1 + 4 * Z.length = q) := hq
  clear hq e18 hb18 H17 HB17
  have hq1 : ¬ ((q : Int) < 0) := by omega
  have hq2 : ((q : Int) != (q : Int)) = false := by simp
  have c19 := markEntryS_any w18 _ _ Z 1 H18.out.og (by omega) (by omega) (by omega)
  rw [HQ.out] at c19
  go_wp2_with fail
  refine c19.mono ?_
  rintro e w19 ⟨rfl, ho19, hg19⟩
  have HB19 : Hid (Below wb.heap.size wb w19) := Below.grown HB18.out hg19 HB18.out.size (fun k hk => by have := HG.out k hk; have := ES.out; omega)
  have H19 : Hid (OwnN w19 0 28 (.slice a4 Z.length c4) Z ∧ OwnN w19 0 28 (.slice a9 Z.length c9) (mEnl 1 Z.length)) :=
    ⟨H18.out.o0.grown hg19 (fun k hk he => by have h1 := HG.out k he; have h2 := H0.out k hk; have h3 := ES.out; omega), ho19⟩
  clear c19 hg19 ho19 H18 HB18
  have c20 := heldEntryS_any w19 _ _ Z.length 1 H19.out.2 (by omega) (by omega) (by omega)
  rw [HQ.out] at c20
  go_wp2_with fail
  refine c20.mono ?_
  rintro e w20 ⟨rfl, hb20⟩
  have HB20 : Hid (Below wb.heap.size wb w20) := bthen HB19.out hb20
  have H20 : Hid (OwnN w20 0 28 (.slice a4 Z.length c4) Z ∧ OwnN w20 0 28 (.slice a9 Z.length c9) (mEnl 1 Z.length)) := ⟨H19.out.1.below hb20 (Nat.le_refl _), H19.out.2.below hb20 (Nat.le_refl _)⟩
  obtain ⟨q20, hL20, _⟩ := HB.out w20 HB20.out
  clear c20 hb20 H19 HB19
  go_wp2_with fail
  refine (toDisk_any w20 a cap L hL20 hlen).mono ?_
  rintro e w21 ⟨v21, rfl, ho21, hb21⟩
  obtain ⟨a21, cap21, rfl, hA21⟩ := ho21.at
  have hB21 := bthen HB20.out hb21
  clear q20 hL20
  go_wp2_with fail
  refine (CI.out w21 a21 cap21 hB21 hA21).mono ?_
  rintro e w23 ⟨v23, rfl, ho23, hb23⟩
  obtain ⟨a23, c23, rfl, hA23⟩ := ho23.at
  have HB23 : Hid (Below wb.heap.size wb w23) := bthen hB21 hb23
  have hb2023 : Below w20.heap.size w20 w23 := bthen hb21 hb23
  have H23 : Hid (OwnN w23 0 28 (.slice a4 Z.length c4) Z ∧ OwnN w23 0 28 (.slice a9 Z.length c9) (mEnl 1 Z.length)) := ⟨H20.out.1.below hb2023 (Nat.le_refl _), H20.out.2.below hb2023 (Nat.le_refl _)⟩
  obtain ⟨a4', c4', hv4, hA4⟩ := H23.out.1.at
  simp only [Value.slice.injEq, true_and] at hv4
  obtain ⟨rfl, rfl⟩ := hv4
  have e24 := eqEntryS_same w23 a23 a4 c23 c4 Z hA23 hA4 (by omega)
  clear hA4 hA23 ho21 ho23 hA21 hb21 hb23 hb2023 hB21 H20 HB20
  go_wp2_with fail
  refine e24.mono ?_
  rintro e w24 ⟨rfl, hb24⟩
  have HB24 : Hid (Below wb.heap.size wb w24) := bthen HB23.out hb24
  have H24 : Hid (OwnN w24 0 28 (.slice a9 Z.length c9) (mEnl 1 Z.length)) := H23.out.2.below hb24 (Nat.le_refl _)
  clear e24 hb24 H23 HB23
  have c25 := heldEntryS_any w24 _ _ Z.length 1 H24.out (by omega) (by omega) (by omega)
  rw [HQ.out] at c25
  go_wp2_with fail
  refine c25.mono ?_
  rintro e w25 ⟨rfl, hb25⟩
  have HB25 : Hid (Below wb.heap.size wb w25) := bthen HB24.out hb25
  clear c25 hb25
  go_wp2_with fail
  go_ret
  exact ⟨rfl, (HB.out w25 HB25.out).2.2⟩
end Go.Proofs.YtepfblabdibggabDoor
