/- Exact Storable, walked. -/
import Derived.Test.YtnnaphfeeobelarDoorHeadSize
import Derived.Test.YtnnaphfeeobelarDoorStorableSpec
import Derived.Test.YtnnaphfeeobelarDoorStorableImpl
import Derived.Deep.RegionHeld3
namespace Go.Proofs.YtnnaphfeeobelarDoor
open Go.RowKit Go.Sort
set_option maxRecDepth 100000 in
set_option maxHeartbeats 8000000 in
theorem storable_walk (pa : Option Addr) (pc : Nat) (line : ByteArray) (L : List (ByteArray × ByteArray)) (pa2 : Option Addr) (pc2 : Nat) (line2 : ByteArray) (L2 : List (ByteArray × ByteArray)) (w : World)
    (hE : DAt w pa L w.heap.size) (hS : ∀ j (hj : j < L.length), L[j].1.size ≤ maxLen ∧ L[j].2.size ≤ maxLen) (hm : L.length ≤ maxLen) (hm' : line.size ≤ maxLen)
    (hE2 : DAt w pa2 L2 w.heap.size) (hS2 : ∀ j (hj : j < L2.length), L2[j].1.size ≤ maxLen ∧ L2[j].2.size ≤ maxLen) (hm2 : L2.length ≤ maxLen) (hm2' : line2.size ≤ maxLen) :
    Calls Tryd.prog 4 #[.agg #[.string line, .slice pa L.length pc], .agg #[.string line2, .slice pa2 L2.length pc2]] w fun e w' => e = .returned (.bool true) ∧ Below w.heap.size w w' := by
  obtain ⟨wa, hwa⟩ : ∃ wa, w.alloc (.cells #[.string line, .slice pa L.length pc] 30) = wa := ⟨_, rfl⟩
  obtain ⟨wb, hwb⟩ : ∃ wb, wa.alloc (.cells #[.string line2, .slice pa2 L2.length pc2] 30) = wb := ⟨_, rfl⟩
  obtain ⟨T1, hT1⟩ : ∃ x, w.heap.size = x := ⟨_, rfl⟩
  obtain ⟨T2, hT2⟩ : ∃ x, wa.heap.size = x := ⟨_, rfl⟩
  have ba : Below w.heap.size w wa := by rw [← hwa]; exact (Below.refl _ _).alloc (Nat.le_refl _) _
  have bb : Below wa.heap.size wa wb := by rw [← hwb]; exact (Below.refl _ _).alloc (Nat.le_refl _) _
  have hb : Below w.heap.size w wb := ba.trans (bb.mono ba.size)
  have hK : HBx wb T1 30 (.string line) (.slice pa L.length pc) := by
    have h : HBx wa T1 30 (.string line) (.slice pa L.length pc) := by rw [← hwa, ← hT1]; exact HBx.new _ _ _ _
    exact h.on bb
  have hK2 : HBx wb T2 30 (.string line2) (.slice pa2 L2.length pc2) := by rw [← hwb, ← hT2]; exact HBx.new _ _ _ _
  have hEb : DAt wb pa L wb.heap.size := hE.on hb
  have hEb2 : DAt wb pa2 L2 wb.heap.size := hE2.on hb
  have HB : Hid (∀ wi, Below wb.heap.size wb wi → (wi.cell? ⟨T1, 0, none⟩ = some (.string line) ∧ wi.cell? ⟨T1, 1, none⟩ = some (.slice pa L.length pc)) ∧ (wi.cell? ⟨T2, 0, none⟩ = some (.string line2) ∧ wi.cell? ⟨T2, 1, none⟩ = some (.slice pa2 L2.length pc2)) ∧ DAt wi pa L wi.heap.size ∧ DAt wi pa2 L2 wi.heap.size ∧ Below w.heap.size w wi) :=
    fun wi hi => ⟨(hK.on hi).cells, (hK2.on hi).cells, hEb.on hi, hEb2.on hi, hb.trans (hi.mono hb.size)⟩
  have c0 := szHead_any wb pa pc ⟨line, L⟩ 1048576 (by omega) (by omega) hEb hS hm hm'
  have C1 : Hid (∀ (wi : World) (left : Int), 0 ≤ left → left ≤ 1048576 → Below wb.heap.size wb wi → Calls Tryd.prog 11 #[.agg #[.string line2, .slice pa2 L2.length pc2], .int .i64 left] wi fun e w' => ∃ r : Int, e = .returned (.int .i64 r) ∧ (r = -1 ∨ 0 ≤ r ∧ r + (line2.size : Int) + (L2.length : Int) + (wgtD L2 : Int) = left) ∧ Below wi.heap.size wi w') :=
    fun wi left h0 h1 hi => szHead_any wi pa2 pc2 ⟨line2, L2⟩ left h0 h1 (hEb2.on hi) hS2 hm2 hm2'
  dsimp only at c0
  obtain ⟨⟨b0, b1⟩, ⟨b2, b3⟩, _, _, _⟩ := HB.out wb (Below.refl _ _)
  have HW : Hid (Below wb.heap.size wb wb) := Below.refl _ _
  clear hE hE2 hS hS2 hm hm' hm2 hm2' ba bb hb hK hK2 hEb hEb2
  go_enter Tryd.func4, Tryd.ntmps4
  go_wp2_with fail
  refine c0.mono ?_
  rintro e w1 ⟨r, rfl, hr, hb1⟩
  have HW : Hid (Below wb.heap.size wb w1) := hb1
  clear c0 b0 b1 b2 b3 hb1 hwa hwb hT2
  obtain ⟨⟨b0, b1⟩, ⟨b2, b3⟩, _, _, hw1⟩ := HB.out w1 HW.out
  rcases hr with rfl | ⟨hr0, hr1⟩
  · go_wp2_with fail
    go_ret
    exact ⟨rfl, hw1⟩
  have hr2 : ¬ r < 0 := by omega
  have c1 := C1.out w1 r hr0 (by omega) HW.out
  have HR1 : Hid (r + (line.size : Int) + (L.length : Int) + (wgtD L : Int) = 1048576 ∧ 0 ≤ r) := ⟨hr1, hr0⟩
  clear hr1 hr0 hw1 C1
  go_wp2_with fail
  refine c1.mono ?_
  rintro e w2 ⟨q, rfl, hr, hb2⟩
  have HW : Hid (Below wb.heap.size wb w2) := HW.out.trans (hb2.mono HW.out.size)
  clear c1 b0 b1 b2 b3 hb2 hr2
  obtain ⟨⟨b0, b1⟩, ⟨b2, b3⟩, _, _, hw2⟩ := HB.out w2 HW.out
  rcases hr with rfl | ⟨hr0, hr1⟩
  · go_wp2_with fail
    go_ret
    exact ⟨rfl, hw2⟩
  have hr2 : ¬ q < 0 := by omega
  have hz1 : HdSz line L := by unfold HdSz; have hwt : wgtT L = wgtD L := rfl; have := HR1.out; omega
  have hz2 : HdSz line2 L2 := by unfold HdSz; have hwt : wgtT L2 = wgtD L2 := rfl; have := HR1.out; omega
  have hl1 : L.length ≤ 1048576 := by have := HR1.out; omega
  have hl2 : L2.length ≤ 1048576 := by have := HR1.out; omega
  obtain ⟨S, hS0⟩ : ∃ S, storS line L line2 L2 = S := ⟨_, rfl⟩
  have CS : Hid (∀ (wi : World) (a1 a2 : Option Addr) (k1 k2 : Nat), DAt wi a1 L wi.heap.size → DAt wi a2 L2 wi.heap.size → Calls Tryd.prog 12 #[.agg #[.string line, .slice a1 L.length k1], .agg #[.string line2, .slice a2 L2.length k2]] wi fun e w' => e = .returned (.bool S) ∧ Below wi.heap.size wi w') := by
    intro wi a1 a2 k1 k2 h h'; rw [← hS0]; exact specStorable_any wi a1 a2 k1 k2 line line2 L L2 h h' hz1 hz2
  have CI : Hid (∀ (wi : World) (a1 a2 : Option Addr) (k1 k2 : Nat), DAt wi a1 L wi.heap.size → DAt wi a2 L2 wi.heap.size → Calls Tryd.prog 14 #[.agg #[.string line, .slice a1 L.length k1], .agg #[.string line2, .slice a2 L2.length k2]] wi fun e w' => e = .returned (.bool S) ∧ Below wi.heap.size wi w') := by
    intro wi a1 a2 k1 k2 h h'; rw [← hS0]; exact implStorable_any wi a1 a2 k1 k2 line line2 L L2 h h' hz1 hz2
  have hbb : (S != S) = false := by simp
  have CH : Hid (∀ (wi : World), Below wb.heap.size wb wi → Calls Tryd.prog 13 #[.agg #[.string line, .slice pa L.length pc]] wi fun e w' => ∃ v, e = .returned (.agg #[.string line, v]) ∧ OwnD w' wi.heap.size 87 v L ∧ Below wi.heap.size wi w') := fun wi hi => toHead_any wi pa pc ⟨line, L⟩ (HB.out wi hi).2.2.1 hl1
  have CH2 : Hid (∀ (wi : World), Below wb.heap.size wb wi → Calls Tryd.prog 13 #[.agg #[.string line2, .slice pa2 L2.length pc2]] wi fun e w' => ∃ v, e = .returned (.agg #[.string line2, v]) ∧ OwnD w' wi.heap.size 87 v L2 ∧ Below wi.heap.size wi w') := fun wi hi => toHead_any wi pa2 pc2 ⟨line2, L2⟩ (HB.out wi hi).2.2.2.1 hl2
  clear hr1 hr0 HR1 hS0 hz1 hz2 hw2
  -- the other text's answer
  have KS : ∀ W, Below wb.heap.size wb W → Below wb.heap.size wb W ∧ (W.cell? ⟨T1, 0, none⟩ = some (.string line) ∧ W.cell? ⟨T1, 1, none⟩ = some (.slice pa L.length pc)) ∧ W.cell? ⟨T2, 0, none⟩ = some (.string line2) ∧ W.cell? ⟨T2, 1, none⟩ = some (.slice pa2 L2.length pc2) := fun W h => ⟨h, (HB.out W h).1, (HB.out W h).2.1⟩
  have hdr : Below wb.heap.size wb w2.drew := ⟨HW.out.os, HW.out.tape, HW.out.output, HW.out.size, HW.out.block⟩
  go_wp2_with fail
  go_region_held3 (fun W => Below wb.heap.size wb W ∧ (W.cell? ⟨T1, 0, none⟩ = some (.string line) ∧ W.cell? ⟨T1, 1, none⟩ = some (.slice pa L.length pc)) ∧ W.cell? ⟨T2, 0, none⟩ = some (.string line2) ∧ W.cell? ⟨T2, 1, none⟩ = some (.slice pa2 L2.length pc2)) (first | with_reducible exact KS _ hdr | with_reducible exact KS _ hC | with_reducible exact KS _ hD | with_reducible exact KS _ hF)
    (first
      | (go_at_call 13; with_reducible refine (CH.out _ hdr).mono ?_; rintro e w3 ⟨v3, rfl, ho3, hb3⟩; obtain ⟨a3, k3, rfl, hA3⟩ := ho3.at; have hC : Below wb.heap.size wb w3 := hdr.trans (hb3.mono hdr.size))
      | (go_at_call 13; with_reducible refine (CH2.out _ hC).mono ?_; rintro e w4 ⟨v4, rfl, ho4, hb4⟩; obtain ⟨a4, k4, rfl, hA4⟩ := ho4.at; have hD : Below wb.heap.size wb w4 := hC.trans (hb4.mono hC.size); have hA3 := hA3.on hb4)
      | (go_at_call 12; refine (CS.out _ a3 a4 k3 k4 hA3 hA4).mono ?_; rintro e w5 ⟨rfl, hb5⟩; have hF : Below wb.heap.size wb w5 := hD.trans (hb5.mono hD.size)))
  clear hdr KS hA3 hA4 ho3 ho4 hb3 hb4 hb5 hC hD CS HW b0 b1 b2 b3 hr2
  have HW : Hid (Below wb.heap.size wb w5) := hF
  clear hF
  obtain ⟨⟨b0, b1⟩, ⟨b2, b3⟩, _, _, _⟩ := HB.out w5 HW.out
  go_wp2_with fail
  refine (CH.out _ HW.out).mono ?_
  rintro e w6 ⟨v6, rfl, ho6, hb6⟩
  obtain ⟨a6, k6, rfl, hA6⟩ := ho6.at
  clear b0 b1 b2 b3 ho6
  obtain ⟨w7, hw7⟩ : ∃ x, w6.alloc (.cells #[.string line, .slice a6 L.length k6] 35) = x := ⟨_, rfl⟩
  obtain ⟨X1, hX1⟩ : ∃ x, w6.heap.size = x := ⟨_, rfl⟩
  have hb7 : Below w6.heap.size w6 w7 := by rw [← hw7]; exact (Below.refl _ _).alloc (Nat.le_refl _) _
  have hx1 : HBx w7 X1 35 (.string line) (.slice a6 L.length k6) := by rw [← hw7, ← hX1]; exact HBx.new _ _ _ _
  have HY1 : Hid (HBx w7 X1 35 (.string line) (.slice a6 L.length k6) ∧ DAt w7 a6 L w7.heap.size) := ⟨hx1, hA6.on hb7⟩
  have HW : Hid (Below wb.heap.size wb w7) := by
    have h : Below wb.heap.size wb w6 := HW.out.trans (hb6.mono HW.out.size)
    exact h.trans (hb7.mono h.size)
  clear hb6 hb7 hx1 hA6
  obtain ⟨⟨b0, b1⟩, ⟨b2, b3⟩, _, _, _⟩ := HB.out w7 HW.out
  go_wp2_with fail
  clear hw7 hX1
  refine (CH2.out _ HW.out).mono ?_
  rintro e w8 ⟨v8, rfl, ho8, hb8⟩
  obtain ⟨a8, k8, rfl, hA8⟩ := ho8.at
  clear b0 b1 b2 b3 ho8
  obtain ⟨w9, hw9⟩ : ∃ x, w8.alloc (.cells #[.string line2, .slice a8 L2.length k8] 35) = x := ⟨_, rfl⟩
  obtain ⟨X2, hX2⟩ : ∃ x, w8.heap.size = x := ⟨_, rfl⟩
  have hb9 : Below w8.heap.size w8 w9 := by rw [← hw9]; exact (Below.refl _ _).alloc (Nat.le_refl _) _
  have hx2 : HBx w9 X2 35 (.string line2) (.slice a8 L2.length k8) := by rw [← hw9, ← hX2]; exact HBx.new _ _ _ _
  have HY : Hid (∀ wi, Below w9.heap.size w9 wi → ((wi.cell? ⟨X1, 0, none⟩ = some (.string line) ∧ wi.cell? ⟨X1, 1, none⟩ = some (.slice a6 L.length k6)) ∧ wi.cell? ⟨X2, 0, none⟩ = some (.string line2) ∧ wi.cell? ⟨X2, 1, none⟩ = some (.slice a8 L2.length k8)) ∧ DAt wi a6 L wi.heap.size ∧ DAt wi a8 L2 wi.heap.size ∧ Below wb.heap.size wb wi) := by
    have h8 : Below wb.heap.size wb w8 := HW.out.trans (hb8.mono HW.out.size)
    have h9 : Below wb.heap.size wb w9 := h8.trans (hb9.mono h8.size)
    have h79 : Below w7.heap.size w7 w9 := hb8.trans (hb9.mono hb8.size)
    intro wi hi
    exact ⟨⟨((HY1.out.1.on h79).on hi).cells, (hx2.on hi).cells⟩, (HY1.out.2.on h79).on hi, (hA8.on hb9).on hi, h9.trans (hi.mono h9.size)⟩
  have HV : Hid (Below w9.heap.size w9 w9) := Below.refl _ _
  clear hb8 hb9 hx2 hA8 HY1 HW
  obtain ⟨⟨⟨x0, x1⟩, x2, x3⟩, hD1, hD2, _⟩ := HY.out w9 HV.out
  have cI := CI.out w9 a6 a8 k6 k8 hD1 hD2
  clear hD1 hD2 CI
  go_wp2_with fail
  clear hw9 hX2
  refine cI.mono ?_
  rintro e w10 ⟨rfl, hb10⟩
  clear cI x0 x1 x2 x3
  -- what was handed in stands
  have KS : ∀ W, Below w9.heap.size w9 W → Below w9.heap.size w9 W ∧ ((W.cell? ⟨X1, 0, none⟩ = some (.string line) ∧ W.cell? ⟨X1, 1, none⟩ = some (.slice a6 L.length k6)) ∧ W.cell? ⟨X2, 0, none⟩ = some (.string line2) ∧ W.cell? ⟨X2, 1, none⟩ = some (.slice a8 L2.length k8)) ∧ (W.cell? ⟨T1, 0, none⟩ = some (.string line) ∧ W.cell? ⟨T1, 1, none⟩ = some (.slice pa L.length pc)) ∧ W.cell? ⟨T2, 0, none⟩ = some (.string line2) ∧ W.cell? ⟨T2, 1, none⟩ = some (.slice pa2 L2.length pc2) := fun W h => ⟨h, (HY.out W h).1, (HB.out W (HY.out W h).2.2.2).1, (HB.out W (HY.out W h).2.2.2).2.1⟩
  have hdr : Below w9.heap.size w9 w10.drew := ⟨hb10.os, hb10.tape, hb10.output, hb10.size, hb10.block⟩
  obtain ⟨_, ⟨⟨x0, x1⟩, x2, x3⟩, ⟨b0, b1⟩, b2, b3⟩ := KS w10 hb10
  have HE1 : Hid (∀ (wi : World) (b : Option Addr) (d : Nat), Below w9.heap.size w9 wi → DAt wi b L wi.heap.size → Calls Tryd.prog 15 #[.agg #[.string line, .slice a6 L.length k6], .agg #[.string line, .slice b L.length d]] wi fun e w' => e = .returned (.bool true) ∧ Below wi.heap.size wi w') := fun wi b d hi hB => eqHead_same wi a6 b k6 d ⟨line, L⟩ (HY.out wi hi).2.1 hB hl1
  have HE2 : Hid (∀ (wi : World) (b : Option Addr) (d : Nat), Below w9.heap.size w9 wi → DAt wi b L2 wi.heap.size → Calls Tryd.prog 15 #[.agg #[.string line2, .slice a8 L2.length k8], .agg #[.string line2, .slice b L2.length d]] wi fun e w' => e = .returned (.bool true) ∧ Below wi.heap.size wi w') := fun wi b d hi hB => eqHead_same wi a8 b k8 d ⟨line2, L2⟩ (HY.out wi hi).2.2.1 hB hl2
  go_wp2_with fail
  go_region_held3 (fun W => Below w9.heap.size w9 W ∧ ((W.cell? ⟨X1, 0, none⟩ = some (.string line) ∧ W.cell? ⟨X1, 1, none⟩ = some (.slice a6 L.length k6)) ∧ W.cell? ⟨X2, 0, none⟩ = some (.string line2) ∧ W.cell? ⟨X2, 1, none⟩ = some (.slice a8 L2.length k8)) ∧ (W.cell? ⟨T1, 0, none⟩ = some (.string line) ∧ W.cell? ⟨T1, 1, none⟩ = some (.slice pa L.length pc)) ∧ W.cell? ⟨T2, 0, none⟩ = some (.string line2) ∧ W.cell? ⟨T2, 1, none⟩ = some (.slice pa2 L2.length pc2)) (first | with_reducible exact KS _ hdr | with_reducible exact KS _ hC | with_reducible exact KS _ hD)
    (first
      | (go_at_call 13; refine (CH.out _ (HY.out _ hdr).2.2.2).mono ?_; rintro e w11 ⟨v11, rfl, ho11, hb11⟩; obtain ⟨a11, k11, rfl, hA11⟩ := ho11.at; have hC : Below w9.heap.size w9 w11 := hdr.trans (hb11.mono hdr.size))
      | (go_at_call 15; refine (HE1.out _ a11 k11 hC hA11).mono ?_; rintro e w12 ⟨rfl, hb12⟩; have hD : Below w9.heap.size w9 w12 := hC.trans (hb12.mono hC.size)))
  clear x0 x1 x2 x3 b0 b1 b2 b3 hdr hb10 ho11 hA11 hb11 hb12 hC HE1 CH
  have hdr : Below w9.heap.size w9 w12.drew := ⟨hD.os, hD.tape, hD.output, hD.size, hD.block⟩
  obtain ⟨_, ⟨⟨x0, x1⟩, x2, x3⟩, ⟨b0, b1⟩, b2, b3⟩ := KS w12 hD
  clear hD
  go_wp2_with fail
  go_region_held3 (fun W => Below w9.heap.size w9 W ∧ ((W.cell? ⟨X1, 0, none⟩ = some (.string line) ∧ W.cell? ⟨X1, 1, none⟩ = some (.slice a6 L.length k6)) ∧ W.cell? ⟨X2, 0, none⟩ = some (.string line2) ∧ W.cell? ⟨X2, 1, none⟩ = some (.slice a8 L2.length k8)) ∧ (W.cell? ⟨T1, 0, none⟩ = some (.string line) ∧ W.cell? ⟨T1, 1, none⟩ = some (.slice pa L.length pc)) ∧ W.cell? ⟨T2, 0, none⟩ = some (.string line2) ∧ W.cell? ⟨T2, 1, none⟩ = some (.slice pa2 L2.length pc2)) (first | with_reducible exact KS _ hdr | with_reducible exact KS _ hC | with_reducible exact KS _ hD)
    (first
      | (go_at_call 13; refine (CH2.out _ (HY.out _ hdr).2.2.2).mono ?_; rintro e w13 ⟨v13, rfl, ho13, hb13⟩; obtain ⟨a13, k13, rfl, hA13⟩ := ho13.at; have hC : Below w9.heap.size w9 w13 := hdr.trans (hb13.mono hdr.size))
      | (go_at_call 15; refine (HE2.out _ a13 k13 hC hA13).mono ?_; rintro e w14 ⟨rfl, hb14⟩; have hD : Below w9.heap.size w9 w14 := hC.trans (hb14.mono hC.size)))
  go_wp2_with fail
  go_ret
  exact ⟨rfl, (HB.out _ (HY.out _ hD).2.2.2).2.2.2.2⟩
end Go.Proofs.YtnnaphfeeobelarDoor
