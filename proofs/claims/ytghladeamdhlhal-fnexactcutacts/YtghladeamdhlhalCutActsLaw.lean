/- The walk of the law on CutActs. -/
import Derived.Test.YtghladeamdhlhalCutSpec
import Derived.Test.YtghladeamdhlhalCutImpl
import Derived.Test.YtghladeamdhlhalInts
import Derived.Test.YtghladeamdhlhalActsMark
import Derived.Test.YtghladeamdhlhalMarkFiles
import Derived.Test.YtghladeamdhlhalBoxes
import Derived.Deep.RegionHeld3
namespace Go.Proofs.Ytghladeamdhlhal
open Go.RowKit Go.Sort

set_option maxRecDepth 100000 in
set_option maxHeartbeats 4000000 in
theorem cutActs_walk (a : Option Addr) (cap : Nat) (L : List Fil) (b : Option Addr) (capb : Nat) (As : List Ac) (wh : Int) (d : Option Addr) (capd : Nat) (left : List Int) (w : World) (hL : FAt w a L w.heap.size) (hs : Sized L) (hm : L.length ≤ maxLen) (hI : AAt w b As w.heap.size) (hsA : SizedA As) (hi : As.length ≤ maxLen) (_hwh : (Lit.int .i64 wh).wf = true) (hJ : IAt w d left w.heap.size) (hj : left.length ≤ maxLen) :
    Calls Try.prog 6 #[.agg #[.slice a L.length cap], .slice b As.length capb, .int .i64 wh, .slice d left.length capd] w fun e w' => e = .returned (.bool true) ∧ Below w.heap.size w w' := by
  obtain ⟨wb, hwb⟩ : ∃ wb, w.alloc (.cells #[.slice a L.length cap] 24) = wb := ⟨_, rfl⟩
  have hb : Below w.heap.size w wb := by rw [← hwb]; exact (Below.refl _ _).alloc (Nat.le_refl _) _
  have hbs : w.heap.size < wb.heap.size := by rw [← hwb]; simp
  have hbox : wb.cell? ⟨w.heap.size, 0, none⟩ = some (.slice a L.length cap) := by rw [← hwb]; simp
  have hLb : FAt wb a L wb.heap.size := FAt.on hL hb
  have hIb : AAt wb b As wb.heap.size := AAt.on hI hb
  have hJb : IAt wb d left wb.heap.size := IAt.on hJ hb
  have HB : Hid (∀ wi, Below wb.heap.size wb wi → wi.cell? ⟨w.heap.size, 0, none⟩ = some (.slice a L.length cap) ∧ FAt wi a L wi.heap.size ∧ AAt wi b As wi.heap.size ∧ IAt wi d left wi.heap.size ∧ Below w.heap.size w wi) := fun wi hi => ⟨(hi.cell hbs).trans hbox, FAt.on hLb hi, AAt.on hIb hi, IAt.on hJb hi, bthen hb hi⟩
  have c0 := szDisk_any wb a cap L 1048576 (by omega) (by omega) hLb hs hm
  have HW : Hid (w.alloc (.cells #[.slice a L.length cap] 24) = wb) := hwb
  unfold maxLen at hj
  clear hL hs hb hwb hI hIb hLb hJ hJb
  by_cases hlj : left.length ≤ 1048576
  case neg =>
    go_enter Try.func6, Try.ntmps6
    go_wp2
    go_ret
    exact ⟨rfl, by rw [HW.out]; exact (HB.out wb (Below.refl _ _)).2.2.2.2⟩
  go_enter Try.func6, Try.ntmps6
  go_wp2_with fail
  rw [HW.out]
  refine c0.mono ?_
  rintro e w1 ⟨r, rfl, hr, hb1⟩
  obtain ⟨q1, hL1, hI1, hJ1, hw1⟩ := HB.out w1 hb1
  clear c0
  rcases hr with rfl | ⟨hr0, hr1⟩
  · go_wp2
    go_ret
    exact ⟨rfl, hw1⟩
  have c1 := szActS_any w1 b capb As r hr0 (by omega) hI1 hsA hi
  go_wp2_with fail
  refine c1.mono ?_
  rintro e w1' ⟨r2, rfl, hr2, hb1'⟩
  have hB1 := bthen hb1 hb1'
  obtain ⟨q1', hL1', hI1', hJ1', hw1'⟩ := HB.out w1' hB1
  clear c1 q1 hL1 hI1 hJ1 hw1
  rcases hr2 with rfl | ⟨hp0, hp1⟩
  · go_wp2
    go_ret
    exact ⟨rfl, hw1'⟩
  have hlen : L.length ≤ 1048576 := by omega
  have hlw : L.length + wgt L ≤ 1048576 := by omega
  have hlf : As.length ≤ 1048576 := by omega
  have hlg : awg As ≤ 1048576 := by omega
  clear hr1 hp1
  have hMl : (cutR L As wh left).1.length ≤ 1048576 := cutR_len L As wh left hlen
  obtain ⟨M, hM⟩ : ∃ M, (cutR L As wh left).1 = M := ⟨_, rfl⟩
  obtain ⟨ok, hok⟩ : ∃ ok, (cutR L As wh left).2 = ok := ⟨_, rfl⟩
  have CS : Hid (∀ (wi : World) (x : Option Addr) (cx : Nat) (y : Option Addr) (cy : Nat) (z : Option Addr) (cz : Nat), FAt wi x L wi.heap.size → AAt wi y As wi.heap.size → IAt wi z left wi.heap.size → Cuts y As.length cy → Calls Try.prog 28 #[.agg #[.slice x L.length cx], .slice y As.length cy, .int .i64 wh, .slice z left.length cz] wi fun e w' => ∃ v, e = .returned (.tuple #[.agg #[v], .bool ok]) ∧ OwnF w' wi.heap.size 63 v M ∧ Below wi.heap.size wi w') := by
    intro wi x cx y cy z cz h1 h2 h3 hc
    rw [← hM, ← hok]
    exact specCut_any wi x cx L y cy As wh z cz left h1 h2 h3 hlw hlg hlf hlj hc
  have CI : Hid (∀ (wi : World) (x : Option Addr) (cx : Nat) (y : Option Addr) (cy : Nat) (z : Option Addr) (cz : Nat), FAt wi x L wi.heap.size → AAt wi y As wi.heap.size → IAt wi z left wi.heap.size → Cuts y As.length cy → Calls Try.prog 29 #[.agg #[.slice x L.length cx], .slice y As.length cy, .int .i64 wh, .slice z left.length cz] wi fun e w' => ∃ v, e = .returned (.tuple #[.agg #[v], .bool ok]) ∧ OwnF w' wi.heap.size 63 v M ∧ Below wi.heap.size wi w') := by
    intro wi x cx y cy z cz h1 h2 h3 hc
    rw [← hM, ← hok]
    exact implCut_any wi x cx L y cy As wh z cz left h1 h2 h3 hlw hsA hlf hlj hc
  rw [hM] at hMl
  clear hM hok hsA
  go_wp2_with fail
  refine (toDisk_any w1' a cap L hL1' hlen).mono ?_
  rintro e w2 ⟨v2, rfl, ho2, hb2⟩
  have hB2 := bthen hB1 hb2
  obtain ⟨a2, cap2, rfl, hA2⟩ := ho2.at
  obtain ⟨q2, hL2, hI2, hJ2, hw2⟩ := HB.out w2 hB2
  clear q1' hL1' hI1' hJ1' hw1'
  go_wp2_with fail
  refine (toActS_any w2 b capb As hI2 hlf).mono ?_
  rintro e w3 ⟨v3, rfl, ho3, hb3⟩
  have hB3 := bthen hB2 hb3
  obtain ⟨a3, cap3, rfl, hA3⟩ := ho3.at
  have hK3 := ho3.cuts
  obtain ⟨q3, hL3, hI3, hJ3, hw3⟩ := HB.out w3 hB3
  clear q2 hL2 hI2 hJ2 hw2
  go_wp2_with fail
  refine (toIntS_any w3 d capd left hJ3 hlj).mono ?_
  rintro e w3' ⟨v3', rfl, ho3', hb3'⟩
  obtain ⟨a3', cap3', rfl, hA3'⟩ := ho3'.ints
  have hB3' := bthen hB3 hb3'
  obtain ⟨q3', hL3', hI3', hJ3', hw3'⟩ := HB.out w3' hB3'
  clear q3 hL3 hI3 hJ3 hw3
  go_wp2_with fail
  refine (CS.out w3' a2 cap2 a3 cap3 a3' cap3' (FAt.on (FAt.on hA2 hb3) hb3') (AAt.on hA3 hb3') hA3' hK3).mono ?_
  rintro e w4 ⟨v4, rfl, ho4, hb4⟩
  obtain ⟨a4, cap4, rfl, hA4⟩ := ho4.at
  have hB4 := bthen hB3' hb4
  obtain ⟨w5, hw5⟩ : ∃ w5, w4.alloc (.cells #[.slice a4 M.length cap4] 31) = w5 := ⟨_, rfl⟩
  have hb5 : Below w4.heap.size w4 w5 := by rw [← hw5]; exact bplus (Below.refl _ _) _
  have hx0 : DBox w5 w4.heap.size (.slice a4 M.length cap4) := by rw [← hw5]; exact DBox.new _ _
  have HW5 : Hid (w4.alloc (.cells #[.slice a4 M.length cap4] 31) = w5) := hw5
  clear hw5
  have hB5 := bthen hB4 hb5
  obtain ⟨q5, hL5, hI5, hJ5, _⟩ := HB.out w5 hB5
  rw [← HW5.out] at q5
  clear q3' hL3' hI3' hJ3' hw3' ho2 ho3 ho3' hA2 hA3 hA3' hA4 hK3
  go_wp2_with fail
  rw [HW5.out]
  refine (toDisk_any w5 a cap L hL5 hlen).mono ?_
  rintro e w6 ⟨v6, rfl, ho6, hb6⟩
  obtain ⟨a6, cap6, rfl, hA6⟩ := ho6.at
  have hB6 := bthen hB5 hb6
  obtain ⟨w7, hw7⟩ : ∃ w7, w6.alloc (.cells #[.slice a6 L.length cap6] 31) = w7 := ⟨_, rfl⟩
  have hb7 : Below w6.heap.size w6 w7 := by rw [← hw7]; exact bplus (Below.refl _ _) _
  have hxx : DBox w7 w6.heap.size (.slice a6 L.length cap6) := by rw [← hw7]; exact DBox.new _ _
  have hs7 : w6.heap.size < w7.heap.size := by rw [← hw7]; simp
  have HW7 : Hid (w6.alloc (.cells #[.slice a6 L.length cap6] 31) = w7) := hw7
  clear hw7
  have hB7 := bthen hB6 hb7
  obtain ⟨q7, hL7, hI7, hJ7, _⟩ := HB.out w7 hB7
  clear q5 hL5 hI5 hJ5
  go_wp2_with fail
  rw [HW7.out]
  refine (toActS_any w7 b capb As hI7 hlf).mono ?_
  rintro e w8 ⟨v8, rfl, ho8, hb8⟩
  obtain ⟨a8, cap8, rfl, hA8⟩ := ho8.at
  have hB8 := bthen hB7 hb8
  have hK8 := ho8.cuts
  obtain ⟨q8, hL8, hI8, hJ8, _⟩ := HB.out w8 hB8
  go_wp2_with fail
  refine (toIntS_any w8 d capd left hJ8 hlj).mono ?_
  rintro e w8' ⟨v8', rfl, ho8', hb8'⟩
  obtain ⟨a8', cap8', rfl, hA8'⟩ := ho8'.ints
  have hB8' := bthen hB8 hb8'
  have cx8 := (hxx.on (bthen hb8 hb8')).cell
  clear q8 hL8 hI8 hJ8
  go_wp2_with fail
  refine (CI.out w8' a6 cap6 a8 cap8 a8' cap8' (FAt.on (FAt.on (FAt.on hA6 hb7) hb8) hb8') (AAt.on hA8 hb8') hA8' hK8).mono ?_
  rintro e w9 ⟨v9, rfl, ho9, hb9⟩
  obtain ⟨a9, cap9, rfl, hA9⟩ := ho9.at
  have hB9 := bthen hB8' hb9
  obtain ⟨w10, hw10⟩ : ∃ w10, w9.alloc (.cells #[.slice a9 M.length cap9] 31) = w10 := ⟨_, rfl⟩
  have hb10 : Below w9.heap.size w9 w10 := by rw [← hw10]; exact bplus (Below.refl _ _) _
  have hg0 : DBox w10 w9.heap.size (.slice a9 M.length cap9) := by rw [← hw10]; exact DBox.new _ _
  have HW10 : Hid (w9.alloc (.cells #[.slice a9 M.length cap9] 31) = w10) := hw10
  clear hw10
  have hB10 := bthen hB9 hb10
  have h5to10 : Below w5.heap.size w5 w10 := bthen (bthen (bthen (bthen (bthen hb6 hb7) hb8) hb8') hb9) hb10
  have h7to10 : Below w7.heap.size w7 w10 := bthen (bthen (bthen hb8 hb8') hb9) hb10
  have H10 : Hnd w4.heap.size w6.heap.size w9.heap.size (.slice a4 M.length cap4) (.slice a6 L.length cap6) (.slice a9 M.length cap9) M M w10 :=
    ⟨hx0.on h5to10, hxx.on h7to10, hg0, ((ho4.below hb5 (Nat.le_refl _)).below h5to10 (Nat.le_refl _)).mono (Nat.zero_le _), (ho9.below hb10 (Nat.le_refl _)).mono (Nat.zero_le _)⟩
  have hx10 : OwnF w10 0 63 (.slice a6 L.length cap6) L := ((ho6.below hb7 (Nat.le_refl _)).below h7to10 (Nat.le_refl _)).mono (Nat.zero_le _)
  have hv10 : OwnA w10 0 35 (.slice a8 As.length cap8) As := (ho8.below (bthen (bthen hb8' hb9) hb10) (Nat.le_refl _)).mono (Nat.zero_le _)
  have hn10 : OwnV w10 0 3 (.slice a8' left.length cap8') (ints left) := (ho8'.below (bthen hb9 hb10) (Nat.le_refl _)).mono (Nat.zero_le _)
  have HX : Hid (∀ k, (Value.slice a6 L.length cap6).ownBlock = some k → w5.heap.size ≤ k ∧ k < w6.heap.size) := fun k hk => ho6.lt k hk
  have HV : Hid (∀ k, (Value.slice a8 As.length cap8).ownBlock = some k → w7.heap.size ≤ k ∧ k < w8.heap.size) := fun k hk => ho8.lt k hk
  have HN : Hid (∀ k, (Value.slice a8' left.length cap8').ownBlock = some k → w8.heap.size ≤ k ∧ k < w8'.heap.size) := fun k hk => ho8'.lt k hk
  have HG : Hid (∀ k, (Value.slice a9 M.length cap9).ownBlock = some k → w8'.heap.size ≤ k ∧ k < w9.heap.size) := fun k hk => ho9.lt k hk
  have H0 : Hid (∀ k, (Value.slice a4 M.length cap4).ownBlock = some k → w3'.heap.size ≤ k ∧ k < w4.heap.size) := fun k hk => ho4.lt k hk
  have ES : Hid (wb.heap.size ≤ w3'.heap.size ∧ w3'.heap.size ≤ w4.heap.size ∧ w4.heap.size < w5.heap.size ∧ w5.heap.size ≤ w6.heap.size ∧ w6.heap.size < w7.heap.size ∧ w7.heap.size ≤ w8.heap.size ∧ w8.heap.size ≤ w8'.heap.size ∧ w8'.heap.size ≤ w9.heap.size) := ⟨hB3'.size, hb4.size, hx0.lt, hb6.size, hs7, hb8.size, hb8'.size, hb9.size⟩
  have c10a := H10.c0.cell
  have c10b := H10.cg.cell
  rw [← HW10.out] at c10a c10b
  clear hx0 hxx hs7 hg0 ho4 ho6 ho8 ho8' ho9 hA6 hA8 hA8' hA9 hK8 hb3' hb8' hB3' hB8' q7 hL7 hI7 hJ7 cx8 hb2 hb3 hb4 hb5 hb6 hb7 hb8 hb9 hb10 h5to10 h7to10 hB2 hB3 hB4 hB5 hB6 hB7 hB8 hB9
  go_wp2_with fail
  rw [HW10.out]
  refine (eqDisk_same w10 0 0 _ _ M H10.og H10.o0 hMl).mono ?_
  rintro e w11 ⟨rfl, hb11⟩
  have hB11 := bthen hB10 hb11
  have H11 := H10.next hb11
  have hx11 := hx10.below hb11 (Nat.le_refl _)
  have hv11 := hv10.below hb11 (Nat.le_refl _)
  have hn11 := hn10.below hb11 (Nat.le_refl _)
  obtain ⟨q11, hL11, hI11, hJ11, hw11⟩ := HB.out w11 hB11
  have c11 := H11.cx.cell
  have hS0 : Below w11.heap.size w11 w11.drew ∧ w11.drew.cell? ⟨w6.heap.size, 0, none⟩ = some (.slice a6 L.length cap6) ∧ w11.drew.cell? ⟨w.heap.size, 0, none⟩ = some (.slice a L.length cap) := ⟨⟨rfl, rfl, rfl, Nat.le_refl _, fun _ _ => rfl⟩, c11, q11⟩
  have hp1 : w6.heap.size < w11.heap.size := H11.cx.lt
  have hp2 : w.heap.size < w11.heap.size := World.block_lt_of_cell? w11 _ q11
  clear c10a c10b H10 hx10 hv10 hn10
  go_wp2
  go_region_held3 (fun w' => Below w11.heap.size w11 w' ∧ w'.cell? ⟨w6.heap.size, 0, none⟩ = some (.slice a6 L.length cap6) ∧ w'.cell? ⟨w.heap.size, 0, none⟩ = some (.slice a L.length cap)) (first | exact hS0 | (refine kept2 (by assumption) hp1 hp2 ?_; assumption))
    (first
      | (go_at_call 11; refine (toDisk_any _ a cap L (FAt.on hL11 (And.left (by assumption))) hlen).mono ?_; rintro e w12 ⟨v12, rfl, ho12, hb12⟩; obtain ⟨a12, cap12, rfl, hA12⟩ := ho12.at)
      | (go_at_call 14; refine (eqDisk_same _ _ _ _ _ L (hx11.below (And.left (by assumption)) (Nat.le_refl _)) ho12 hlen).mono ?_; rintro e w13 ⟨rfl, hb13⟩))
  have h11to13 : Below w11.heap.size w11 w13 := And.left (by assumption)
  have hB13 := bthen hB11 h11to13
  have H13 := H11.next h11to13
  have hx13 := hx11.below h11to13 (Nat.le_refl _)
  have hv13 := hv11.below h11to13 (Nat.le_refl _)
  have hn13 := hn11.below h11to13 (Nat.le_refl _)
  obtain ⟨q13, hL13, hI13, hJ13, hw13⟩ := HB.out w13 hB13
  clear q11 hL11 hI11 hJ11 hw11 c11 hS0 hp1 hp2 H11 hx11 hv11 hn11 ho12 hA12
  go_wp2_with fail
  refine (toActS_any w13 b capb As hI13 hlf).mono ?_
  rintro e w14 ⟨v14, rfl, ho14, hb14⟩
  obtain ⟨a14, cap14, rfl, hA14⟩ := ho14.at
  have hv14 := hv13.below hb14 (Nat.le_refl _)
  obtain ⟨av, cv, hav, hAv⟩ := hv14.at
  simp only [Value.slice.injEq] at hav
  obtain ⟨rfl, _, rfl⟩ := hav
  go_wp2_with fail
  refine (eqActS_same w14 _ _ _ _ As hAv hA14 hlf).mono ?_
  rintro e w15 ⟨rfl, hb15⟩
  obtain ⟨_, _, _, hJ15, _⟩ := HB.out w15 (bthen hB13 (bthen hb14 hb15))
  go_wp2_with fail
  refine (toIntS_any w15 d capd left hJ15 hlj).mono ?_
  rintro e w14' ⟨v14', rfl, ho14', hb14'⟩
  obtain ⟨a14', cap14', rfl, hA14'⟩ := ho14'.ints
  have hn14 := hn13.below (bthen (bthen hb14 hb15) hb14') (Nat.le_refl _)
  obtain ⟨an, cn, han, hAn⟩ := hn14.ints
  simp only [Value.slice.injEq] at han
  obtain ⟨rfl, _, rfl⟩ := han
  go_wp2_with fail
  refine (eqIntS_same w14' _ _ _ _ left hAn hA14' hlj).mono ?_
  rintro e w15' ⟨rfl, hb15'⟩
  have h13to15 := bthen (bthen (bthen hb14 hb15) hb14') hb15'
  have hB15 := bthen hB13 h13to15
  have H15 := H13.next h13to15
  have hx15 := hx13.below h13to15 (Nat.le_refl _)
  have hv15 := hv13.below h13to15 (Nat.le_refl _)
  have hn15 := hn13.below h13to15 (Nat.le_refl _)
  have c15 := H15.cx.cell
  clear H13 hx13 hv13 hn13 hn14 hv14 ho14' hA14' hAn q13 hL13 hI13 hJ13 hw13 ho14 hA14 hAv
  go_wp2_with fail
  refine (markDisk_any w15' 0 _ L 1 hx15 hlen (by omega) (by omega)).mono ?_
  rintro e w16 ⟨he16, ho16, hg16⟩
  obtain ⟨k16, hk16, hk16b⟩ : ∃ k16 : Nat, 1 + 3 * L.length = k16 ∧ k16 ≤ 4000000 := ⟨_, rfl, by omega⟩
  have hk160 : 0 < k16 := by omega
  rw [hk16] at he16
  subst he16
  have hB16 : Below wb.heap.size wb w16 := Below.grown hB15 hg16 hB15.size (fun k hk => by have := HX.out k hk; have := ES.out; omega)
  have H16 := H15.grown hg16 hx15 (fun k hk h => by have h1 := HX.out k hk; have h2 := H0.out k h; have := ES.out; omega) (fun k hk h => by have h1 := HX.out k hk; have h2 := HG.out k h; have := ES.out; omega)
  have hn16 := hn15.grown hg16 (fun k hk he => by have h1 := HX.out k he; have h2 := HN.out k hk; have h3 := ES.out; omega)
  have hv16 := hv15.grown hg16 (fun k hk he => by have h1 := HX.out k he; have h2 := HV.out k hk; have h3 := ES.out; omega)
  clear hk16 c15 hx15 hv15 hn15 H15 hg16 ho16
  go_wp2_with fail
  refine (markActS_any w16 0 _ As k16 hv16 hlf hk160 (by omega)).mono ?_
  rintro e w17 ⟨he17, hg17⟩
  obtain ⟨k17, hk17⟩ : ∃ k17 : Nat, k16 + 4 * As.length = k17 := ⟨_, rfl⟩
  rw [hk17] at he17
  subst he17
  have hk17b : k17 ≤ 100000000 := by omega
  have hB17 : Below wb.heap.size wb w17 := Below.grown hB16 hg17 hB16.size (fun k hk => by have := HV.out k hk; have := ES.out; omega)
  have H17 : Hnd w4.heap.size w6.heap.size w9.heap.size (.slice a4 M.length cap4) (.slice a6 L.length cap6) (.slice a9 M.length cap9) M M w17 :=
    ⟨H16.c0.grown hg17 (fun k hk => by have := HV.out k hk; have := ES.out; omega), H16.cx.grown hg17 (fun k hk => by have := HV.out k hk; have := ES.out; omega), H16.cg.grown hg17 (fun k hk => by have := HV.out k hk; have := ES.out; omega),
      H16.o0.grown hg17 (fun k hk he => by have h1 := HV.out k he; have h2 := H0.out k hk; have := ES.out; omega), H16.og.grown hg17 (fun k hk he => by have h1 := HV.out k he; have h2 := HG.out k hk; have := ES.out; omega)⟩
  have hn17 := hn16.grown hg17 (fun k hk he => by have h1 := HV.out k he; have h2 := HN.out k hk; have h3 := ES.out; omega)
  clear hk17 hv16 hn16 H16 hg17
  go_wp2_with fail
  refine (markIntS_any w17 0 _ (ints left) k17 hn17 (by rw [ints_length]; exact hlj) hk17b).mono ?_
  rintro e w17' ⟨he17', _, hg17'⟩
  obtain ⟨k17', hk17'⟩ : ∃ k17' : Nat, k17 + (ints left).length = k17' := ⟨_, rfl⟩
  rw [hk17'] at he17'
  subst he17'
  have hd17 : decide ((k17' : Int) < 0) = false := decide_eq_false (by omega)
  have hB17' : Below wb.heap.size wb w17' := Below.grown hB17 hg17' hB17.size (fun k hk => by have := HN.out k hk; have := ES.out; omega)
  have H17' : Hnd w4.heap.size w6.heap.size w9.heap.size (.slice a4 M.length cap4) (.slice a6 L.length cap6) (.slice a9 M.length cap9) M M w17' :=
    ⟨H17.c0.grown hg17' (fun k hk => by have := HN.out k hk; have := ES.out; omega), H17.cx.grown hg17' (fun k hk => by have := HN.out k hk; have := ES.out; omega), H17.cg.grown hg17' (fun k hk => by have := HN.out k hk; have := ES.out; omega),
      H17.o0.grown hg17' (fun k hk he => by have h1 := HN.out k he; have h2 := H0.out k hk; have := ES.out; omega), H17.og.grown hg17' (fun k hk he => by have h1 := HN.out k he; have h2 := HG.out k hk; have := ES.out; omega)⟩
  have c17a := H17'.cg.cell
  have c17b := H17'.c0.cell
  clear hk17' hn17 H17 hg17'
  go_wp2_with fail
  refine (eqDisk_same w17' 0 0 _ _ M H17'.og H17'.o0 hMl).mono ?_
  rintro e w18 ⟨rfl, hb18⟩
  have hB18 := bthen hB17' hb18
  have H18 := H17'.next hb18
  have c18 := H18.cg.cell
  clear c17a c17b H17'
  go_wp2_with fail
  refine (markDisk_any w18 0 _ M 1 H18.og hMl (by omega) (by omega)).mono ?_
  rintro e w19 ⟨he19, ho19, hg19⟩
  obtain ⟨m, hm19⟩ : ∃ m : Nat, 1 + 3 * M.length = m := ⟨_, rfl⟩
  rw [hm19] at he19
  subst he19
  have hB19 : Below wb.heap.size wb w19 := Below.grown hB18 hg19 hB18.size (fun k hk => by have := HG.out k hk; have := ES.out; omega)
  have H19 := H18.marked hg19 (fun k hk h => by have h1 := HG.out k hk; have h2 := H0.out k h; have := ES.out; omega) ho19
  have c19 := H19.cg.cell
  have CH : Hid (∀ wi, OwnF wi 0 63 (.slice a9 M.length cap9) (mfl 1 M.length) → Calls Try.prog 16 #[.agg #[.slice a9 M.length cap9], .int .i64 ((1 : Nat) : Int)] wi fun e w' => e = .returned (.int .i64 (m : Int)) ∧ Below wi.heap.size wi w') := by
    intro wi ho
    rw [← hm19]
    exact heldDisk_any wi 0 _ M.length 1 ho hMl (by omega) (by omega)
  have hdm : decide ((m : Int) < 0) = false := decide_eq_false (by omega)
  clear hm19 c18 H18 hg19 ho19 hd17
  go_wp2_with fail
  refine (CH.out w19 H19.og).mono ?_
  rintro e w20 ⟨rfl, hb20⟩
  have hB20 := bthen hB19 hb20
  have H20 := H19.next hb20
  obtain ⟨q20, hL20, hI20, hJ20, hw20⟩ := HB.out w20 hB20
  clear c19 H19
  go_wp2_with fail
  refine (toDisk_any w20 a cap L hL20 hlen).mono ?_
  rintro e w21 ⟨v21, rfl, ho21, hb21⟩
  obtain ⟨a21, cap21, rfl, hA21⟩ := ho21.at
  have hB21 := bthen hB20 hb21
  obtain ⟨q21, hL21, hI21, hJ21, hw21⟩ := HB.out w21 hB21
  clear q20 hL20 hI20 hJ20 hw20
  go_wp2_with fail
  refine (toActS_any w21 b capb As hI21 hlf).mono ?_
  rintro e w22 ⟨v22, rfl, ho22, hb22⟩
  obtain ⟨a22, cap22, rfl, hA22⟩ := ho22.at
  have hK22 := ho22.cuts
  obtain ⟨q22, hL22, hI22, hJ22, hw22⟩ := HB.out w22 (bthen hB21 hb22)
  clear q21 hL21 hI21 hJ21 hw21
  go_wp2_with fail
  refine (toIntS_any w22 d capd left hJ22 hlj).mono ?_
  rintro e w22' ⟨v22', rfl, ho22', hb22'⟩
  obtain ⟨a22', cap22', rfl, hA22'⟩ := ho22'.ints
  clear q22 hL22 hI22 hJ22 hw22
  go_wp2_with fail
  refine (CI.out w22' a21 cap21 a22 cap22 a22' cap22' (FAt.on (FAt.on hA21 hb22) hb22') (AAt.on hA22 hb22') hA22' hK22).mono ?_
  rintro e w23 ⟨v23, rfl, ho23, hb23⟩
  obtain ⟨a23, cap23, rfl, hA23⟩ := ho23.at
  obtain ⟨w24, hw24⟩ : ∃ w24, w23.alloc (.cells #[.slice a23 M.length cap23] 31) = w24 := ⟨_, rfl⟩
  have hb24 : Below w23.heap.size w23 w24 := by rw [← hw24]; exact bplus (Below.refl _ _) _
  have h20to24 : Below w20.heap.size w20 w24 := bthen (bthen (bthen (bthen hb21 hb22) hb22') hb23) hb24
  have H24 := H20.next h20to24
  have hB24 := bthen hB20 h20to24
  have o24 : OwnF w24 0 63 (.slice a23 M.length cap23) M := (ho23.below hb24 (Nat.le_refl _)).mono (Nat.zero_le _)
  have c24 := H24.c0.cell
  rw [← hw24] at c24
  have HW24 : Hid (w23.alloc (.cells #[.slice a23 M.length cap23] 31) = w24) := hw24
  clear hw24 H20 ho21 ho22 ho22' ho23 hA21 hA22 hA22' hA23 hK22
  go_wp2_with fail
  rw [HW24.out]
  refine (eqDisk_same w24 0 0 _ _ M o24 H24.o0 hMl).mono ?_
  rintro e w25 ⟨rfl, hb25⟩
  have hB25 := bthen hB24 hb25
  have H25 := H24.next hb25
  have c25 := H25.cg.cell
  clear c24 H24
  go_wp2_with fail
  refine (CH.out w25 H25.og).mono ?_
  rintro e w26 ⟨rfl, hb26⟩
  have hB26 := bthen hB25 hb26
  clear c25
  go_wp2
  go_ret
  exact ⟨rfl, (HB.out w26 hB26).2.2.2.2⟩
end Go.Proofs.Ytghladeamdhlhal
