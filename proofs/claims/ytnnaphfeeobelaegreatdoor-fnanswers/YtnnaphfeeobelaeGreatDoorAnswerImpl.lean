/- An answer is written: the program. -/
import Derived.Test.YtnnaphfeeobelaeGreatDoorGoodReadJ
import Derived.Test.YtnnaphfeeobelaeGreatDoorConcatDJ
import Derived.Test.YtnnaphfeeobelaeGreatDoorHeadOkImpl
import Derived.Test.YtnnaphfeeobelaeGreatDoorSmugPlainJ
import Derived.Deep.RegionHeld3
namespace Go.Proofs.YtnnaphfeeobelaeGreatDoor
open Go.RowKit Go.Sort
set_option maxRecDepth 100000 in
set_option maxHeartbeats 8000000 in
theorem implAnswer_any (w : World) (a : Option Addr) (c : Nat) (line : ByteArray) (L : List (ByteArray × ByteArray)) (body : ByteArray) (hA : DAt w a L w.heap.size) (hz : HdSz line L) (hb : body.size ≤ 1048576) (htab : Lib.TabIs Tryz.prog w "internal/strconv.uint64pow10" .u64 Lib.pow10Tab) :
    Calls Tryz.prog 8 #[.agg #[.string line, .slice a L.length c], .string body] w fun e w' => e = .returned (.tuple #[.string (answerS line L body).1, .bool (answerS line L body).2]) ∧ Below w.heap.size w w' := by
  obtain ⟨wb, hwb⟩ : ∃ wb, w.alloc (.cells #[.string line, .slice a L.length c] 32) = wb := ⟨_, rfl⟩
  have hbb : Below w.heap.size w wb := by rw [← hwb]; exact (Below.refl _ _).alloc (Nat.le_refl _) _
  have hX : wb.heap[w.heap.size]? = some (.cells #[.string line, .slice a L.length c] 32 (0, 0)) := by rw [← hwb]; exact heap_alloc_new w _
  have HX : Hid (∀ wi, Below wb.heap.size wb wi → wi.cell? ⟨w.heap.size, 0, none⟩ = some (.string line) ∧ wi.cell? ⟨w.heap.size, 1, none⟩ = some (.slice a L.length c)) := fun wi hi => KBz_cells ((hi.block _ (Array.getElem?_eq_some_iff.1 hX).1).trans hX)
  obtain ⟨b0, b1⟩ := KBz_cells hX
  rw [← hwb] at b0 b1
  have HW : Hid (w.alloc (.cells #[.string line, .slice a L.length c] 32) = wb) := hwb
  have HA : Hid (DAt wb a L wb.heap.size) := hA.on hbb
  have HB : Hid (Below w.heap.size w wb) := hbb
  have c1 := bodyFields_any wb a c line L HA.out hz
  obtain ⟨R, hR⟩ : ∃ R, answerS line L body = R := ⟨_, rfl⟩
  rw [hR]
  have HZ : Hid (HdSz line L) := hz
  have HT : Hid (Lib.TabIs Tryz.prog w "internal/strconv.uint64pow10" .u64 Lib.pow10Tab) := htab
  unfold answerS at hR
  have HR : Hid _ := hR
  generalize (fieldOfS L clN).2 = g1 at c1 HR
  generalize (fieldOfS L teN).2 = g2 at c1 HR
  clear hwb hA hbb hX hz hR htab
  go_enter Tryz.func8, Tryz.ntmps8
  go_wp2_with fail
  rw [HW.out] at b0 b1 ⊢
  refine c1.mono ?_
  rintro e w1 ⟨rfl, hb1⟩
  have HB1 : Hid (Below w.heap.size w w1) := HB.out.trans (hb1.mono HB.out.size)
  clear c1 b0 b1
  cases g1 with
  | true =>
    have HE : Hid (R = (⟨#[]⟩, false)) := by show _ = _; rw [← HR.out, if_pos (by simp)]
    clear HR
    go_wp2_with fail
    go_ret2
    exact ⟨by rw [HE.out]; rfl, HB1.out⟩
  | false =>
  cases g2 with
  | true =>
    have HE : Hid (R = (⟨#[]⟩, false)) := by show _ = _; rw [← HR.out, if_pos (by simp)]
    clear HR
    go_wp2_with fail
    go_ret2
    exact ⟨by rw [HE.out]; rfl, HB1.out⟩
  | false =>
  by_cases h4 : 400 < body.size
  · have h4i : (400 : Int) < (body.size : Int) := by omega
    have HE : Hid (R = (⟨#[]⟩, false)) := by show _ = _; rw [← HR.out, if_pos (by simp [h4])]
    clear HR h4
    go_wp2_with fail
    go_ret2
    exact ⟨by rw [HE.out]; rfl, HB1.out⟩
  have h4i : ¬ (400 : Int) < (body.size : Int) := by omega
  have HR2 : Hid ((if headOkS line (ansF L body.size) = true then (headT line (ansF L body.size) ++ body, true) else (⟨#[]⟩, false)) = R) := by
    have h := HR.out
    rw [show decide (400 < body.size) = false from decide_eq_false h4] at h
    show _ = _
    cases hq : headOkS line (ansF L body.size) with
    | true => rw [hq] at h; simpa using h
    | false => rw [hq] at h; simpa using h
  have cD := implDecimal_any (body.size : Int) w1 (by omega) (by omega) (tab_below gPow HT.out HB1.out)
  obtain ⟨D, hD⟩ : ∃ D, decB body.size = D := ⟨_, rfl⟩
  have hDe : (⟨(decOf (body.size : Int)).toArray⟩ : ByteArray) = D := hD
  rw [hDe] at cD
  obtain ⟨M, hM⟩ : ∃ M, L ++ [(clN, D)] = M := ⟨_, rfl⟩
  have HAF : Hid (ansF L body.size = M) := by show _ = _; rw [← hM, ← hDe]; rfl
  have HZW : Hid (HdSw line M) := by show HdSw _ _; rw [← HAF.out]; exact ans_wide HZ.out body.size (by omega)
  have HDZ : Hid (L.length + 1 ≤ 1048600) := by show _ ≤ _; have := HZ.out; unfold HdSz at this; omega
  rw [HAF.out] at HR2
  obtain ⟨H1, hH1⟩ : ∃ x, (headTextS line M).1 = x := ⟨_, rfl⟩
  obtain ⟨H2, hH2⟩ : ∃ x, (headTextS line M).2 = x := ⟨_, rfl⟩
  have CT : Hid (∀ wi a5 k5, DAt wi a5 M wi.heap.size → Calls Tryz.prog 20 #[.agg #[.string line, .slice a5 M.length k5]] wi fun e w' => e = .returned (.tuple #[.string H1, .bool H2]) ∧ Below wi.heap.size wi w') := by
    intro wi a5 k5 h
    rw [← hH1, ← hH2]
    exact implHeadText_w wi a5 k5 line M h HZW.out
  have HH : Hid (headTextS line M = (H1, H2)) := by show _ = _; rw [← hH1, ← hH2]
  have HMM : Hid (L ++ [(clN, D)] = M) := hM
  clear HR hD hDe HAF HT h4 hM hH1 hH2
  go_wp2_with fail
  refine cD.mono ?_
  rintro e w2 ⟨rfl, hb2⟩
  have hb12 : Below wb.heap.size wb w2 := hb1.trans (hb2.mono hb1.size)
  obtain ⟨w3, hw3⟩ : ∃ x, w2.alloc (.cells #[.string ⟨#[99, 111, 110, 116, 101, 110, 116, 45, 108, 101, 110, 103, 116, 104]⟩, .string D] 29) = x := ⟨_, rfl⟩
  obtain ⟨T, hT⟩ : ∃ x, w2.heap.size = x := ⟨_, rfl⟩
  have hX3 : w3.heap[T]? = some (.cells #[.string ⟨#[99, 111, 110, 116, 101, 110, 116, 45, 108, 101, 110, 103, 116, 104]⟩, .string D] 29 (0, 0)) := by rw [← hw3, ← hT]; exact heap_alloc_new w2 _
  have hb3 : Below wb.heap.size wb w3 := by rw [← hw3]; exact hb12.alloc hb12.size _
  obtain ⟨d0, d1⟩ := KBz_cells hX3
  obtain ⟨x0, x1⟩ := HX.out w3 hb3
  have HB3 : Hid (Below w.heap.size w w3) := HB.out.trans (hb3.mono HB.out.size)
  have HA3 : Hid (DAt w3 a L w3.heap.size) := HA.out.on hb3
  have KS : ∀ W, Below w3.heap.size w3 W → Below w3.heap.size w3 W ∧ W.cell? ⟨w.heap.size, 0, none⟩ = some (.string line) ∧ W.cell? ⟨w.heap.size, 1, none⟩ = some (.slice a L.length c) ∧ W.cell? ⟨T, 0, none⟩ = some (.string ⟨#[99, 111, 110, 116, 101, 110, 116, 45, 108, 101, 110, 103, 116, 104]⟩) ∧ W.cell? ⟨T, 1, none⟩ = some (.string D) := fun W h => ⟨h, (h.cell (World.block_lt_of_cell? w3 _ x0)).trans x0, (h.cell (World.block_lt_of_cell? w3 _ x1)).trans x1, (h.cell (World.block_lt_of_cell? w3 _ d0)).trans d0, (h.cell (World.block_lt_of_cell? w3 _ d1)).trans d1⟩
  have hdr : Below w3.heap.size w3 w3.drew := ⟨rfl, rfl, rfl, Nat.le_refl _, fun _ _ => rfl⟩
  have hd1 : Below w3.heap.size w3 (w3.alloc (.cells #[.string ⟨#[99, 111, 110, 116, 101, 110, 116, 45, 108, 101, 110, 103, 116, 104]⟩, .string D] 29)).drew := ((Below.refl _ _).alloc (Nat.le_refl _) _).drew
  have hd2 : Below w3.heap.size w3 ((w3.alloc (.cells #[.string ⟨#[99, 111, 110, 116, 101, 110, 116, 45, 108, 101, 110, 103, 116, 104]⟩, .string D] 29)).alloc (.cells #[.slice a L.length c, .slice (some ⟨w3.heap.size, 0, none⟩) 1 1] 30)).drew := (((Below.refl _ _).alloc (Nat.le_refl _) _).alloc (by simp) _).drew
  have HCC : Hid (Calls Tryz.prog 21 #[.slice (some ⟨w3.heap.size + 1, 0, none⟩) 2 2] ((w3.alloc (.cells #[.string ⟨#[99, 111, 110, 116, 101, 110, 116, 45, 108, 101, 110, 103, 116, 104]⟩, .string D] 29)).alloc (.cells #[.slice a L.length c, .slice (some ⟨w3.heap.size, 0, none⟩) 1 1] 30)).drew fun e w' => ∃ v, e = .returned v ∧ OwnD w' (((w3.alloc (.cells #[.string ⟨#[99, 111, 110, 116, 101, 110, 116, 45, 108, 101, 110, 103, 116, 104]⟩, .string D] 29)).alloc (.cells #[.slice a L.length c, .slice (some ⟨w3.heap.size, 0, none⟩) 1 1] 30)).drew).heap.size 29 v M ∧ Below w3.heap.size w3 w') := by
    have h1 : DAt ((w3.alloc (.cells #[.string ⟨#[99, 111, 110, 116, 101, 110, 116, 45, 108, 101, 110, 103, 116, 104]⟩, .string D] 29)).alloc (.cells #[.slice a L.length c, .slice (some ⟨w3.heap.size, 0, none⟩) 1 1] 30)).drew (some ⟨w3.heap.size, 0, none⟩) [(clN, D)] ((w3.alloc (.cells #[.string ⟨#[99, 111, 110, 116, 101, 110, 116, 45, 108, 101, 110, 103, 116, 104]⟩, .string D] 29)).alloc (.cells #[.slice a L.length c, .slice (some ⟨w3.heap.size, 0, none⟩) 1 1] 30)).drew.heap.size := by
      have h : OwnD (w3.alloc (.cells #[.string clN, .string D] 29)) w3.heap.size 29 (.slice (some ⟨w3.heap.size, 0, none⟩) 1 1) [(clN, D)] :=
        World.ownsRow_lit (base := w3.heap.size) (e := 29) (size := 2) w3 #[.string clN, .string D] 1 (Nat.le_refl _) (by simp [maxLen]) (by rfl)
      obtain ⟨a9, c9, e9, hD⟩ := h.at
      injection e9 with e1 _ _
      rw [← e1] at hD
      exact hD.on (((Below.refl _ _).alloc (Nat.le_refl _) _).drew)
    have hvc : ((w3.alloc (.cells #[.string ⟨#[99, 111, 110, 116, 101, 110, 116, 45, 108, 101, 110, 103, 116, 104]⟩, .string D] 29)).alloc (.cells #[.slice a L.length c, .slice (some ⟨w3.heap.size, 0, none⟩) 1 1] 30)).drew.heap[w3.heap.size + 1]? = some (.cells #[.slice a L.length c, .slice (some ⟨w3.heap.size, 0, none⟩) 1 1] 30 (0, 0)) := by
      have h := heap_alloc_new (w3.alloc (.cells #[.string ⟨#[99, 111, 110, 116, 101, 110, 116, 45, 108, 101, 110, 103, 116, 104]⟩, .string D] 29)) (.cells #[.slice a L.length c, .slice (some ⟨w3.heap.size, 0, none⟩) 1 1] 30)
      rw [show (w3.alloc (.cells #[.string ⟨#[99, 111, 110, 116, 101, 110, 116, 45, 108, 101, 110, 103, 116, 104]⟩, .string D] 29)).heap.size = w3.heap.size + 1 by simp] at h
      exact h
    have h2 := concatD_any ((w3.alloc (.cells #[.string ⟨#[99, 111, 110, 116, 101, 110, 116, 45, 108, 101, 110, 103, 116, 104]⟩, .string D] 29)).alloc (.cells #[.slice a L.length c, .slice (some ⟨w3.heap.size, 0, none⟩) 1 1] 30)).drew (w3.heap.size + 1) a (some ⟨w3.heap.size, 0, none⟩) c 1 L [(clN, D)]
      (KBz_cells hvc).1 (KBz_cells hvc).2 (Array.getElem?_eq_some_iff.1 hvc).1 (HA3.out.on hd2) h1 HDZ.out
    refine h2.mono ?_
    rintro e w' ⟨v, he, ho, hbw⟩
    rw [HMM.out] at ho
    exact ⟨v, he, ho, hd2.trans (hbw.mono hd2.size)⟩
  clear cD hb1 hb2 hb12 hb3 hX3 HX
  go_wp2_with fail
  go_region_held3 (fun W => Below w3.heap.size w3 W ∧ W.cell? ⟨w.heap.size, 0, none⟩ = some (.string line) ∧ W.cell? ⟨w.heap.size, 1, none⟩ = some (.slice a L.length c) ∧ W.cell? ⟨T, 0, none⟩ = some (.string ⟨#[99, 111, 110, 116, 101, 110, 116, 45, 108, 101, 110, 103, 116, 104]⟩) ∧ W.cell? ⟨T, 1, none⟩ = some (.string D)) (first | with_reducible exact KS _ hdr | with_reducible exact KS _ hd1 | with_reducible exact KS _ hd2 | with_reducible exact KS _ hC | with_reducible exact KS _ hD)
    (first
      | (go_at_call 21; with_reducible refine HCC.out.mono ?_; rintro e w5 ⟨v5, rfl, ho5, hC⟩; obtain ⟨a5, k5, rfl, hA5⟩ := ho5.at)
      | (go_at_call 20; refine (CT.out _ a5 k5 hA5).mono ?_; rintro e w6 ⟨rfl, hb6⟩; have hD : Below w3.heap.size w3 w6 := hC.trans (hb6.mono hC.size)))
  have HB6 : Hid (Below w.heap.size w w6) := HB3.out.trans (hD.mono HB3.out.size)
  clear KS hdr hd1 hd2 HCC CT hC hD hb6 ho5 hA5 d0 d1 x0 x1 hw3 hT
  cases hok : headOkS line M with
  | false =>
    have e1 : (H1, H2) = (⟨#[]⟩, false) := by rw [← HH.out]; unfold headTextS; rw [hok]; rfl
    injection e1 with e2 e3
    subst e3
    have HE : Hid (R = (⟨#[]⟩, false)) := by show _ = _; rw [← HR2.out, hok]; rfl
    clear HH HR2 hok e2
    go_wp2_with fail
    go_ret2
    exact ⟨by rw [HE.out]; rfl, HB6.out⟩
  | true =>
    have e1 : (H1, H2) = (headT line M, true) := by rw [← HH.out]; unfold headTextS; rw [hok]; rfl
    injection e1 with e2 e3
    subst e3
    have HE : Hid (R = (H1 ++ body, true)) := by show _ = _; rw [← HR2.out, hok, e2]; rfl
    have h300 : H1.size ≤ 300 := by
      rw [e2]
      unfold headOkS at hok
      simp only [Bool.and_eq_true, decide_eq_true_eq] at hok
      exact hok.2
    have a1 := fun w => run_string_add_sum (P := Tryz.prog) (w := w) H1 body (by omega)
    generalize H1 ++ body = S at a1 HE
    clear HH HR2 hok e2
    go_wp2_with fail
    go_ret2
    exact ⟨by rw [HE.out]; rfl, HB6.out⟩
end Go.Proofs.YtnnaphfeeobelaeGreatDoor
