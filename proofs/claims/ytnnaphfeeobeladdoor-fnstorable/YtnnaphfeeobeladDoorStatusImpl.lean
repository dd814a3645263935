/- The program's StatusOf. -/
import Derived.Test.YtnnaphfeeobeladDoorStatusPlain
import Derived.Test.YtnnaphfeeobeladDoorFieldOfImpl
import Derived.Test.YtnnaphfeeobeladDoorReadDec
namespace Go.Proofs.YtnnaphfeeobeladDoor
open Go.RowKit Go.Sort
theorem rdF3 (x y z : UInt8) : rdF 0 0 [x, y, z] = (if (digB x.toNat && digB y.toNat && digB z.toNat && !decide (x.toNat = 48)) = true then some (100 * (x.toNat - 48) + 10 * (y.toNat - 48) + (z.toNat - 48)) else none) := by
  have hx := x.toNat_lt
  have hy := y.toNat_lt
  have hz := z.toNat_lt
  by_cases dx : 48 ≤ x.toNat ∧ x.toNat ≤ 57
  · rw [rdF_on (by omega) dx (by omega)]
    have d0 : dOf x = x.toNat - 48 := rfl
    rw [d0]
    by_cases ex : x.toNat = 48
    · rw [rdF_no (.inr (.inr ⟨rfl, by omega⟩)), decide_eq_true ex, if_neg (by simp)]
    · by_cases dy : 48 ≤ y.toNat ∧ y.toNat ≤ 57
      · rw [rdF_on (by omega) dy (by omega)]
        have d1 : dOf y = y.toNat - 48 := rfl
        rw [d1]
        by_cases dz : 48 ≤ z.toNat ∧ z.toNat ≤ 57
        · rw [rdF_on (by omega) dz (by omega)]
          have d2 : dOf z = z.toNat - 48 := rfl
          rw [d2, rdF, if_neg (by omega), if_pos (by unfold digB; rw [decide_eq_true dx, decide_eq_true dy, decide_eq_true dz, decide_eq_false ex]; rfl)]
          congr 1
          omega
        · rw [rdF_no (.inr (.inl (by omega))), if_neg (by unfold digB; rw [decide_eq_false dz]; simp)]
      · rw [rdF_no (.inr (.inl (by omega))), if_neg (by unfold digB; rw [decide_eq_false dy]; simp)]
  · rw [rdF_no (.inr (.inl (by omega))), if_neg (by unfold digB; rw [decide_eq_false dx]; simp)]
theorem statusS_cut {line rest : ByteArray} (hp : Lib.hasPrefix line.data.toList stL = true) (hr : rest.data.toList = line.data.toList.drop 9) (h3 : 3 < rest.size) :
    13 ≤ line.size ∧ stOk line = decide (byteAt line 12 = 32) ∧ (∀ q, byteAt rest q = byteAt line (9 + q)) ∧ (rest.extract 0 3).data.toList = [line.data.toList.getD 9 0, line.data.toList.getD 10 0, line.data.toList.getD 11 0] := by
  have hs := Lib.size_eq line
  have hrs := Lib.size_eq rest
  rw [hr, List.length_drop] at hrs
  have h13 : 13 ≤ line.size := by omega
  refine ⟨h13, ?_, ?_, ?_⟩
  · unfold stOk
    have hpp : ((line.extract 0 9).toList == stL) = true := by
      rw [Lib.extract_toList, List.drop_zero]
      have := Lib.hasPrefix_of_take line.data.toList stL
      rw [hp] at this
      simp only [Bool.and_eq_true] at this
      exact this.2
    rw [decide_eq_true h13, hpp]
    rfl
  · intro q
    unfold byteAt
    rw [hr, List.getD_eq_getElem?_getD, List.getD_eq_getElem?_getD, List.getElem?_drop]
  · rw [Lib.extract_data, hr, List.drop_zero]
    rw [List.drop_eq_getElem_cons (show 9 < line.data.toList.length by omega), List.drop_eq_getElem_cons (show 10 < line.data.toList.length by omega), List.drop_eq_getElem_cons (show 11 < line.data.toList.length by omega)]
    have hq : ∀ q (h : q < line.data.toList.length), line.data.toList.getD q 0 = line.data.toList[q] := fun q h => by rw [List.getD_eq_getElem?_getD, List.getElem?_eq_getElem h]; rfl
    rw [hq 9 (by omega), hq 10 (by omega), hq 11 (by omega)]
    rfl
set_option maxRecDepth 100000 in
set_option maxHeartbeats 4000000 in
theorem implStatusOf_any (w : World) (a : Option Addr) (c : Nat) (line : ByteArray) (L : List (ByteArray × ByteArray)) (_ : DAt w a L w.heap.size) (_ : HdSz line L) :
    Calls Tryd.prog 74 #[.agg #[.string line, .slice a L.length c]] w fun e w' => e = .returned (.tuple #[.int .i64 (statusS line).1, .bool (statusS line).2]) ∧ Below w.heap.size w w' := by
  obtain ⟨wb, hwb⟩ : ∃ wb, w.alloc (.cells #[.string line, .slice a L.length c] 27) = wb := ⟨_, rfl⟩
  have hb : Below w.heap.size w wb := by rw [← hwb]; exact (Below.refl _ _).alloc (Nat.le_refl _) _
  have hX : wb.heap[w.heap.size]? = some (.cells #[.string line, .slice a L.length c] 27 (0, 0)) := by rw [← hwb]; exact heap_alloc_new w _
  have HW : Hid (w.alloc (.cells #[.string line, .slice a L.length c] 27) = wb) := hwb
  obtain ⟨b0, b1⟩ := KBz_cells hX
  rw [← hwb] at b0 b1
  have hsz := Lib.size_eq line
  obtain ⟨R, hR⟩ : ∃ R, statusS line = R := ⟨_, rfl⟩
  rw [hR]
  have HR : Hid (statusS line = R) := hR
  obtain ⟨rest, hrest⟩ : ∃ r : ByteArray, (⟨(Lib.trimPrefix line.data.toList stL).toArray⟩ : ByteArray) = r := ⟨_, rfl⟩
  have hrl : rest.data.toList = Lib.trimPrefix line.data.toList stL := by rw [← hrest]
  have c1 := Tryd.strings_CutPrefix line ⟨#[72, 84, 84, 80, 47, 49, 46, 49, 32]⟩ wb
  rw [show (⟨#[72, 84, 84, 80, 47, 49, 46, 49, 32]⟩ : ByteArray).data.toList = stL from rfl, hrest] at c1
  clear hwb hX hR hrest
  cases hp : Lib.hasPrefix line.data.toList stL with
  | false =>
    rw [hp] at c1
    have HP : Hid (R = (0, false)) := by
      show _ = _
      rw [← HR.out]
      refine statusS_no (.inl ?_)
      unfold stOk
      by_cases h13 : 13 ≤ line.size
      · have : ((line.extract 0 9).toList == stL) = false := by
          rw [Lib.extract_toList, List.drop_zero]
          have h := Lib.hasPrefix_of_take line.data.toList stL
          rw [hp, decide_eq_true (by show 9 ≤ _; omega), Bool.true_and] at h
          exact h
        rw [this]; simp
      · rw [decide_eq_false h13]; rfl
    clear hp hrl hsz HR
    go_enter Tryd.func74, Tryd.ntmps74
    go_wp2_with fail
    rw [HW.out] at b0 b1 ⊢
    refine c1.mono ?_
    rintro e w1 ⟨rfl, hw1⟩
    rw [hw1]
    go_wp2_with fail
    go_ret2
    exact ⟨by rw [HP.out]; rfl, hb⟩
  | true =>
    rw [hp] at c1
    have hrd : rest.data.toList = line.data.toList.drop 9 := by rw [hrl]; unfold Lib.trimPrefix; rw [if_pos hp]; rfl
    have hrz : rest.size = line.size - 9 := by rw [Lib.size_eq, hrd, List.length_drop, hsz]
    by_cases h3 : rest.size ≤ 3
    · have h3' : (rest.size : Int) ≤ 3 := by omega
      have HP : Hid (R = (0, false)) := by
        show _ = _
        rw [← HR.out]
        refine statusS_no (.inl ?_)
        unfold stOk
        rw [decide_eq_false (by omega)]
        rfl
      clear hp hrl hsz HR hrz hrd
      go_enter Tryd.func74, Tryd.ntmps74
      go_wp2_with fail
      rw [HW.out] at b0 b1 ⊢
      refine c1.mono ?_
      rintro e w1 ⟨rfl, hw1⟩
      rw [hw1]
      go_wp2_with fail
      go_ret2
      exact ⟨by rw [HP.out]; rfl, hb⟩
    · have h3' : ¬ (rest.size : Int) ≤ 3 := by omega
      have h3i : (3 : Int) < (rest.size : Int) := by omega
      have h3n : 3 < rest.size := by omega
      obtain ⟨h13, hO, hAt, hE⟩ := statusS_cut hp hrd (by omega)
      obtain ⟨x, hx⟩ : ∃ x, rest[3] = x := ⟨_, rfl⟩
      have hxl : x.toNat < 256 := x.toNat_lt
      have hxa : byteAt line 12 = x.toNat := by rw [← hAt 3, byteAt_at h3n, hx]
      rw [hxa] at hO
      have HO : Hid (stOk line = decide (x.toNat = 32)) := hO
      have s1 := fun w => run_slice_string_h (P := Tryd.prog) w 9 rest Tryd.underlying9 .i64 3 (by omega) (by omega)
      rw [show (3 : Int).toNat = 3 from rfl] at s1
      have hez : (rest.extract 0 3).size ≤ 1048576 := by rw [Lib.size_eq, hE]; show 3 ≤ _; omega
      have cD := implReadDecimal_any (rest.extract 0 3) wb hez
      rw [hE, rdF3] at cD
      generalize rest.extract 0 3 = d3 at s1 cD
      have hB9 : byteAt line 9 = (line.data.toList.getD 9 0).toNat := rfl
      have hB10 : byteAt line 10 = (line.data.toList.getD 10 0).toNat := rfl
      have hB11 : byteAt line 11 = (line.data.toList.getD 11 0).toNat := rfl
      rw [← hB9, ← hB10, ← hB11] at cD
      have HDg : Hid (stDig line = (digB (byteAt line 9) && digB (byteAt line 10) && digB (byteAt line 11))) := rfl
      have HSv : Hid (stDig line = true → stv line 3 = 100 * (byteAt line 9 - 48) + 10 * (byteAt line 10 - 48) + (byteAt line 11 - 48)) := by
        intro h
        unfold stDig at h
        simp only [Bool.and_eq_true, digB, decide_eq_true_eq] at h
        show 10 * (10 * (10 * 0 + byteAt line 9 - 48) + byteAt line 10 - 48) + byteAt line 11 - 48 = _
        omega
      generalize byteAt line 9 = p at cD HDg HSv
      generalize byteAt line 10 = q at cD HDg HSv
      generalize byteAt line 11 = r at cD HDg HSv
      clear hp hrl hsz hrz hrd hO hAt hE hez hB9 hB10 hB11 hxa h13 h3
      by_cases ex : x.toNat = 32
      · have ex1 : ((x.toNat : Int) != 32) = false := by simp [ex]
        have HO2 : Hid (stOk line = true) := by show _ = _; rw [HO.out, decide_eq_true ex]
        clear ex HO
        cases hg : (digB p && digB q && digB r && !decide (p = 48)) with
        | false =>
          rw [hg, if_neg (by simp)] at cD
          have HP : Hid (R = (0, false)) := by
            show _ = _
            rw [← HR.out]
            cases hd : (digB p && digB q && digB r) with
            | false => exact statusS_no (.inr (.inl (by rw [HDg.out]; exact hd)))
            | true =>
              rw [hd, Bool.true_and, Bool.not_eq_false', decide_eq_true_eq] at hg
              have hdd := hd
              simp only [Bool.and_eq_true, digB, decide_eq_true_eq] at hdd
              refine statusS_no (.inr (.inr ?_))
              rw [HSv.out (by rw [HDg.out]; exact hd)]
              omega
          clear hg HR
          rw [show ((none : Option Nat).getD 0 : Int) = 0 from rfl, show (none : Option Nat).isSome = false from rfl] at cD
          go_enter Tryd.func74, Tryd.ntmps74
          go_wp2_with fail
          rw [HW.out] at b0 b1 ⊢
          refine c1.mono ?_
          rintro e w1 ⟨rfl, hw1⟩
          rw [hw1]
          go_wp2_with fail
          refine cD.mono ?_
          rintro e w2 ⟨rfl, hb2⟩
          go_wp2_with fail
          go_ret2
          exact ⟨by rw [HP.out]; rfl, hb.trans (hb2.mono hb.size)⟩
        | true =>
          rw [hg, if_pos rfl] at cD
          simp only [Bool.and_eq_true, Bool.not_eq_true', decide_eq_false_iff_not] at hg
          have HD : Hid (stDig line = true) := by show _ = _; rw [HDg.out, hg.1.1.1, hg.1.1.2, hg.1.2]; rfl
          have hv := HSv.out HD.out
          obtain ⟨m, hm⟩ : ∃ m, 100 * (p - 48) + 10 * (q - 48) + (r - 48) = m := ⟨_, rfl⟩
          rw [hm] at cD hv
          have HV : Hid (stv line 3 = m) := hv
          have hp1 : 48 ≤ p ∧ p ≤ 57 := by have := hg.1.1.1; simpa [digB] using this
          have hq1 : 48 ≤ q ∧ q ≤ 57 := by have := hg.1.1.2; simpa [digB] using this
          have hr1 : 48 ≤ r ∧ r ≤ 57 := by have := hg.1.2; simpa [digB] using this
          have hm1 : 100 ≤ m := by have := hg.2; omega
          have hm2 : m ≤ 999 := by omega
          rw [show ((some m).getD 0 : Nat) = m from rfl, show (some m).isSome = true from rfl] at cD
          have hmi : ¬ (m : Int) < 100 := by omega
          clear hm hg hv hp1 hq1 hr1 HSv HDg
          by_cases h5 : m ≤ 599
          · have h5i : ¬ (599 : Int) < (m : Int) := by omega
            have HP : Hid (R = ((m : Int), true)) := by show _ = _; rw [← HR.out, statusS_yes HO2.out HD.out (by rw [HV.out]; exact ⟨hm1, h5⟩), HV.out]
            go_enter Tryd.func74, Tryd.ntmps74
            go_wp2_with fail
            rw [HW.out] at b0 b1 ⊢
            refine c1.mono ?_
            rintro e w1 ⟨rfl, hw1⟩
            rw [hw1]
            go_wp2_with fail
            refine cD.mono ?_
            rintro e w2 ⟨rfl, hb2⟩
            go_wp2_with fail
            go_ret2
            exact ⟨by rw [HP.out]; rfl, hb.trans (hb2.mono hb.size)⟩
          · have h5i : (599 : Int) < (m : Int) := by omega
            have HP : Hid (R = (0, false)) := by show _ = _; rw [← HR.out]; exact statusS_no (.inr (.inr (by rw [HV.out]; omega)))
            go_enter Tryd.func74, Tryd.ntmps74
            go_wp2_with fail
            rw [HW.out] at b0 b1 ⊢
            refine c1.mono ?_
            rintro e w1 ⟨rfl, hw1⟩
            rw [hw1]
            go_wp2_with fail
            refine cD.mono ?_
            rintro e w2 ⟨rfl, hb2⟩
            go_wp2_with fail
            go_ret2
            exact ⟨by rw [HP.out]; rfl, hb.trans (hb2.mono hb.size)⟩
      · have HP : Hid (R = (0, false)) := by show _ = _; rw [← HR.out]; exact statusS_no (.inl (by rw [HO.out, decide_eq_false ex]))
        have ex1 : ((x.toNat : Int) != 32) = true := by rw [bne_iff_ne]; omega
        clear HR HO cD s1
        go_enter Tryd.func74, Tryd.ntmps74
        go_wp2_with fail
        rw [HW.out] at b0 b1 ⊢
        refine c1.mono ?_
        rintro e w1 ⟨rfl, hw1⟩
        rw [hw1]
        go_wp2_with fail
        go_ret2
        exact ⟨by rw [HP.out]; rfl, hb⟩
end Go.Proofs.YtnnaphfeeobeladDoor
