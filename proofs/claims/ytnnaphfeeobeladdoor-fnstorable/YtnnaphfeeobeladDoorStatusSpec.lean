/- The other text's StatusOf. -/
import Derived.Test.YtnnaphfeeobeladDoorStatusPlain
import Derived.Test.YtnnaphfeeobeladDoorFieldOfSpec
namespace Go.Proofs.YtnnaphfeeobeladDoor
open Go.RowKit Go.Sort
set_option maxRecDepth 100000 in
set_option maxHeartbeats 4000000 in
theorem specStatusOf_any (w : World) (a : Option Addr) (c : Nat) (line : ByteArray) (L : List (ByteArray × ByteArray)) (_ : DAt w a L w.heap.size) (_ : HdSz line L) :
    Calls Tryd.prog 77 #[.agg #[.string line, .slice a L.length c]] w fun e w' => e = .returned (.tuple #[.int .i64 (statusS line).1, .bool (statusS line).2]) ∧ Below w.heap.size w w' := by
  obtain ⟨wb, hwb⟩ : ∃ wb, w.alloc (.cells #[.string line, .slice a L.length c] 27) = wb := ⟨_, rfl⟩
  have hb : Below w.heap.size w wb := by rw [← hwb]; exact (Below.refl _ _).alloc (Nat.le_refl _) _
  have hX : KBy wb w.heap.size (.string line) (.slice a L.length c) := by rw [← hwb]; exact heap_alloc_new w _
  have HW : Hid (w.alloc (.cells #[.string line, .slice a L.length c] 27) = wb) := hwb
  obtain ⟨b0, b1⟩ := hX.cells
  rw [← hwb] at b0 b1
  obtain ⟨R, hR⟩ : ∃ R, statusS line = R := ⟨_, rfl⟩
  rw [hR]
  have HR : Hid (statusS line = R) := hR
  clear hwb hR hX
  by_cases h13 : line.size < 13
  · have h13' : (line.size : Int) < 13 := by omega
    have HP : Hid (R = (0, false)) := by
      show _ = _
      rw [← HR.out]
      refine statusS_no (.inl ?_)
      unfold stOk
      rw [decide_eq_false (by omega)]
      rfl
    clear HR
    go_enter Tryd.func77, Tryd.ntmps77
    go_wp2
    go_ret2
    exact ⟨by rw [HP.out]; rfl, by rw [HW.out]; exact hb⟩
  · have h13' : ¬ (line.size : Int) < 13 := by omega
    have s1 := fun w => run_slice_string_h (P := Tryd.prog) w 9 line Tryd.underlying9 .i64 9 (by omega) (by omega)
    rw [show (9 : Int).toNat = 9 from rfl] at s1
    have HO : Hid (stOk line = (((line.extract 0 9).toList == stL) && decide (byteAt line 12 = 32))) := by show _ = _; unfold stOk; rw [decide_eq_true (show 13 ≤ line.size by omega)]; simp
    have h12 : 12 < line.size := by omega
    obtain ⟨x, hx⟩ : ∃ x, line[12] = x := ⟨_, rfl⟩
    have hxl : x.toNat < 256 := x.toNat_lt
    rw [byteAt_at h12, hx] at HO
    generalize line.extract 0 9 = g1 at s1 HO
    have w1 : (g1.toList == stL) = (g1.toList == (⟨#[72, 84, 84, 80, 47, 49, 46, 49, 32]⟩ : ByteArray).toList) := by rw [ByteArray.toList_eq ⟨#[72, 84, 84, 80, 47, 49, 46, 49, 32]⟩]; rfl
    have h12i : (12 : Int) < (line.size : Int) := by omega
    cases e1 : (g1.toList == stL) with
    | false =>
      rw [e1] at w1 HO
      have HP : Hid (R = (0, false)) := by show _ = _; rw [← HR.out]; exact statusS_no (.inl (by rw [HO.out]; rfl))
      have w1' : (g1.toList == [72, 84, 84, 80, 47, 49, 46, 49, 32]) = false := e1
      have w1'' : (g1.toList != [72, 84, 84, 80, 47, 49, 46, 49, 32]) = true := by rw [bne, w1']; rfl
      have w1s := w1.symm
      clear HR e1 w1 HO
      go_enter Tryd.func77, Tryd.ntmps77
      go_wp2_with fail
      go_ret2
      exact ⟨by rw [HP.out]; rfl, by rw [HW.out]; exact hb⟩
    | true =>
      rw [e1] at w1 HO
      have w1' : (g1.toList == [72, 84, 84, 80, 47, 49, 46, 49, 32]) = true := e1
      have w1'' : (g1.toList != [72, 84, 84, 80, 47, 49, 46, 49, 32]) = false := by rw [bne, w1']; rfl
      have w1s := w1.symm
      clear e1 w1
      by_cases ex : x.toNat = 32
      · have HO2 : Hid (stOk line = true) := by show _ = _; rw [HO.out, decide_eq_true ex]; rfl
        have ex1 : ((x.toNat : Int) != 32) = false := by simp [ex]
        clear HO
        go_enter Tryd.func77, Tryd.ntmps77
        go_wp2_with fail
        rw [HW.out] at b0 b1 ⊢
        clear b0 b1 w1' w1'' w1s s1 ex1 h13' ex h12i
        go_loopw [5, 6] (fun n i wr => Box (∃ k m : Nat, 9 ≤ k ∧ k ≤ 12 ∧ i = .int .i64 k ∧ n = .int .i64 m ∧ ((k = 9 ∧ m = 0) ∨ (k = 10 ∧ m ≤ 9) ∨ (k = 11 ∧ m ≤ 99) ∨ (k = 12 ∧ m ≤ 999)) ∧ Hid (∀ q, 9 ≤ q → q < k → digB (byteAt line q) = true) ∧ Hid (m = stv line (k - 9)) ∧ wr = wb))
          (fun _ i _ => 12 - (intOf i).toNat)
        case atStart => exact ⟨⟨9, 0, by omega, by omega, rfl, rfl, .inl ⟨rfl, rfl⟩, fun q h1 h2 => by omega, rfl, rfl⟩⟩
        case round =>
          obtain ⟨k, m, hk9, hk12, rfl, rfl, hmk, HN, HM, hwr⟩ := hrel.out
          clear hrel
          rw [hwr]
          clear hwr
          by_cases hlt : k < 12
          · have hks : k < line.size := by omega
            obtain ⟨b, hb'⟩ : ∃ b, line[k] = b := ⟨_, rfl⟩
            have HB : Hid (byteAt line k = b.toNat) := by show _ = _; rw [byteAt_at hks, hb']
            have hbl : b.toNat < 256 := b.toNat_lt
            have hki : (k : Int) < 12 := by omega
            have hk0 : (0 : Int) ≤ (k : Int) := by omega
            have hmb : m ≤ 999 := by omega
            have HMK : Hid ((k = 9 ∧ m = 0) ∨ (k = 10 ∧ m ≤ 9) ∨ (k = 11 ∧ m ≤ 99) ∨ (k = 12 ∧ m ≤ 999)) := hmk
            clear hmk
            rcases (show b.toNat < 48 ∨ 57 < b.toNat ∨ (48 ≤ b.toNat ∧ b.toNat ≤ 57) by omega) with g1 | g1 | ⟨g1, g2⟩
            · have HP : Hid (R = (0, false)) := by show _ = _; rw [← HR.out]; exact statusS_no (.inr (.inl (stDig_no hk9 hlt (by rw [HB.out]; exact decide_eq_false (by omega)))))
              go_wp2
              go_ret2
              exact ⟨by rw [HP.out]; rfl, hb⟩
            · have HP : Hid (R = (0, false)) := by show _ = _; rw [← HR.out]; exact statusS_no (.inr (.inl (stDig_no hk9 hlt (by rw [HB.out]; exact decide_eq_false (by omega)))))
              go_wp2
              go_ret2
              exact ⟨by rw [HP.out]; rfl, hb⟩
            · have HP : Hid (digB b.toNat = true) := decide_eq_true ⟨g1, g2⟩
              have HS : Hid (10 * m + b.toNat - 48 = stv line (k + 1 - 9)) := by
                show _ = _
                obtain ⟨j, hj⟩ : ∃ j, k = 9 + j := ⟨k - 9, by omega⟩
                have h1 := HM.out
                have h2 := HB.out
                subst hj
                rw [show 9 + j + 1 - 9 = j + 1 by omega]
                rw [show 9 + j - 9 = j by omega] at h1
                unfold stv
                rw [← h1, h2]
              go_wp2
              go_roundw
              case rel =>
                try ((repeat apply Exists.intro); refine ⟨?_, rfl⟩)
                have hmk := HMK.out
                refine ⟨⟨k + 1, 10 * m + b.toNat - 48, by omega, by omega, by go_num, by congr 1; omega, by omega, fun q hq hqk => ?_, HS, by first | rfl | trivial⟩⟩
                by_cases e : q = k
                · subst e; rw [HB.out]; exact HP.out
                · exact HN.out q hq (by omega)
              case measure => simp [intOf]; omega
          · have hke : k = 12 := by omega
            have hki : ¬ (k : Int) < 12 := by omega
            have HD : Hid (stDig line = true) := stDig_go fun q h1 h2 => HN.out q h1 (by omega)
            have HM3 : Hid (stv line 3 = m) := by show _ = _; rw [HM.out, hke]
            have cI := in_any (m : Int) 100 599 wb
            clear hmk hke
            by_cases hin : 100 ≤ m ∧ m ≤ 599
            · have hi1 : inN (m : Int) 100 599 = true := decide_eq_true (by omega)
              rw [hi1] at cI
              have HP : Hid (R = ((m : Int), true)) := by show _ = _; rw [← HR.out, statusS_yes HO2.out HD.out (by rw [HM3.out]; exact hin), HM3.out]
              go_wp2_with fail
              refine cI.mono ?_
              rintro e w' ⟨rfl, hw'⟩
              rw [hw']
              go_wp2_with fail
              go_ret2
              exact ⟨by rw [HP.out]; rfl, hb⟩
            · have hi1 : inN (m : Int) 100 599 = false := decide_eq_false (by omega)
              rw [hi1] at cI
              have HP : Hid (R = (0, false)) := by show _ = _; rw [← HR.out]; exact statusS_no (.inr (.inr (by rw [HM3.out]; exact hin)))
              go_wp2_with fail
              refine cI.mono ?_
              rintro e w' ⟨rfl, hw'⟩
              rw [hw']
              go_wp2_with fail
              go_ret2
              exact ⟨by rw [HP.out]; rfl, hb⟩
      · have HP : Hid (R = (0, false)) := by show _ = _; rw [← HR.out]; exact statusS_no (.inl (by rw [HO.out, decide_eq_false ex]; rfl))
        have ex1 : ((x.toNat : Int) != 32) = true := by rw [bne_iff_ne]; omega
        clear HR HO
        go_enter Tryd.func77, Tryd.ntmps77
        go_wp2_with fail
        go_ret2
        exact ⟨by rw [HP.out]; rfl, by rw [HW.out]; exact hb⟩
end Go.Proofs.YtnnaphfeeobeladDoor
