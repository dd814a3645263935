/- The other text's TargetOf. -/
import Derived.Test.YtnnaphfeeobeladDoorTargetPlainJ
import Derived.Test.YtnnaphfeeobeladDoorFieldOfSpec
namespace Go.Proofs.YtnnaphfeeobeladDoor
open Go.RowKit Go.Sort
set_option maxRecDepth 100000 in
set_option maxHeartbeats 4000000 in
theorem specTargetOf_any (w : World) (a : Option Addr) (c : Nat) (line : ByteArray) (L : List (ByteArray × ByteArray)) (_ : DAt w a L w.heap.size) (hz : HdSz line L) :
    Calls Tryd.prog 76 #[.agg #[.string line, .slice a L.length c]] w fun e w' => e = .returned (.tuple #[.string (targetS line).1, .bool (targetS line).2]) ∧ Below w.heap.size w w' := by
  obtain ⟨wb, hwb⟩ : ∃ wb, w.alloc (.cells #[.string line, .slice a L.length c] 27) = wb := ⟨_, rfl⟩
  have hb : Below w.heap.size w wb := by rw [← hwb]; exact (Below.refl _ _).alloc (Nat.le_refl _) _
  have hX : KBy wb w.heap.size (.string line) (.slice a L.length c) := by rw [← hwb]; exact heap_alloc_new w _
  have HW : Hid (w.alloc (.cells #[.string line, .slice a L.length c] 27) = wb) := hwb
  obtain ⟨b0, b1⟩ := hX.cells
  rw [← hwb] at b0 b1
  unfold HdSz at hz
  obtain ⟨R, hR⟩ : ∃ R, targetS line = R := ⟨_, rfl⟩
  rw [hR]
  have HR : Hid (targetS line = R) := hR
  clear hwb hR hX
  by_cases h14 : line.size < 14
  · have h14' : (line.size : Int) < 14 := by omega
    have HP : Hid (R = (⟨#[]⟩, false)) := by
      show _ = _
      rw [← HR.out]
      apply targetS_no
      by_cases h13 : line.size < 13
      · exact .inl (tgtLine_short h13)
      · right
        unfold tgtOk
        rw [decide_eq_false (by rw [tgtOf_size]; omega)]
        rfl
    clear HR
    go_enter Tryd.func76, Tryd.ntmps76
    go_wp2
    go_ret2
    exact ⟨by rw [HP.out]; rfl, by rw [HW.out]; exact hb⟩
  · have h14' : ¬ (line.size : Int) < 14 := by omega
    have hL := tgtLine_at (show 13 ≤ line.size by omega)
    have hT := tgtOf_at line
    have s1 := fun w => run_slice_string_h (P := Tryd.prog) w 9 line Tryd.underlying9 .i64 4 (by omega) (by omega)
    have s2 := fun w => run_slice_string_l (P := Tryd.prog) w 9 line Tryd.underlying9 .i64 ((line.size : Int) - 9) (by omega) (by omega)
    have s3 := fun w => run_slice_string (P := Tryd.prog) (w := w) 9 line .i64 .i64 4 ((line.size : Int) - 9) Tryd.underlying9 (by omega) (by omega) (by omega)
    have e9 : ((line.size : Int) - 9).toNat = line.size - 9 := by omega
    have e4 : (4 : Int).toNat = 4 := rfl
    rw [e4] at s1
    rw [e9] at s2
    rw [e9, e4] at s3
    have hsub : IntKind.i64.wrap ((line.size : Int) - 9) = (line.size : Int) - 9 := by rw [IntKind.wrap_i64]; omega
    generalize line.extract 0 4 = g1 at s1 hL
    generalize line.extract (line.size - 9) line.size = g2 at s2 hL
    have hTz := tgtOf_size line
    rw [hT] at hTz
    generalize line.extract 4 (line.size - 9) = t at s3 hT hTz
    have htz : t.size + 13 = line.size := by omega
    have cI := in_any (t.size : Int) 1 20 wb
    have HT : Hid (tgtOf line = t) := hT
    clear hT hTz e9 e4
    have w1 : (g1.toList == getL) = (g1.toList == (⟨#[71, 69, 84, 32]⟩ : ByteArray).toList) := by rw [ByteArray.toList_eq ⟨#[71, 69, 84, 32]⟩]; rfl
    have w2 : (g2.toList == httpL) = (g2.toList == (⟨#[32, 72, 84, 84, 80, 47, 49, 46, 49]⟩ : ByteArray).toList) := by rw [ByteArray.toList_eq ⟨#[32, 72, 84, 84, 80, 47, 49, 46, 49]⟩]; rfl
    cases e1 : (g1.toList == getL) with
    | false =>
      rw [e1] at w1 hL
      have HP : Hid (R = (⟨#[]⟩, false)) := by show _ = _; rw [← HR.out]; exact targetS_no (.inl (by rw [hL]; rfl))
      have w1' : (g1.toList == [71, 69, 84, 32]) = false := e1
      have w1'' : (g1.toList != [71, 69, 84, 32]) = true := by rw [bne, w1']; rfl
      have w1s := w1.symm
      clear HR e1 w1 hL w2 cI
      go_enter Tryd.func76, Tryd.ntmps76
      go_wp2_with fail
      go_ret2
      exact ⟨by rw [HP.out]; rfl, by rw [HW.out]; exact hb⟩
    | true =>
      rw [e1] at w1 hL
      have w1' : (g1.toList == [71, 69, 84, 32]) = true := e1
      have w1'' : (g1.toList != [71, 69, 84, 32]) = false := by rw [bne, w1']; rfl
      have w1s := w1.symm
      clear e1 w1
      cases e2 : (g2.toList == httpL) with
      | false =>
        rw [e2] at w2 hL
        have HP : Hid (R = (⟨#[]⟩, false)) := by show _ = _; rw [← HR.out]; exact targetS_no (.inl (by rw [hL]; rfl))
        have w2' : (g2.toList == [32, 72, 84, 84, 80, 47, 49, 46, 49]) = false := e2
        have w2'' : (g2.toList != [32, 72, 84, 84, 80, 47, 49, 46, 49]) = true := by rw [bne, w2']; rfl
        have w2s := w2.symm
        clear HR e2 w2 hL cI
        go_enter Tryd.func76, Tryd.ntmps76
        go_wp2_with fail
        go_ret2
        exact ⟨by rw [HP.out]; rfl, by rw [HW.out]; exact hb⟩
      | true =>
        rw [e2] at w2 hL
        have HL : Hid (tgtLine line = true) := hL
        have w2' : (g2.toList == [32, 72, 84, 84, 80, 47, 49, 46, 49]) = true := e2
        have w2'' : (g2.toList != [32, 72, 84, 84, 80, 47, 49, 46, 49]) = false := by rw [bne, w2']; rfl
        have w2s := w2.symm
        clear e2 w2 hL
        have htb : t.size ≤ 1048576 := by omega
        have HZ : Hid (t.size + 13 = line.size) := htz
        clear htz
        go_enter Tryd.func76, Tryd.ntmps76
        go_wp2_with fail
        rw [HW.out] at b0 b1 ⊢
        clear b0 b1 w1' w1'' w1s w2' w2'' w2s s1 s2 s3 hsub h14' h14
        go_loopw [6] (fun i wr => Box (∃ k : Nat, k ≤ t.size ∧ i = .int .i64 k ∧ Hid (∀ q (hq : q < t.size), q < k → tgtB t[q].toNat = true) ∧ wr = wb))
          (fun i _ => t.size - (intOf i).toNat)
        case atStart => exact ⟨⟨0, by omega, rfl, fun q _ hq => absurd hq (Nat.not_lt_zero _), rfl⟩⟩
        case round =>
          obtain ⟨k, hk, rfl, HN, hwr⟩ := hrel.out
          clear hrel
          rw [hwr]
          clear hwr
          by_cases hlt : k < t.size
          · obtain ⟨b, hb'⟩ : ∃ b, t[k] = b := ⟨_, rfl⟩
            have HB : Hid (t[k] = b) := hb'
            have hbl : b.toNat < 256 := b.toNat_lt
            clear cI
            rcases (show b.toNat < 33 ∨ 126 < b.toNat ∨ (33 ≤ b.toNat ∧ b.toNat ≤ 126) by omega) with g1 | g1 | ⟨g1, g2⟩
            · have HP : Hid (R = (⟨#[]⟩, false)) := by show _ = _; rw [← HR.out]; refine targetS_no (.inr ?_); rw [HT.out]; unfold tgtOk; rw [allB_no hlt (by rw [hb']; unfold tgtB; exact decide_eq_false (by omega))]; simp
              go_wp2
              go_ret2
              exact ⟨by rw [HP.out]; rfl, hb⟩
            · have HP : Hid (R = (⟨#[]⟩, false)) := by show _ = _; rw [← HR.out]; refine targetS_no (.inr ?_); rw [HT.out]; unfold tgtOk; rw [allB_no hlt (by rw [hb']; unfold tgtB; exact decide_eq_false (by omega))]; simp
              go_wp2
              go_ret2
              exact ⟨by rw [HP.out]; rfl, hb⟩
            · have HP : Hid (tgtB b.toNat = true) := by show _ = _; unfold tgtB; exact decide_eq_true ⟨g1, g2⟩
              go_wp2
              go_roundw
              case rel =>
                try ((repeat apply Exists.intro); refine ⟨?_, rfl⟩)
                refine ⟨⟨k + 1, by omega, by go_num, fun q hq hqk => ?_, by first | rfl | trivial⟩⟩
                by_cases e : q = k
                · subst e; rw [HB.out]; exact HP.out
                · exact HN.out q hq (by omega)
              case measure => simp [intOf]; omega
          · have hi : ¬ (k : Int) < (t.size : Int) := by omega
            have HA : Hid (allB tgtB t = true) := allB_go fun q hq => HN.out q hq (by omega)
            by_cases hin : 1 ≤ t.size ∧ t.size ≤ 20
            · have hi1 : inN (t.size : Int) 1 20 = true := decide_eq_true (by omega)
              rw [hi1] at cI
              have h0 : 0 < t.size := by omega
              have h0i : (0 : Int) < (t.size : Int) := by omega
              obtain ⟨x, hx⟩ : ∃ x, t[0] = x := ⟨_, rfl⟩
              have hxl : x.toNat < 256 := x.toNat_lt
              have HOK : Hid (tgtOk t = decide (x = 47)) := by show _ = _; unfold tgtOk; rw [decide_eq_true hin, HA.out, first_at h0, hx]; rfl
              by_cases ex : x = 47
              · have HP : Hid (R = (t, true)) := by show _ = _; rw [← HR.out, targetS_yes HL.out (by rw [HT.out, HOK.out, decide_eq_true ex]), HT.out]
                have ex1 : ((x.toNat : Int) != 47) = false := by rw [ex]; rfl
                clear ex
                go_wp2_with fail
                refine cI.mono ?_
                rintro e w' ⟨rfl, hw'⟩
                rw [hw']
                go_wp2_with fail
                go_ret2
                exact ⟨by rw [HP.out]; rfl, hb⟩
              · have HP : Hid (R = (⟨#[]⟩, false)) := by show _ = _; rw [← HR.out]; exact targetS_no (.inr (by rw [HT.out, HOK.out, decide_eq_false ex]))
                have ex0 : ¬ x.toNat = 47 := fun e => ex (UInt8.toNat_inj.1 e)
                have ex1 : ((x.toNat : Int) != 47) = true := by rw [bne_iff_ne]; omega
                clear ex
                go_wp2_with fail
                refine cI.mono ?_
                rintro e w' ⟨rfl, hw'⟩
                rw [hw']
                go_wp2_with fail
                go_ret2
                exact ⟨by rw [HP.out]; rfl, hb⟩
            · have hi1 : inN (t.size : Int) 1 20 = false := decide_eq_false (by omega)
              rw [hi1] at cI
              have HP : Hid (R = (⟨#[]⟩, false)) := by show _ = _; rw [← HR.out]; refine targetS_no (.inr ?_); rw [HT.out]; unfold tgtOk; rw [decide_eq_false hin]; rfl
              go_wp2_with fail
              refine cI.mono ?_
              rintro e w' ⟨rfl, hw'⟩
              rw [hw']
              go_wp2_with fail
              go_ret2
              exact ⟨by rw [HP.out]; rfl, hb⟩
end Go.Proofs.YtnnaphfeeobeladDoor
