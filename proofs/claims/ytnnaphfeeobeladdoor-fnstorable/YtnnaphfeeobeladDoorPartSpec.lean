/- The other text takes a part into what is told. -/
import Derived.Test.YtnnaphfeeobeladDoorControlSpec
import Derived.Test.YtnnaphfeeobeladDoorCtBox
namespace Go.Proofs.YtnnaphfeeobeladDoor
open Go.RowKit Go.Sort
set_option maxRecDepth 100000 in
set_option maxHeartbeats 8000000 in
theorem specPart_any (w : World) (T : Nat) (c : Ct) (s : ByteArray) (h : CtB w T c) (hs : s.size ≤ 1048576) :
    Calls Tryd.prog 70 #[.pointer (some ⟨T, 0, none⟩), .string s] w fun e w' => e = .returned (.tuple #[]) ∧ CtB w' T (partC c s.data.toList) ∧ w.grownBy w' (some T) := by
  have cT := specTrim_any s w hs
  have hTz : (trimT s).size ≤ 1048576 := Nat.le_trans (trimT_le s) hs
  have cL := specLow_any (trimT s) w hTz
  obtain ⟨W, hW⟩ : ∃ W : ByteArray, (⟨(lowL (trimT s).data.toList).toArray⟩ : ByteArray) = W := ⟨_, rfl⟩
  have hWl : W.data.toList = partW s.data.toList := by rw [← hW]; rfl
  have hWz : W.size ≤ 1048576 := by
    rw [← hW]
    show (lowL (trimT s).data.toList).toArray.size ≤ _
    have : (trimT s).data.toList.length = (trimT s).size := (Lib.size_eq _).symm
    simp only [lowL, List.size_toArray, List.length_map]
    omega
  rw [hW] at cL
  generalize trimT s = ts at cT cL
  obtain ⟨q, hq⟩ : ∃ q, partW s.data.toList = q := ⟨_, rfl⟩
  rw [hq] at hWl
  have HG : Hid (partC c s.data.toList = shC (ageC (flagC c q) q) q) := by show _ = _; unfold partC; rw [hq]
  rw [HG.out]
  have hWt : W.toList = q := by rw [ByteArray.toList_eq]; exact hWl
  have HWZ : Hid (W.size = q.length) := by show _ = _; rw [Lib.size_eq, hWl]
  have CB1 : Hid (∀ wi, Calls Tryd.prog 95 #[.string W, .string ⟨#[109, 97, 120, 45, 97, 103, 101, 61]⟩] wi fun e w' => e = .returned (.bool (maxAgeL.isPrefixOf q)) ∧ w' = wi) := by
    intro wi
    have h := specBegins_any W ⟨#[109, 97, 120, 45, 97, 103, 101, 61]⟩ wi hWz
    rw [hWl] at h
    exact h
  have CB2 : Hid (∀ wi, Calls Tryd.prog 95 #[.string W, .string ⟨#[115, 45, 109, 97, 120, 97, 103, 101, 61]⟩] wi fun e w' => e = .returned (.bool (sMaxL.isPrefixOf q)) ∧ w' = wi) := by
    intro wi
    have h := specBegins_any W ⟨#[115, 45, 109, 97, 120, 97, 103, 101, 61]⟩ wi hWz
    rw [hWl] at h
    exact h
  have CN : Hid (∀ k, k ≤ q.length → ∀ wi, (∀ w : World, (Instr.slice 9 (.string W) (some (.int .i64 (k : Int))) none none).run Tryd.prog w = .ok (.string (W.extract k W.size)) w) ∧ Calls Tryd.prog 96 #[.string (W.extract k W.size)] wi fun e w' => e = .returned (.tuple #[.int .i64 ((numL (q.drop k)).getD 0 : Nat), .bool (numL (q.drop k)).isSome]) ∧ w' = wi) := by
    intro k hk wi
    have hz := HWZ.out
    refine ⟨fun w => ?_, ?_⟩
    · have h := run_slice_string_l (P := Tryd.prog) w 9 W Tryd.underlying9 .i64 (k : Int) (by omega) (by omega)
      rw [Int.toNat_natCast] at h
      exact h
    · have h := specNumber_any (W.extract k W.size) wi
      rw [from_data (t := W) (k := k) rfl, hWl] at h
      exact h
  have HH : Hid (CtB w T c) := h
  have HPL : Hid (∀ p : List UInt8, p.isPrefixOf q = true → p.length ≤ q.length) := fun p hp => (List.isPrefixOf_iff_prefix.1 hp).length_le
  clear h hs hTz hW hWz hq HG hWl
  go_enter Tryd.func70, Tryd.ntmps70
  go_wp2_with fail
  refine cT.mono ?_
  rintro e w1 ⟨rfl, hw1⟩
  rw [hw1]
  clear hw1 cT
  go_wp2_with fail
  refine cL.mono ?_
  rintro e w2 ⟨rfl, hb2⟩
  have h2 := HH.out.on hb2
  have hg2 := grownC_below T hb2
  clear cL HH hb2
  -- the flags
  obtain ⟨y0, y1, y2, y3⟩ := h2.cells
  have z0 := h2.thaw 0
  have z1 := h2.thaw 1
  have HST : Hid (CtB w2 T c ∧ w.grownBy w2 (some T)) := ⟨h2, hg2⟩
  have eqs : ∀ p : List UInt8, (W.toList == p) = decide (q = p) := by
    intro p
    rw [hWt]
    by_cases e : q = p
    · rw [decide_eq_true e]; simp [e]
    · rw [decide_eq_false e]; simp [e]
  have e1 := eqs [110, 111, 45, 115, 116, 111, 114, 101]
  have e2 := eqs [112, 114, 105, 118, 97, 116, 101]
  have e3 := eqs [110, 111, 45, 99, 97, 99, 104, 101]
  have e1' : (W.toList == (⟨#[110, 111, 45, 115, 116, 111, 114, 101]⟩ : ByteArray).toList) = decide (q = noStoreL) := by rw [ByteArray.toList_eq ⟨#[110, 111, 45, 115, 116, 111, 114, 101]⟩]; exact e1
  have e2' : (W.toList == (⟨#[112, 114, 105, 118, 97, 116, 101]⟩ : ByteArray).toList) = decide (q = privateL) := by rw [ByteArray.toList_eq ⟨#[112, 114, 105, 118, 97, 116, 101]⟩]; exact e2
  have e3' : (W.toList == (⟨#[110, 111, 45, 99, 97, 99, 104, 101]⟩ : ByteArray).toList) = decide (q = noCacheL) := by rw [ByteArray.toList_eq ⟨#[110, 111, 45, 99, 97, 99, 104, 101]⟩]; exact e3
  clear eqs hWt h2 hg2
  have hcase : q = noStoreL ∨ (¬ q = noStoreL ∧ q = privateL) ∨ (¬ q = noStoreL ∧ ¬ q = privateL ∧ q = noCacheL) ∨ (¬ q = noStoreL ∧ ¬ q = privateL ∧ ¬ q = noCacheL) := by
    by_cases h1 : q = noStoreL
    · exact .inl h1
    · by_cases h2 : q = privateL
      · exact .inr (.inl ⟨h1, h2⟩)
      · by_cases h3 : q = noCacheL
        · exact .inr (.inr (.inl ⟨h1, h2, h3⟩))
        · exact .inr (.inr (.inr ⟨h1, h2, h3⟩))
  clear e1' e2' e3'
  rcases hcase with hc | hc | hc | hc
  case' inl =>
    have HF : Hid (flagC c q = { c with ns := true }) := by show _ = _; unfold flagC; rw [if_pos (Or.inl hc)]
    replace e1 := e1.trans (decide_eq_true hc)
    clear e2 e3 hc
    go_wp2_with fail
    have HS : Hid (CtB (w2.setCell ⟨T, 0, none⟩ (.bool true)) T (flagC c q) ∧ w.grownBy (w2.setCell ⟨T, 0, none⟩ (.bool true)) (some T)) := by
      refine ⟨?_, grownC_set HST.out.2 _ _⟩
      rw [HF.out]
      exact HST.out.1.set0 true
    generalize w2.setCell ⟨T, 0, none⟩ (.bool true) = w3 at HS ⊢
    clear e1
  case' inr.inl =>
    have HF : Hid (flagC c q = { c with ns := true }) := by show _ = _; unfold flagC; rw [if_pos (Or.inr hc.2)]
    replace e1 := e1.trans (decide_eq_false hc.1)
    replace e2 := e2.trans (decide_eq_true hc.2)
    clear e3 hc
    go_wp2_with fail
    have HS : Hid (CtB (w2.setCell ⟨T, 0, none⟩ (.bool true)) T (flagC c q) ∧ w.grownBy (w2.setCell ⟨T, 0, none⟩ (.bool true)) (some T)) := by
      refine ⟨?_, grownC_set HST.out.2 _ _⟩
      rw [HF.out]
      exact HST.out.1.set0 true
    generalize w2.setCell ⟨T, 0, none⟩ (.bool true) = w3 at HS ⊢
    clear e1 e2
  case' inr.inr.inl =>
    have HF : Hid (flagC c q = { c with nc := true }) := by show _ = _; unfold flagC; rw [if_neg (fun h => h.elim hc.1 hc.2.1), if_pos hc.2.2]
    replace e1 := e1.trans (decide_eq_false hc.1)
    replace e2 := e2.trans (decide_eq_false hc.2.1)
    replace e3 := e3.trans (decide_eq_true hc.2.2)
    clear hc
    go_wp2_with fail
    have HS : Hid (CtB (w2.setCell ⟨T, 1, none⟩ (.bool true)) T (flagC c q) ∧ w.grownBy (w2.setCell ⟨T, 1, none⟩ (.bool true)) (some T)) := by
      refine ⟨?_, grownC_set HST.out.2 _ _⟩
      rw [HF.out]
      exact HST.out.1.set1 true
    generalize w2.setCell ⟨T, 1, none⟩ (.bool true) = w3 at HS ⊢
    clear e1 e2 e3
  case' inr.inr.inr =>
    have HF : Hid (flagC c q = c) := by show _ = _; unfold flagC; rw [if_neg (fun h => h.elim hc.1 hc.2.1), if_neg hc.2.2]
    replace e1 := e1.trans (decide_eq_false hc.1)
    replace e2 := e2.trans (decide_eq_false hc.2.1)
    replace e3 := e3.trans (decide_eq_false hc.2.2)
    clear hc
    go_wp2_with fail
    have HS : Hid (CtB w2 T (flagC c q) ∧ w.grownBy w2 (some T)) := by
      refine ⟨?_, HST.out.2⟩
      rw [HF.out]
      exact HST.out.1
    clear HST y0 y1 y2 y3 z0 z1
    generalize w2 = w3 at HS ⊢
    clear e1 e2 e3
  all_goals refine (CB1.out _).mono ?_
  all_goals rintro e w4 ⟨rfl, hw4⟩
  all_goals rw [hw4]
  all_goals clear hw4 w4
  all_goals (
    cases hp : maxAgeL.isPrefixOf q
    case' false =>
      have HT : Hid (CtB w3 T (ageC (flagC c q) q) ∧ w.grownBy w3 (some T)) := by
        refine ⟨?_, HS.out.2⟩
        rw [show ageC (flagC c q) q = flagC c q from by unfold ageC; rw [hp]; rfl]
        exact HS.out.1
      clear hp HS
      go_wp2_with fail
      generalize w3 = w5 at HT ⊢
    case' true =>
      obtain ⟨hsl0, cN0⟩ := CN.out 8 (HPL.out maxAgeL hp) w3
      have hsl : ∀ w : World, (Instr.slice 9 (.string W) (some (.int .i64 8)) none none).run Tryd.prog w = .ok (.string (W.extract 8 W.size)) w := hsl0
      clear hsl0
      cases hn : numL (q.drop 8)
      case' none =>
        have HT : Hid (CtB w3 T (ageC (flagC c q) q) ∧ w.grownBy w3 (some T)) := by
          refine ⟨?_, HS.out.2⟩
          rw [show ageC (flagC c q) q = flagC c q from by unfold ageC; rw [if_pos hp, hn]]
          exact HS.out.1
        have cN : Calls Tryd.prog 96 #[.string (W.extract 8 W.size)] w3 fun e w' => e = .returned (.tuple #[.int .i64 0, .bool false]) ∧ w' = w3 := by
          rw [hn] at cN0; exact cN0
        clear hp hn cN0 HS
        go_wp2_with fail
        refine cN.mono ?_
        rintro e w4 ⟨rfl, hw4⟩
        rw [hw4]
        clear hw4 w4 cN
        go_wp2_with fail
        generalize w3 = w5 at HT ⊢
      case' some n =>
        have HT : Hid (CtB (w3.setCell ⟨T, 2, none⟩ (.int .i64 (n : Int))) T (ageC (flagC c q) q) ∧ w.grownBy (w3.setCell ⟨T, 2, none⟩ (.int .i64 (n : Int))) (some T)) := by
          refine ⟨?_, grownC_set HS.out.2 _ _⟩
          rw [show ageC (flagC c q) q = { (flagC c q) with ma := (n : Int) } from by unfold ageC; rw [if_pos hp, hn]]
          exact HS.out.1.set2 n
        have cN : Calls Tryd.prog 96 #[.string (W.extract 8 W.size)] w3 fun e w' => e = .returned (.tuple #[.int .i64 (n : Int), .bool true]) ∧ w' = w3 := by
          rw [hn] at cN0; exact cN0
        obtain ⟨v0, v1, v2, v3⟩ := HS.out.1.cells
        have vz := HS.out.1.thaw 2
        clear hp hn cN0 HS v0 v1
        go_wp2_with fail
        refine cN.mono ?_
        rintro e w4 ⟨rfl, hw4⟩
        rw [hw4]
        clear hw4 w4 cN
        go_wp2_with fail
        generalize w3.setCell ⟨T, 2, none⟩ (.int .i64 (n : Int)) = w5 at HT ⊢
        clear v2 v3 vz)
  all_goals refine (CB2.out _).mono ?_
  all_goals rintro e w4 ⟨rfl, hw4⟩
  all_goals rw [hw4]
  all_goals clear hw4 w4
  all_goals (
    cases hp : sMaxL.isPrefixOf q
    case' false =>
      have HU : Hid (CtB w5 T (shC (ageC (flagC c q) q) q) ∧ w.grownBy w5 (some T)) := by
        refine ⟨?_, HT.out.2⟩
        rw [show shC (ageC (flagC c q) q) q = ageC (flagC c q) q from by unfold shC; rw [hp]; rfl]
        exact HT.out.1
      clear hp HT
      go_wp2_with fail
      generalize w5 = w6 at HU ⊢
    case' true =>
      obtain ⟨hsl0, cN0⟩ := CN.out 9 (HPL.out sMaxL hp) w5
      have hsl : ∀ w : World, (Instr.slice 9 (.string W) (some (.int .i64 9)) none none).run Tryd.prog w = .ok (.string (W.extract 9 W.size)) w := hsl0
      clear hsl0
      cases hn : numL (q.drop 9)
      case' none =>
        have HU : Hid (CtB w5 T (shC (ageC (flagC c q) q) q) ∧ w.grownBy w5 (some T)) := by
          refine ⟨?_, HT.out.2⟩
          rw [show shC (ageC (flagC c q) q) q = ageC (flagC c q) q from by unfold shC; rw [if_pos hp, hn]]
          exact HT.out.1
        have cN : Calls Tryd.prog 96 #[.string (W.extract 9 W.size)] w5 fun e w' => e = .returned (.tuple #[.int .i64 0, .bool false]) ∧ w' = w5 := by
          rw [hn] at cN0; exact cN0
        clear hp hn cN0 HT
        go_wp2_with fail
        refine cN.mono ?_
        rintro e w4 ⟨rfl, hw4⟩
        rw [hw4]
        clear hw4 w4 cN
        go_wp2_with fail
        generalize w5 = w6 at HU ⊢
      case' some n =>
        have HU : Hid (CtB (w5.setCell ⟨T, 3, none⟩ (.int .i64 (n : Int))) T (shC (ageC (flagC c q) q) q) ∧ w.grownBy (w5.setCell ⟨T, 3, none⟩ (.int .i64 (n : Int))) (some T)) := by
          refine ⟨?_, grownC_set HT.out.2 _ _⟩
          rw [show shC (ageC (flagC c q) q) q = { (ageC (flagC c q) q) with sh := (n : Int) } from by unfold shC; rw [if_pos hp, hn]]
          exact HT.out.1.set3 n
        have cN : Calls Tryd.prog 96 #[.string (W.extract 9 W.size)] w5 fun e w' => e = .returned (.tuple #[.int .i64 (n : Int), .bool true]) ∧ w' = w5 := by
          rw [hn] at cN0; exact cN0
        obtain ⟨v0, v1, v2, v3⟩ := HT.out.1.cells
        have vz := HT.out.1.thaw 3
        clear hp hn cN0 HT v0 v1
        go_wp2_with fail
        refine cN.mono ?_
        rintro e w4 ⟨rfl, hw4⟩
        rw [hw4]
        clear hw4 w4 cN
        go_wp2_with fail
        generalize w5.setCell ⟨T, 3, none⟩ (.int .i64 (n : Int)) = w6 at HU ⊢
        clear v2 v3 vz)
  all_goals go_end0
  all_goals exact ⟨rfl, HU.out⟩
end Go.Proofs.YtnnaphfeeobeladDoor
