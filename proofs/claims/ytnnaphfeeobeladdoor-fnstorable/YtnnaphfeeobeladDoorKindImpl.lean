/- The program tells of which kind a part is, and takes it. -/
import Derived.Test.YtnnaphfeeobeladDoorKindPlain
import Derived.Test.YtnnaphfeeobeladDoorFieldImpl
import Derived.Test.YtnnaphfeeobeladDoorLowImpl
import Derived.Test.YtnnaphfeeobeladDoorCtBox
namespace Go.Proofs.YtnnaphfeeobeladDoor
open Go.RowKit Go.Sort
set_option maxRecDepth 100000 in
set_option maxHeartbeats 4000000 in
theorem implKindOf_any (W : ByteArray) (w : World) :
    Calls Tryd.prog 93 #[.string W] w fun e w' => e = .returned (.tuple #[.int .i64 (kindC W.data.toList).1, .int .i64 ((kindC W.data.toList).2 : Nat)]) ∧ Below w.heap.size w w' := by
  obtain ⟨q, hq⟩ : ∃ q, W.data.toList = q := ⟨_, rfl⟩
  have C1 : Hid (∀ wi, Calls Tryd.prog 97 #[.string W, .string ⟨#[109, 97, 120, 45, 97, 103, 101, 61]⟩] wi fun e w' => e = .returned (.tuple #[.string ⟨(Lib.trimPrefix q maxAgeL).toArray⟩, .bool (maxAgeL.isPrefixOf q)]) ∧ w' = wi) := by
    intro wi
    have h := Tryd.strings_CutPrefix W ⟨#[109, 97, 120, 45, 97, 103, 101, 61]⟩ wi
    rw [hq] at h
    exact h
  have C2 : Hid (∀ wi, Calls Tryd.prog 97 #[.string W, .string ⟨#[115, 45, 109, 97, 120, 97, 103, 101, 61]⟩] wi fun e w' => e = .returned (.tuple #[.string ⟨(Lib.trimPrefix q sMaxL).toArray⟩, .bool (sMaxL.isPrefixOf q)]) ∧ w' = wi) := by
    intro wi
    have h := Tryd.strings_CutPrefix W ⟨#[115, 45, 109, 97, 120, 97, 103, 101, 61]⟩ wi
    rw [hq] at h
    exact h
  have hWt : W.toList = q := by rw [ByteArray.toList_eq]; exact hq
  rw [hq]
  have eqs : ∀ p : List UInt8, (W.toList == p) = decide (q = p) := by
    intro p
    rw [hWt]
    by_cases e : q = p
    · rw [decide_eq_true e]; simp [e]
    · rw [decide_eq_false e]; simp [e]
  have e1 := eqs [110, 111, 45, 115, 116, 111, 114, 101]
  have e2 := eqs [112, 114, 105, 118, 97, 116, 101]
  have e3 := eqs [110, 111, 45, 99, 97, 99, 104, 101]
  clear eqs hWt hq
  by_cases h1 : q = noStoreL
  · have HF : Hid (kindC q = (1, 0)) := by show _ = _; unfold kindC; rw [if_pos (Or.inl h1)]
    replace e1 := e1.trans (decide_eq_true h1)
    clear e2 e3 h1
    go_enter Tryd.func93, Tryd.ntmps93
    go_wp2_with fail
    go_ret2
    exact ⟨by rw [HF.out]; rfl, Below.refl _ _⟩
  replace e1 := e1.trans (decide_eq_false h1)
  by_cases h2 : q = privateL
  · have HF : Hid (kindC q = (1, 0)) := by show _ = _; unfold kindC; rw [if_pos (Or.inr h2)]
    replace e2 := e2.trans (decide_eq_true h2)
    clear e3 h1 h2
    go_enter Tryd.func93, Tryd.ntmps93
    go_wp2_with fail
    go_ret2
    exact ⟨by rw [HF.out]; rfl, Below.refl _ _⟩
  replace e2 := e2.trans (decide_eq_false h2)
  by_cases h3 : q = noCacheL
  · have HF : Hid (kindC q = (2, 0)) := by show _ = _; unfold kindC; rw [if_neg (fun h => h.elim h1 h2), if_pos h3]
    replace e3 := e3.trans (decide_eq_true h3)
    clear h1 h2 h3
    go_enter Tryd.func93, Tryd.ntmps93
    go_wp2_with fail
    go_ret2
    exact ⟨by rw [HF.out]; rfl, Below.refl _ _⟩
  replace e3 := e3.trans (decide_eq_false h3)
  have HK : Hid (kindC q = if maxAgeL.isPrefixOf q = true then kindN 3 (q.drop 8) else if sMaxL.isPrefixOf q = true then kindN 4 (q.drop 9) else (0, 0)) := by
    show _ = _; unfold kindC; rw [if_neg (fun h => h.elim h1 h2), if_neg h3]
  clear h1 h2 h3
  generalize hz1 : maxAgeL.isPrefixOf q = z1 at C1 HK
  generalize hz2 : sMaxL.isPrefixOf q = z2 at C2 HK
  have HP1 : Hid (z1 = true → Lib.trimPrefix q maxAgeL = q.drop 8) := by
    intro h; rw [h] at hz1
    unfold Lib.trimPrefix Lib.hasPrefix
    rw [hz1]; rfl
  have HP2 : Hid (z2 = true → Lib.trimPrefix q sMaxL = q.drop 9) := by
    intro h; rw [h] at hz2
    unfold Lib.trimPrefix Lib.hasPrefix
    rw [hz2]; rfl
  clear hz1 hz2
  generalize Lib.trimPrefix q maxAgeL = p1 at C1 HP1
  generalize Lib.trimPrefix q sMaxL = p2 at C2 HP2
  cases z1 with
  | true =>
    have HF : Hid (kindC q = kindN 3 p1) := by show _ = _; rw [HK.out, if_pos rfl, HP1.out rfl]
    have cN := implKindN_any 3 ⟨p1.toArray⟩ w
    clear HK HP1 HP2 C2
    go_enter Tryd.func93, Tryd.ntmps93
    go_wp2_with fail
    refine (C1.out _).mono ?_
    rintro e w1 ⟨rfl, hw1⟩
    rw [hw1]
    clear hw1
    go_wp2_with fail
    refine cN.mono ?_
    rintro e w2 ⟨rfl, hb⟩
    clear cN
    go_wp2_with fail
    go_ret2
    exact ⟨by rw [HF.out]; rfl, hb⟩
  | false =>
    cases z2 with
    | true =>
      have HF : Hid (kindC q = kindN 4 p2) := by show _ = _; rw [HK.out, if_neg (by simp), if_pos rfl, HP2.out rfl]
      have cN := implKindN_any 4 ⟨p2.toArray⟩ w
      clear HK HP1 HP2
      go_enter Tryd.func93, Tryd.ntmps93
      go_wp2_with fail
      refine (C1.out _).mono ?_
      rintro e w1 ⟨rfl, hw1⟩
      rw [hw1]
      clear hw1
      go_wp2_with fail
      refine (C2.out _).mono ?_
      rintro e w1 ⟨rfl, hw1⟩
      rw [hw1]
      clear hw1
      go_wp2_with fail
      refine cN.mono ?_
      rintro e w2 ⟨rfl, hb⟩
      clear cN
      go_wp2_with fail
      go_ret2
      exact ⟨by rw [HF.out]; rfl, hb⟩
    | false =>
      have HF : Hid (kindC q = (0, 0)) := by show _ = _; rw [HK.out, if_neg (by simp), if_neg (by simp)]
      clear HK HP1 HP2
      go_enter Tryd.func93, Tryd.ntmps93
      go_wp2_with fail
      refine (C1.out _).mono ?_
      rintro e w1 ⟨rfl, hw1⟩
      rw [hw1]
      clear hw1
      go_wp2_with fail
      refine (C2.out _).mono ?_
      rintro e w1 ⟨rfl, hw1⟩
      rw [hw1]
      clear hw1
      go_wp2_with fail
      go_ret2
      exact ⟨by rw [HF.out]; rfl, Below.refl _ _⟩
end Go.Proofs.YtnnaphfeeobeladDoor
