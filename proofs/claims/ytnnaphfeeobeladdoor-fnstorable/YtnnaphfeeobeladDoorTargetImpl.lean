/- The program's TargetOf. -/
import Derived.Test.YtnnaphfeeobeladDoorTargetPlainJ
import Derived.Test.YtnnaphfeeobeladDoorFieldOfImpl
import Derived.Lib.Bytealg
namespace Go.Proofs.YtnnaphfeeobeladDoor
open Go.RowKit Go.Sort
theorem indexByte_ge : ∀ (l : List UInt8) (c : UInt8), -1 ≤ Lib.indexByte l c
  | [], _ => by unfold Lib.indexByte; omega
  | b :: l, c => by
    have := indexByte_ge l c
    unfold Lib.indexByte
    split
    · omega
    · split
      · omega
      · omega
theorem indexByte_mem : ∀ (l : List UInt8) (c : UInt8), (0 ≤ Lib.indexByte l c) ↔ c ∈ l
  | [], c => by unfold Lib.indexByte; simp
  | b :: l, c => by
    have h0 := indexByte_ge l c
    have ih := indexByte_mem l c
    unfold Lib.indexByte
    by_cases e : b = c
    · subst e; simp
    · rw [if_neg (by simpa using e)]
      by_cases h : Lib.indexByte l c = -1
      · rw [if_pos (by simpa using h)]
        constructor
        · intro x; omega
        · intro x
          rcases List.mem_cons.1 x with y | y
          · exact absurd y.symm e
          · have := ih.2 y; omega
      · rw [if_neg (by simpa using h)]
        constructor
        · intro _; exact List.mem_cons_of_mem _ (ih.1 (by omega))
        · intro _; omega
theorem tgtOk_parts (t : ByteArray) : tgtOk t = (Lib.hasPrefix t.data.toList [47] && (decide ((t.size : Int) ≤ 20) && (allB plainB t && !decide (0 ≤ Lib.indexByte t.data.toList 32)))) := by
  unfold tgtOk
  have hs := Lib.size_eq t
  have h1 : (allB plainB t && !decide (0 ≤ Lib.indexByte t.data.toList 32)) = allB tgtB t := by
    have hd : decide (0 ≤ Lib.indexByte t.data.toList 32) = decide ((32 : UInt8) ∈ t.data.toList) := decide_eq_decide.2 (indexByte_mem t.data.toList 32)
    rw [hd]
    unfold allB
    rw [Bool.eq_iff_iff]
    simp only [Bool.and_eq_true, Bool.not_eq_true', decide_eq_false_iff_not, List.all_eq_true, plainB, tgtB, decide_eq_true_eq]
    constructor
    · rintro ⟨h, h'⟩ x hx
      have := h x hx
      have hne : ¬ x.toNat = 32 := fun e => h' (by have : x = 32 := UInt8.toNat_inj.1 e; rwa [this] at hx)
      omega
    · intro h
      refine ⟨fun x hx => by have := h x hx; omega, fun hx => ?_⟩
      have := h 32 hx
      have e : (32 : UInt8).toNat = 32 := rfl
      omega
  rw [h1]
  cases hl : t.data.toList with
  | nil =>
    rw [hl] at hs
    have h0 : t.size = 0 := hs
    rw [decide_eq_false (show ¬ (1 ≤ t.size ∧ t.size ≤ 20) by omega)]
    rfl
  | cons x r =>
    rw [hl] at hs
    have hp : Lib.hasPrefix (x :: r) [47] = decide (x = 47) := by
      unfold Lib.hasPrefix
      by_cases e : x = 47
      · subst e; simp [List.isPrefixOf]
      · rw [decide_eq_false e]
        simp [List.isPrefixOf]
        exact fun e' => e e'.symm
    rw [hp, List.getD_cons_zero]
    have h2 : decide (1 ≤ t.size ∧ t.size ≤ 20) = decide ((t.size : Int) ≤ 20) := decide_eq_decide.2 (by have h0 : t.size = r.length + 1 := hs; omega)
    rw [h2]
    cases decide (x = 47) <;> simp
set_option maxRecDepth 100000 in
set_option maxHeartbeats 2000000 in
theorem implPlainT_any (s : ByteArray) (w : World) (hs : s.size ≤ 1048576) :
    Calls Tryd.prog 58 #[.string s] w fun e w' => e = .returned (.bool (allB plainB s)) ∧ w' = w := by
  obtain ⟨R, hR⟩ : ∃ R, allB plainB s = R := ⟨_, rfl⟩
  rw [hR]
  have HR : Hid (allB plainB s = R) := hR
  clear hR
  go_enter Tryd.func58, Tryd.ntmps58
  go_wp2
  go_loopw [3, 6] (fun _ i wr => Box (∃ k : Nat, k ≤ s.size ∧ i = .int .i64 k ∧ Hid (∀ q (hq : q < s.size), q < k → plainB s[q].toNat = true) ∧ wr = w))
    (fun _ i _ => s.size - (intOf i).toNat)
  case atStart => exact ⟨⟨0, by omega, rfl, fun q _ hq => absurd hq (Nat.not_lt_zero _), rfl⟩⟩
  case round =>
    obtain ⟨k, hk, rfl, HN, hwr⟩ := hrel.out
    clear hrel
    rw [hwr]
    clear hwr
    by_cases hlt : k < s.size
    · obtain ⟨b, hb⟩ : ∃ b, s[k] = b := ⟨_, rfl⟩
      have HB : Hid (s[k] = b) := hb
      have hbl : b.toNat < 256 := b.toNat_lt
      rcases (show b.toNat < 32 ∨ 126 < b.toNat ∨ (32 ≤ b.toNat ∧ b.toNat ≤ 126) by omega) with g1 | g1 | ⟨g1, g2⟩
      · have HP : Hid (R = false) := by show _ = _; rw [← HR.out, allB_no hlt (by rw [hb]; unfold plainB; exact decide_eq_false (by omega))]
        go_wp2
        go_ret
        exact ⟨by rw [HP.out]; rfl, rfl⟩
      · have HP : Hid (R = false) := by show _ = _; rw [← HR.out, allB_no hlt (by rw [hb]; unfold plainB; exact decide_eq_false (by omega))]
        go_wp2
        go_ret
        exact ⟨by rw [HP.out]; rfl, rfl⟩
      · have HP : Hid (plainB b.toNat = true) := by show _ = _; unfold plainB; exact decide_eq_true ⟨g1, g2⟩
        go_wp2
        go_roundw
        case rel =>
          try ((repeat apply Exists.intro); refine ⟨?_, rfl⟩)
          refine ⟨⟨k + 1, by omega, by go_num, fun q hq hqk => ?_, by first | rfl | trivial⟩⟩
          by_cases e : q = k
          · subst e; rw [HB.out]; exact HP.out
          · exact HN.out q hq (by omega)
        case measure => simp [intOf]; omega
    · have HP : Hid (R = true) := by show _ = _; rw [← HR.out, allB_go fun q hq => HN.out q hq (by omega)]
      go_wp2
      go_ret
      exact ⟨by rw [HP.out]; rfl, rfl⟩
set_option maxRecDepth 100000 in
set_option maxHeartbeats 4000000 in
theorem implTargetOk_any (t : ByteArray) (w : World) (hs : t.size ≤ 1048576) :
    Calls Tryd.prog 99 #[.string t] w fun e w' => e = .returned (.bool (tgtOk t)) ∧ w' = w := by
  have c1 := Tryd.strings_HasPrefix t ⟨#[47]⟩ w
  have c2 := implPlainT_any t w hs
  have c3 := Tryd.strings_Contains_one t 32 w
  rw [tgtOk_parts]
  rw [show (⟨#[47]⟩ : ByteArray).data.toList = [47] from rfl] at c1
  generalize Lib.hasPrefix t.data.toList [47] = B1 at c1 ⊢
  generalize allB plainB t = B2 at c2 ⊢
  generalize decide (0 ≤ Lib.indexByte t.data.toList 32) = B3 at c3 ⊢
  cases B1 with
  | false =>
    rw [Bool.false_and]
    clear c2 c3
    go_enter Tryd.func99, Tryd.ntmps99
    go_wp2_with fail
    refine c1.mono ?_
    rintro e w1 ⟨rfl, hw1⟩
    rw [hw1]
    go_wp2_with fail
    go_ret
    exact ⟨rfl, rfl⟩
  | true =>
    by_cases h20 : (t.size : Int) ≤ 20
    · rw [decide_eq_true h20]
      cases B2 with
      | false =>
        clear c3
        go_enter Tryd.func99, Tryd.ntmps99
        go_wp2_with fail
        refine c1.mono ?_
        rintro e w1 ⟨rfl, hw1⟩
        rw [hw1]
        go_wp2_with fail
        refine c2.mono ?_
        rintro e w2 ⟨rfl, hw2⟩
        rw [hw2]
        go_wp2_with fail
        go_ret
        exact ⟨rfl, rfl⟩
      | true =>
        go_enter Tryd.func99, Tryd.ntmps99
        go_wp2_with fail
        refine c1.mono ?_
        rintro e w1 ⟨rfl, hw1⟩
        rw [hw1]
        go_wp2_with fail
        refine c2.mono ?_
        rintro e w2 ⟨rfl, hw2⟩
        rw [hw2]
        go_wp2_with fail
        refine c3.mono ?_
        rintro e w3 ⟨rfl, hw3⟩
        rw [hw3]
        go_wp2_with fail
        go_ret
        exact ⟨rfl, rfl⟩
    · rw [decide_eq_false h20]
      clear c2 c3
      go_enter Tryd.func99, Tryd.ntmps99
      go_wp2_with fail
      refine c1.mono ?_
      rintro e w1 ⟨rfl, hw1⟩
      rw [hw1]
      go_wp2_with fail
      go_ret
      exact ⟨rfl, rfl⟩
theorem cut_size (l : List UInt8) (p : List UInt8) : (Lib.trimPrefix l p).length ≤ l.length := by
  unfold Lib.trimPrefix
  split
  · rw [List.length_drop]; omega
  · exact Nat.le_refl _
theorem cutS_size (l : List UInt8) (p : List UInt8) : (Lib.trimSuffix l p).length ≤ l.length := by
  unfold Lib.trimSuffix
  split
  · rw [List.length_take]; omega
  · exact Nat.le_refl _
set_option maxRecDepth 100000 in
set_option maxHeartbeats 4000000 in
theorem implTargetOf_any (w : World) (a : Option Addr) (c : Nat) (line : ByteArray) (L : List (ByteArray × ByteArray)) (_ : DAt w a L w.heap.size) (hz : HdSz line L) :
    Calls Tryd.prog 73 #[.agg #[.string line, .slice a L.length c]] w fun e w' => e = .returned (.tuple #[.string (targetS line).1, .bool (targetS line).2]) ∧ Below w.heap.size w w' := by
  obtain ⟨wb, hwb⟩ : ∃ wb, w.alloc (.cells #[.string line, .slice a L.length c] 27) = wb := ⟨_, rfl⟩
  have hb : Below w.heap.size w wb := by rw [← hwb]; exact (Below.refl _ _).alloc (Nat.le_refl _) _
  have hX : wb.heap[w.heap.size]? = some (.cells #[.string line, .slice a L.length c] 27 (0, 0)) := by rw [← hwb]; exact heap_alloc_new w _
  have HW : Hid (w.alloc (.cells #[.string line, .slice a L.length c] 27) = wb) := hwb
  obtain ⟨b0, b1⟩ := KBz_cells hX
  rw [← hwb] at b0 b1
  unfold HdSz at hz
  have hsz := Lib.size_eq line
  obtain ⟨R, hR⟩ : ∃ R, targetS line = R := ⟨_, rfl⟩
  rw [hR]
  obtain ⟨rest, hrest⟩ : ∃ r : ByteArray, (⟨(Lib.trimPrefix line.data.toList getL).toArray⟩ : ByteArray) = r := ⟨_, rfl⟩
  have hrl : rest.data.toList = Lib.trimPrefix line.data.toList getL := by rw [← hrest]
  have hrz : rest.size ≤ line.size := by rw [Lib.size_eq, hrl, hsz]; exact cut_size _ _
  obtain ⟨tg, htg⟩ : ∃ r : ByteArray, (⟨(Lib.trimSuffix rest.data.toList httpL).toArray⟩ : ByteArray) = r := ⟨_, rfl⟩
  have htl : tg.data.toList = Lib.trimSuffix rest.data.toList httpL := by rw [← htg]
  have htz : tg.size ≤ 1048576 := by
    have h1 : tg.size ≤ rest.size := by rw [Lib.size_eq, htl, Lib.size_eq]; exact cutS_size _ _
    omega
  have c1 := Tryd.strings_CutPrefix line ⟨#[71, 69, 84, 32]⟩ wb
  rw [show (⟨#[71, 69, 84, 32]⟩ : ByteArray).data.toList = getL from rfl, hrest] at c1
  have c2 := Tryd.strings_CutSuffix rest ⟨#[32, 72, 84, 84, 80, 47, 49, 46, 49]⟩ wb (by omega)
  rw [show (⟨#[32, 72, 84, 84, 80, 47, 49, 46, 49]⟩ : ByteArray).data.toList = httpL from rfl, htg] at c2
  have c3 := implTargetOk_any tg wb htz
  have c4 := cloneH_any tg wb (by omega)
  have HR : Hid (R = if (Lib.hasPrefix line.data.toList getL && (Lib.hasSuffix rest.data.toList httpL && tgtOk tg)) = true then (tg, true) else (⟨#[]⟩, false)) := by
    show _ = _
    rw [← hR]
    unfold targetS tgtLine
    cases hp : Lib.hasPrefix line.data.toList getL with
    | false => simp
    | true =>
      have e1 : rest.data.toList = line.data.toList.drop 4 := by rw [hrl]; unfold Lib.trimPrefix; rw [if_pos hp]; rfl
      rw [e1]
      cases hq : Lib.hasSuffix (line.data.toList.drop 4) httpL with
      | false => simp
      | true =>
        have e2 : tg = tgtOf line := by
          rw [← htg, e1]
          unfold Lib.trimSuffix tgtOf
          rw [if_pos hq, List.length_drop]
          congr 3
        rw [e2]
        simp
  generalize Lib.hasPrefix line.data.toList getL = B1 at c1 HR
  generalize Lib.hasSuffix rest.data.toList httpL = B2 at c2 HR
  generalize tgtOk tg = B3 at c3 HR
  clear hwb hX hR hrest hrl hrz htg htl htz hsz hz
  go_enter Tryd.func73, Tryd.ntmps73
  go_wp2_with fail
  rw [HW.out] at b0 b1 ⊢
  refine c1.mono ?_
  rintro e w1 ⟨rfl, hw1⟩
  rw [hw1]
  go_wp2_with fail
  refine c2.mono ?_
  rintro e w2 ⟨rfl, hw2⟩
  rw [hw2]
  clear b0 b1 c1 c2
  cases B1 with
  | false =>
    have HP : Hid (R = (⟨#[]⟩, false)) := by show _ = _; rw [HR.out]; rfl
    go_wp2_with fail
    go_ret2
    exact ⟨by rw [HP.out]; rfl, hb⟩
  | true =>
    cases B2 with
    | false =>
      have HP : Hid (R = (⟨#[]⟩, false)) := by show _ = _; rw [HR.out]; rfl
      go_wp2_with fail
      go_ret2
      exact ⟨by rw [HP.out]; rfl, hb⟩
    | true =>
      cases B3 with
      | false =>
        have HP : Hid (R = (⟨#[]⟩, false)) := by show _ = _; rw [HR.out]; rfl
        go_wp2_with fail
        refine c3.mono ?_
        rintro e w3 ⟨rfl, hw3⟩
        rw [hw3]
        go_wp2_with fail
        go_ret2
        exact ⟨by rw [HP.out]; rfl, hb⟩
      | true =>
        have HP : Hid (R = (tg, true)) := by show _ = _; rw [HR.out]; rfl
        go_wp2_with fail
        refine c3.mono ?_
        rintro e w3 ⟨rfl, hw3⟩
        rw [hw3]
        go_wp2_with fail
        refine c4.mono ?_
        rintro e w4 ⟨rfl, hb4⟩
        go_wp2_with fail
        go_ret2
        exact ⟨by rw [HP.out]; rfl, hb.trans (hb4.mono hb.size)⟩
end Go.Proofs.YtnnaphfeeobeladDoor
