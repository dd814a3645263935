/- The program reads heads: of lines in general; of one that is no field; of one that is none. -/
import Derived.Test.YtlefccgdeafinadDoorReadHead
import Derived.Test.YtlefccgdeafinadDoorReadImpl
namespace Go.Proofs.YtlefccgdeafinadDoor
open Go.RowKit Go.Sort
theorem readHead_all (w : World) (t : ByteArray) (hts : t.size ≤ 1048576) (hasc : ∀ x ∈ t.data.toList, x.toNat < 128) (l0 : List UInt8) (ms : List (List UInt8)) (tail : List UInt8) (fs : List (ByteArray × ByteArray)) (n : Nat)
    (hl : t.data.toList = l0 ++ 13 :: 10 :: (flatL ms ++ tail)) (h0 : NoEnd l0) (h00 : (decide (1 ≤ (⟨l0.toArray⟩ : ByteArray).size) && plainS ⟨l0.toArray⟩ 80) = true) (hms : ∀ i (h : i < ms.length), NoEnd ms[i]) (hfs : fs.length = n) (hn : n ≤ 8) (hml : ms.length = n + 1) (hF : ∀ i (_ : i < n) (h' : i < ms.length) (h'' : i < fs.length), LineF ms[i] fs[i]) (hlast : ∀ h : n < ms.length, ms[n] = []) (hOK : headOkS ⟨l0.toArray⟩ fs = true) (K : Nat) (hK : posL (l0.length + 2) ms (n + 1) = K) :
    Calls Tryd.prog 7 #[.string t] w fun e w' => ∃ v, e = .returned (.tuple #[.agg #[.string ⟨l0.toArray⟩, v], .int .i64 (K : Int), .int .i64 0]) ∧ OwnD w' w.heap.size 34 v fs ∧ Below w.heap.size w w' := by
  have h := readLines_whole (((readW w t).heap.size, .cells #[.int .i64 0] 3 (0, 0)) :: besideR w) w (w.heap.size + 1) ⟨#[]⟩ (.slice none 0 0) t ((readW w t).alloc (.cells #[.int .i64 0] 3)) ((readW_rr w t).push #[.int .i64 0] 3 (by decide)) hts hasc l0 ms tail fs n hl h0 h00 hms hfs hn hml hF hlast hOK
  rw [hK] at h
  exact readHead_ok w t _ fs K (headOk_sz hOK).1 (read_of_ok (readW_rr w t) (beside_lt w t) h)
theorem readHead_firstBad (w : World) (t : ByteArray) (hts : t.size ≤ 1048576) (hasc : ∀ x ∈ t.data.toList, x.toNat < 128) (b post : List UInt8) (hl : t.data.toList = b ++ 10 :: post) (hb : NoEnd b) :
    Calls Tryd.prog 7 #[.string t] w fun e w' => e = .returned (.tuple #[.agg #[.string ⟨#[]⟩, .slice none 0 0], .int .i64 0, .int .i64 2]) ∧ Below w.heap.size w w' := by
  have hR := (readW_rr w t).push #[.int .i64 0] 3 (by decide)
  refine readHead_pan w t 2 (by decide) (read_of_pan 2 (readW_rr w t) (beside_lt w t) ?_)
  exact readLines_first _ w _ _ _ t _ hR 2 (nextLine_bad _ _ _ _ t 0 b post hR.box (by omega) hts hasc (by rw [List.drop_zero]; exact hl) hb)
theorem readHead_long (w : World) (t : ByteArray) (hts : t.size ≤ 1048576) (h300 : 300 < t.size) (hasc : ∀ x ∈ t.data.toList, x.toNat < 128) (l0 tail : List UInt8) (hl : t.data.toList = l0 ++ 13 :: 10 :: tail) (h0 : NoEnd l0) (h00 : (decide (1 ≤ (⟨l0.toArray⟩ : ByteArray).size) && plainS ⟨l0.toArray⟩ 80) = true) (hb : NoEnd tail) :
    Calls Tryd.prog 7 #[.string t] w fun e w' => e = .returned (.tuple #[.agg #[.string ⟨#[]⟩, .slice none 0 0], .int .i64 0, .int .i64 2]) ∧ Below w.heap.size w w' := by
  have hR := (readW_rr w t).push #[.int .i64 0] 3 (by decide)
  refine readHead_pan w t 2 (by decide) (read_of_pan 2 (readW_rr w t) (beside_lt w t) ?_)
  refine readLines_panics _ w _ _ _ t _ hR hts hasc l0 [] tail [] 0 (by simpa [flatL] using hl) h0 h00 (fun i h => by simp at h) rfl (by omega) rfl (fun i h => by omega) 2 ?_
  intro lx vx wi hx
  rw [posL_zero] at hx
  have hlen := congrArg List.length hl
  simp only [List.length_append, List.length_cons] at hlen
  have hs := Lib.size_eq t
  have h := nextLine_more wi _ lx vx t (l0.length + 2) tail hx (by omega) hts hasc (by rw [hl, show l0 ++ 13 :: 10 :: tail = (l0 ++ [13, 10]) ++ tail by simp, List.drop_left' (by simp)]) hb
  have hm : moreC t.size (decide (l0.length + 2 = 0)) ⟨tail.toArray⟩ = 2 := by unfold moreC; rw [if_pos h300]
  rw [hm] at h
  exact h
set_option maxRecDepth 100000 in
set_option maxHeartbeats 8000000 in
theorem readLines_none (E : List (Nat × Obj)) (w0 : World) (T : Nat) (line : ByteArray) (v : Value) (t : ByteArray) (w : World) (H : Rr E w0 T line v [] t 0 w) (hts : t.size ≤ 1048576) (hasc : ∀ x ∈ t.data.toList, x.toNat < 128) (l0 b tail : List UInt8) (hl : t.data.toList = l0 ++ 13 :: 10 :: (b ++ 13 :: 10 :: tail)) (h0 : NoEnd l0) (h00 : (decide (1 ≤ (⟨l0.toArray⟩ : ByteArray).size) && plainS ⟨l0.toArray⟩ 80) = true) (hb : NoEnd b) (hb0 : b ≠ []) (hbc : ∀ x ∈ b, x ≠ 58) :
    Calls Tryd.prog 48 #[.pointer (some ⟨T, 0, none⟩)] w fun e w' => e = .panicked (pan 2) ∧ ∃ lx u M k, Rr E w0 T lx u M t k w' := by
  have hs := Lib.size_eq t
  have hlen := congrArg List.length hl
  simp only [List.length_append, List.length_cons] at hlen
  obtain ⟨L0, hL0⟩ : ∃ B : ByteArray, (⟨l0.toArray⟩ : ByteArray) = B := ⟨_, rfl⟩
  have hL0z : L0.size ≤ 1048576 := by rw [← hL0]; show l0.toArray.size ≤ _; simp; omega
  obtain ⟨B, hB⟩ : ∃ B : ByteArray, (⟨b.toArray⟩ : ByteArray) = B := ⟨_, rfl⟩
  have hBz : B.size ≤ 1048576 := by rw [← hB]; show b.toArray.size ≤ _; simp; omega
  have c1 : Calls Tryd.prog 58 #[.pointer (some ⟨T, 0, none⟩)] w fun e w' => e = .returned (.string L0) ∧ RBx w' T line v t ((l0.length + 2 : Nat) : Int) ∧ w.grownBy w' (some T) := by
    have h := nextLine_ok w T line v t 0 l0 (b ++ 13 :: 10 :: tail) H.box (by omega) hts hasc (by rw [List.drop_zero]; exact hl) h0
    rw [hL0, Nat.zero_add] at h
    exact h
  rw [hL0] at h00
  have C2 : Hid (∀ wi, Calls Tryd.prog 53 #[.string L0] wi fun e w' => e = .returned (.bool true) ∧ w' = wi) := by
    intro wi
    have h := implLineOk_any L0 wi hL0z
    rw [h00] at h
    exact h
  have CN : Hid (∀ (lx : ByteArray) (vx : Value) (wi : World), RBx wi T lx vx t ((l0.length + 2 : Nat) : Int) → Calls Tryd.prog 58 #[.pointer (some ⟨T, 0, none⟩)] wi fun e w' => e = .returned (.string B) ∧ RBx w' T lx vx t ((l0.length + 2 + b.length + 2 : Nat) : Int) ∧ wi.grownBy w' (some T)) := by
    intro lx vx wi hx
    have h := nextLine_ok wi T lx vx t (l0.length + 2) b tail hx (by omega) hts hasc (by rw [hl, show l0 ++ 13 :: 10 :: (b ++ 13 :: 10 :: tail) = (l0 ++ [13, 10]) ++ (b ++ 13 :: 10 :: tail) by simp, List.drop_left' (by simp)]) hb
    rw [hB] at h
    exact h
  have CA : Hid (∀ wi, Calls Tryd.prog 60 #[.pointer (some ⟨T, 0, none⟩), .string B] wi fun e w' => e = .panicked (pan 2) ∧ Below wi.heap.size wi w') := by
    intro wi
    exact addField_no T B wi hBz (by rw [← hB]; exact hbc)
  have hne : B.toList.isEmpty = false := text_some (by rw [← hB]; show ¬ b.toArray.size = 0; simp; exact hb0)
  have HH : Hid (Rr E w0 T line v [] t 0 w) := H
  obtain ⟨k1, hk1⟩ : ∃ k, l0.length + 2 = k := ⟨_, rfl⟩
  rw [hk1] at c1 CN
  obtain ⟨k2, hk2⟩ : ∃ k, k1 + b.length + 2 = k := ⟨_, rfl⟩
  rw [hk2] at CN
  clear hl h0 h00 hL0 hL0z hB hBz hasc hs hlen hb hb0 hbc H hk1 hk2
  go_enter Tryd.func48, Tryd.ntmps48
  go_wp2_with fail
  refine c1.mono ?_
  rintro e w1 ⟨rfl, hx1, hg1⟩
  have H1 := HH.out.moved hg1 hx1
  obtain ⟨y0, y1, y2, y3⟩ := H1.box.cells
  have yf := H1.box.thaw 0
  have H2 := H1.setLine L0
  obtain ⟨z0, z1, z2, z3⟩ := H2.box.cells
  obtain ⟨w2, hw2⟩ : ∃ x, w1.setCell ⟨T, 0, none⟩ (.string L0) = x := ⟨_, rfl⟩
  rw [hw2] at H2
  have HW2 : Hid (w1.setCell ⟨T, 0, none⟩ (.string L0) = w2) := hw2
  have c2 := C2.out w2
  have cy := want_yes w2
  have HH2 : Hid (Rr E w0 T L0 v [] t k1 w2) := H2
  clear c1 hx1 hg1 H1 H2 hw2 HH C2
  go_wp2_with fail
  rw [HW2.out]
  refine c2.mono ?_
  rintro e w3 ⟨rfl, hw3⟩
  rw [hw3]
  clear y0 y1 y2 y3 yf c2 z0 z1 z2 z3
  go_wp2_with fail
  refine cy.mono ?_
  rintro e w4 ⟨rfl, hw4⟩
  rw [hw4]
  clear cy hw3 hw4
  have cn := CN.out L0 v w2 HH2.out.box
  go_wp2_with fail
  refine cn.mono ?_
  rintro e w5 ⟨rfl, hx5, hg5⟩
  have H5 := HH2.out.moved hg5 hx5
  clear cn hx5 hg5 HH2
  go_wp2_with fail
  go_loopw [2] (fun u wr => Box (u = .string B ∧ Hid (Rr E w0 T L0 v [] t k2 wr)))
    (fun _ _ => 0)
  case atStart => exact ⟨⟨rfl, H5⟩⟩
  case round =>
    obtain ⟨rfl, HR⟩ := hrel.out
    clear hrel H5
    have ca := CA.out wr
    go_wp2_with fail
    refine ca.mono ?_
    rintro e w6 ⟨rfl, hb6⟩
    have H6 := HR.out.next hb6
    go_wp2_with fail
    exact ⟨rfl, rfl, _, _, _, _, H6⟩
theorem readHead_none (w : World) (t : ByteArray) (hts : t.size ≤ 1048576) (hasc : ∀ x ∈ t.data.toList, x.toNat < 128) (l0 b tail : List UInt8) (hl : t.data.toList = l0 ++ 13 :: 10 :: (b ++ 13 :: 10 :: tail)) (h0 : NoEnd l0) (h00 : (decide (1 ≤ (⟨l0.toArray⟩ : ByteArray).size) && plainS ⟨l0.toArray⟩ 80) = true) (hb : NoEnd b) (hb0 : b ≠ []) (hbc : ∀ x ∈ b, x ≠ 58) :
    Calls Tryd.prog 7 #[.string t] w fun e w' => e = .returned (.tuple #[.agg #[.string ⟨#[]⟩, .slice none 0 0], .int .i64 0, .int .i64 2]) ∧ Below w.heap.size w w' := by
  have hR := (readW_rr w t).push #[.int .i64 0] 3 (by decide)
  exact readHead_pan w t 2 (by decide) (read_of_pan 2 (readW_rr w t) (beside_lt w t) (readLines_none _ w _ _ _ t _ hR hts hasc l0 b tail hl h0 h00 hb hb0 hbc))
set_option maxRecDepth 100000 in
set_option maxHeartbeats 4000000 in
theorem row_any (w : World) (m : Nat) (x : UInt8) (hm : m ≤ 1000) :
    Calls Tryd.prog 22 #[.int .i64 (m : Int), .string ⟨#[x]⟩] w fun e w' => e = .returned (.string ⟨(List.replicate m x).toArray⟩) ∧ w' = w := by
  go_enter Tryd.func22, Tryd.ntmps22
  go_wp2
  go_loopw [5, 6] (fun s i wr => Box (∃ (k : Nat) (S : ByteArray), k ≤ m ∧ i = .int .i64 k ∧ s = .string S ∧ Hid (S.data.toList = List.replicate k x) ∧ wr = w))
    (fun _ i _ => m - (intOf i).toNat)
  case atStart => exact ⟨⟨0, _, by omega, rfl, rfl, rfl, rfl⟩⟩
  case round =>
    obtain ⟨k, S, hk, rfl, rfl, HS, hwr⟩ := hrel.out
    clear hrel
    rw [hwr]
    clear hwr
    have hSz : S.size = k := by rw [Lib.size_eq, HS.out, List.length_replicate]
    by_cases hlt : k < m
    · have hc := fun w => run_string_add_sum (P := Tryd.prog) (w := w) S ⟨#[x]⟩ (by show _ + 1 ≤ _; omega)
      have HN : Hid ((S ++ ⟨#[x]⟩).data.toList = List.replicate (k + 1) x) := by
        show _ = _
        rw [List.replicate_succ']
        simp [HS.out]
      generalize S ++ ⟨#[x]⟩ = S2 at hc HN
      clear hSz
      go_wp2
      go_roundw
      case rel =>
        try ((repeat apply Exists.intro); refine ⟨?_, rfl⟩)
        exact ⟨⟨k + 1, S2, by omega, by go_num, rfl, HN, by first | rfl | trivial⟩⟩
      case measure => simp [intOf]; omega
    · have HE : Hid (S = ⟨(List.replicate m x).toArray⟩) := by
        show _ = _
        have : k = m := by omega
        rw [mk_ext S HS.out, this]
      clear hSz
      go_wp2
      go_ret
      exact ⟨by rw [← HE.out]; rfl, rfl⟩
end Go.Proofs.YtlefccgdeafinadDoor
