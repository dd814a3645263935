/- A reader of heads reads all lines. Written by mkread.py. -/
import Derived.Test.YtnnaphfeeobelaeGreatDoorHeadPlainJ
import Derived.Test.YtnnaphfeeobelaeGreatDoorNextImpl
import Derived.Test.YtnnaphfeeobelaeGreatDoorFieldOkImplJ
import Derived.Test.YtnnaphfeeobelaeGreatDoorHeadOkImpl
namespace Go.Proofs.YtnnaphfeeobelaeGreatDoor
open Go.RowKit Go.Sort
/-- The reader's place. -/
def atOf (w : World) (T : Nat) : Nat := match w.cell? ⟨T, 3, none⟩ with | some (.int _ k) => k.toNat | _ => 0
theorem Rr.atOf {E : List (Nat × Obj)} {w0 : World} {T : Nat} {line : ByteArray} {v : Value} {L : List (ByteArray × ByteArray)} {t : ByteArray} {k : Nat} {w : World} (h : Rr E w0 T line v L t k w) : Go.Proofs.YtnnaphfeeobelaeGreatDoor.atOf w T = k := by
  unfold Go.Proofs.YtnnaphfeeobelaeGreatDoor.atOf
  rw [h.box.cells.2.2.2]
  simp
theorem take_snocF {fs : List (ByteArray × ByteArray)} {i : Nat} (hi : i < fs.length) {f : ByteArray × ByteArray} (hf : fs[i] = f) : fs.take i ++ [f] = fs.take (i + 1) := by
  rw [List.take_succ_eq_append_getElem hi, hf]
set_option maxRecDepth 100000 in
set_option maxHeartbeats 8000000 in
theorem readLines_whole (E : List (Nat × Obj)) (w0 : World) (T : Nat) (line : ByteArray) (v : Value) (t : ByteArray) (w : World) (H : Rr E w0 T line v [] t 0 w) (hts : t.size ≤ 1048576) (hasc : ∀ x ∈ t.data.toList, x.toNat < 128) (l0 : List UInt8) (ms : List (List UInt8)) (tail : List UInt8) (fs : List (ByteArray × ByteArray)) (n : Nat)
    (hl : t.data.toList = l0 ++ 13 :: 10 :: (flatL ms ++ tail)) (h0 : NoEnd l0) (h00 : (decide (1 ≤ (⟨l0.toArray⟩ : ByteArray).size) && plainS ⟨l0.toArray⟩ 80) = true) (hms : ∀ i (h : i < ms.length), NoEnd ms[i]) (hfs : fs.length = n) (hn : n ≤ 8) (hml : ms.length = n + 1) (hF : ∀ i (_ : i < n) (h' : i < ms.length) (h'' : i < fs.length), LineF ms[i] fs[i]) (hlast : ∀ h : n < ms.length, ms[n] = []) (hOK : headOkS ⟨l0.toArray⟩ fs = true) :
    Calls Tryz.prog 39 #[.pointer (some ⟨T, 0, none⟩)] w fun e w' => e = .returned (.tuple #[]) ∧ ∃ u, Rr E w0 T ⟨l0.toArray⟩ u fs t (posL (l0.length + 2) ms (n + 1)) w' := by
  obtain ⟨o, ho⟩ : ∃ o, l0.length + 2 = o := ⟨_, rfl⟩
  have hdo : t.data.toList.drop o = flatL ms ++ tail := by
    rw [hl, show l0 ++ 13 :: 10 :: (flatL ms ++ tail) = (l0 ++ [13, 10]) ++ (flatL ms ++ tail) by simp, List.drop_left' (by simp; omega)]
  have hdl := drop_line t.data.toList o ms tail hdo
  have hda := drop_at t.data.toList o ms tail hdo
  have hps := posL_succ o ms
  have htl : t.data.toList.length = t.size := by simp
  have hle : ∀ i, i ≤ ms.length → posL o ms i ≤ t.size := by
    intro i hi
    by_cases hlt : i < ms.length
    · have h1 := congrArg List.length (hdl i hlt)
      rw [List.length_drop, List.length_append, List.length_cons, List.length_cons] at h1
      omega
    · have : i = ms.length := by omega
      subst this
      have h1 := congrArg List.length hl
      simp only [List.length_append, List.length_cons, htl] at h1
      have h2 : posL o ms ms.length = o + (flatL ms).length := by unfold posL; rw [List.take_length]
      omega
  obtain ⟨L0, hL0⟩ : ∃ B : ByteArray, (⟨l0.toArray⟩ : ByteArray) = B := ⟨_, rfl⟩
  have hL0z : L0.size ≤ 1048576 := by
    rw [← hL0]
    have h1 := congrArg List.length hl
    simp only [List.length_append, List.length_cons, htl] at h1
    show l0.toArray.size ≤ _
    simp
    omega
  have CN : Hid (∀ (i : Nat) (hi : i < ms.length) (lx : ByteArray) (vx : Value) (wi : World), RBx wi T lx vx t ((posL o ms i : Nat) : Int) → Calls Tryz.prog 53 #[.pointer (some ⟨T, 0, none⟩)] wi fun e w' => e = .returned (.string ⟨ms[i].toArray⟩) ∧ RBx w' T lx vx t ((posL o ms (i + 1) : Nat) : Int) ∧ wi.grownBy w' (some T)) := by
    intro i hi lx vx wi hx
    rw [hps i hi]
    exact nextLine_ok wi T lx vx t (posL o ms i) ms[i] _ hx (hle i (by omega)) hts hasc (hdl i hi) (hms i hi)
  have c1 : Calls Tryz.prog 53 #[.pointer (some ⟨T, 0, none⟩)] w fun e w' => e = .returned (.string L0) ∧ RBx w' T line v t ((posL o ms 0 : Nat) : Int) ∧ w.grownBy w' (some T) := by
    have h := nextLine_ok w T line v t 0 l0 (flatL ms ++ tail) H.box (by omega) hts hasc (by rw [List.drop_zero]; exact hl) h0
    rw [hL0, show 0 + l0.length + 2 = posL o ms 0 by rw [posL_zero]; omega] at h
    exact h
  rw [hL0] at h00
  have C2 : Hid (∀ wi, Calls Tryz.prog 50 #[.string L0] wi fun e w' => e = .returned (.bool true) ∧ w' = wi) := by
    intro wi
    have h := implLineOk_any L0 wi hL0z
    rw [h00] at h
    exact h
  have HD : Hid (∀ i (h : i < ms.length), posL o ms (i + 1) = posL o ms i + ms[i].length + 2 ∧ posL o ms (i + 1) ≤ t.size) := fun i h => ⟨hps i h, hle (i + 1) h⟩
  have CA : Hid (∀ (i : Nat) (hi : i < n) (hi' : i < ms.length) (u : Value) (kk : Nat) (wi : World) (B : ByteArray), B.data.toList = ms[i] → Rr E w0 T L0 u (fs.take i) t kk wi → Calls Tryz.prog 55 #[.pointer (some ⟨T, 0, none⟩), .string B] wi fun e w' => e = .returned (.tuple #[]) ∧ ∃ u', Rr E w0 T L0 u' (fs.take (i + 1)) t kk w') := by
    intro i hi hi' u kk wi B hB hR
    obtain ⟨nm, r, hb, hnm, hf, hok⟩ := hF i hi hi' (by omega)
    have hBz : B.size ≤ 1048576 := by
      rw [Lib.size_eq, hB]
      have := hle (i + 1) hi'
      have := hps i hi'
      omega
    have h := addField_ok E w0 T L0 u (fs.take i) t kk wi hR B nm r hBz (by rw [hB]; exact hb) hnm _ hf hok (by rw [List.length_take]; omega)
    rw [take_snocF (by omega) rfl] at h
    exact h
  rw [ho]
  rw [hL0] at hOK ⊢
  have HFF : Hid (∀ i (_ : i < n) (h' : i < ms.length) (h'' : i < fs.length), LineF ms[i] fs[i]) := hF
  have HLA : Hid (∀ h : n < ms.length, ms[n] = []) := hlast
  have hSZ := (headOk_sz hOK).1
  have COK : Hid (∀ (a : Option Addr) (c : Nat) (wi : World), DAt wi a fs wi.heap.size → Calls Tryz.prog 35 #[.agg #[.string L0, .slice a fs.length c]] wi fun e w' => e = .returned (.bool true) ∧ Below wi.heap.size wi w') := by
    intro a c wi hA
    have h := implOk_any wi a c L0 fs hA hSZ
    rw [hOK] at h
    exact h
  have HH : Hid (Rr E w0 T line v [] t 0 w) := H
  have HML : Hid (ms.length = n + 1 ∧ fs.length = n) := ⟨hml, hfs⟩
  have hml0 : 0 < ms.length := by omega
  clear hl h0 h00 hms hF hlast hdo hdl hda hps htl hle hL0 hL0z hasc hSZ hOK H ho hml hfs
  go_enter Tryz.func39, Tryz.ntmps39
  go_wp2_with fail
  refine c1.mono ?_
  rintro e w1 ⟨rfl, hx1, hg1⟩
  have H1 := HH.out.moved hg1 hx1
  obtain ⟨y0, y1, y2, y3⟩ := H1.box.cells
  have yf := H1.box.thaw 0
  have H2 := H1.setLine L0
  obtain ⟨z0, z1, z2, z3⟩ := H2.box.cells
  obtain ⟨w2, hw2⟩ : ∃ x, w1.setCell ⟨T, 0, none⟩ (.string L0) = x := ⟨_, rfl⟩
  rw [hw2] at H2
  have HW2 : Hid (w1.setCell ⟨T, 0, none⟩ (.string L0) = w2) := hw2
  have c2 := C2.out w2
  have cy := want_yes w2
  have HH2 : Hid (Rr E w0 T L0 v [] t (posL o ms 0) w2) := H2
  clear c1 hx1 hg1 H1 H2 hw2 HH C2
  go_wp2_with fail
  rw [HW2.out]
  refine c2.mono ?_
  rintro e w3 ⟨rfl, hw3⟩
  rw [hw3]
  clear y0 y1 y2 y3 yf c2 z0 z1 z2 z3
  go_wp2_with fail
  refine cy.mono ?_
  rintro e w4 ⟨rfl, hw4⟩
  rw [hw4]
  clear cy hw3 hw4
  have cn := CN.out 0 (by have := HML.out; omega) L0 v w2 HH2.out.box
  go_wp2_with fail
  refine cn.mono ?_
  rintro e w5 ⟨rfl, hx5, hg5⟩
  have H5 := HH2.out.moved hg5 hx5
  clear cn hx5 hg5 HH2
  go_wp2_with fail
  go_loopw [2] (fun u wr => Box (∃ (i : Nat) (B : ByteArray) (vx : Value), i < ms.length ∧ u = .string B ∧ Hid (∀ h : i < ms.length, B.data.toList = ms[i]) ∧ Hid (Rr E w0 T L0 vx (fs.take i) t (posL o ms (i + 1)) wr)))
    (fun _ wr => t.size + 1 - atOf wr T)
  case atStart => exact ⟨⟨0, _, _, by have := HML.out; omega, rfl, fun _ => rfl, H5⟩⟩
  case round =>
    obtain ⟨i, B, vx, hi, rfl, HB, HR⟩ := hrel.out
    clear hrel H5
    by_cases hin : i < n
    · skip
      have hBt : B.data.toList = ms[i] := HB.out hi
      have hne : B.toList.isEmpty = false := text_some (by
        rw [Lib.size_eq, hBt]
        intro e
        exact (HFF.out i hin hi (by have := HML.out; omega)).some (List.length_eq_zero_iff.1 e))
      have ca := CA.out i hin hi vx (posL o ms (i + 1)) wr B hBt HR.out
      have HA0 : Hid (atOf wr T = posL o ms (i + 1)) := HR.out.atOf
      clear hBt
      go_wp2_with fail
      refine ca.mono ?_
      rintro e w6 ⟨rfl, u6, H6⟩
      clear ca
      have cn := CN.out (i + 1) (by have := HML.out; omega) L0 u6 w6 H6.box
      go_wp2_with fail
      refine cn.mono ?_
      rintro e w7 ⟨rfl, hx7, hg7⟩
      have H7 := H6.moved hg7 hx7
      have HM : Hid (atOf w7 T = posL o ms (i + 1 + 1)) := H7.atOf
      clear cn hx7 hg7 H6
      go_wp2_with fail
      go_roundw
      case rel =>
        try ((repeat apply Exists.intro); refine ⟨?_, rfl⟩)
        exact ⟨⟨i + 1, _, u6, by have := HML.out; omega, rfl, fun _ => rfl, H7⟩⟩
      case measure =>
        have h1 := HD.out (i + 1) (by have := HML.out; omega)
        rw [HM.out, HA0.out]
        omega
    · have HIE : Hid (i = n) := by show _ = _; have := HML.out; omega
      have hBt : B.data.toList = [] := by
        have h := HLA.out
        rw [← HIE.out] at h
        rw [HB.out hi]; exact h hi
      obtain rfl : B = ⟨#[]⟩ := mk_ext B hBt
      have hft : fs.take i = fs := List.take_of_length_le (by have := HML.out; have := HIE.out; omega)
      have hR := HR.out
      rw [hft] at hR
      obtain ⟨a, c, rfl, hA⟩ := hR.at
      obtain ⟨y0, y1, y2, y3⟩ := hR.box.cells
      have co := COK.out a c wr hA
      have HR2 : Hid (Rr E w0 T L0 (.slice a fs.length c) fs t (posL o ms (i + 1)) wr) := hR
      clear hR hA HR HB hBt hft
      go_wp2_with fail
      refine co.mono ?_
      rintro e w8 ⟨rfl, hb8⟩
      have H8 := HR2.out.next hb8
      have cy := want_yes w8
      clear co y0 y1 y2 y3
      go_wp2_with fail
      refine cy.mono ?_
      rintro e w9 ⟨rfl, hw9⟩
      rw [hw9]
      go_wp2_with fail
      rw [HIE.out] at H8
      exact bodyPost_end (results_none rfl _ _ _) rfl ⟨rfl, _, H8⟩
set_option maxRecDepth 100000 in
set_option maxHeartbeats 8000000 in
theorem readLines_panics (E : List (Nat × Obj)) (w0 : World) (T : Nat) (line : ByteArray) (v : Value) (t : ByteArray) (w : World) (H : Rr E w0 T line v [] t 0 w) (hts : t.size ≤ 1048576) (hasc : ∀ x ∈ t.data.toList, x.toNat < 128) (l0 : List UInt8) (ms : List (List UInt8)) (tail : List UInt8) (fs : List (ByteArray × ByteArray)) (n : Nat)
    (hl : t.data.toList = l0 ++ 13 :: 10 :: (flatL ms ++ tail)) (h0 : NoEnd l0) (h00 : (decide (1 ≤ (⟨l0.toArray⟩ : ByteArray).size) && plainS ⟨l0.toArray⟩ 80) = true) (hms : ∀ i (h : i < ms.length), NoEnd ms[i]) (hfs : fs.length = n) (hn : n ≤ 8) (hml : ms.length = n) (hF : ∀ i (_ : i < n) (h' : i < ms.length) (h'' : i < fs.length), LineF ms[i] fs[i]) (c : Int) (hpan : ∀ (lx : ByteArray) (vx : Value) (wi : World), RBx wi T lx vx t ((posL (l0.length + 2) ms n : Nat) : Int) → Calls Tryz.prog 53 #[.pointer (some ⟨T, 0, none⟩)] wi fun e w' => e = .panicked (pan c) ∧ Below wi.heap.size wi w') :
    Calls Tryz.prog 39 #[.pointer (some ⟨T, 0, none⟩)] w fun e w' => e = .panicked (pan c) ∧ ∃ lx u M k, Rr E w0 T lx u M t k w' := by
  obtain ⟨o, ho⟩ : ∃ o, l0.length + 2 = o := ⟨_, rfl⟩
  have hdo : t.data.toList.drop o = flatL ms ++ tail := by
    rw [hl, show l0 ++ 13 :: 10 :: (flatL ms ++ tail) = (l0 ++ [13, 10]) ++ (flatL ms ++ tail) by simp, List.drop_left' (by simp; omega)]
  have hdl := drop_line t.data.toList o ms tail hdo
  have hda := drop_at t.data.toList o ms tail hdo
  have hps := posL_succ o ms
  have htl : t.data.toList.length = t.size := by simp
  have hle : ∀ i, i ≤ ms.length → posL o ms i ≤ t.size := by
    intro i hi
    by_cases hlt : i < ms.length
    · have h1 := congrArg List.length (hdl i hlt)
      rw [List.length_drop, List.length_append, List.length_cons, List.length_cons] at h1
      omega
    · have : i = ms.length := by omega
      subst this
      have h1 := congrArg List.length hl
      simp only [List.length_append, List.length_cons, htl] at h1
      have h2 : posL o ms ms.length = o + (flatL ms).length := by unfold posL; rw [List.take_length]
      omega
  obtain ⟨L0, hL0⟩ : ∃ B : ByteArray, (⟨l0.toArray⟩ : ByteArray) = B := ⟨_, rfl⟩
  have hL0z : L0.size ≤ 1048576 := by
    rw [← hL0]
    have h1 := congrArg List.length hl
    simp only [List.length_append, List.length_cons, htl] at h1
    show l0.toArray.size ≤ _
    simp
    omega
  have CN : Hid (∀ (i : Nat) (hi : i < ms.length) (lx : ByteArray) (vx : Value) (wi : World), RBx wi T lx vx t ((posL o ms i : Nat) : Int) → Calls Tryz.prog 53 #[.pointer (some ⟨T, 0, none⟩)] wi fun e w' => e = .returned (.string ⟨ms[i].toArray⟩) ∧ RBx w' T lx vx t ((posL o ms (i + 1) : Nat) : Int) ∧ wi.grownBy w' (some T)) := by
    intro i hi lx vx wi hx
    rw [hps i hi]
    exact nextLine_ok wi T lx vx t (posL o ms i) ms[i] _ hx (hle i (by omega)) hts hasc (hdl i hi) (hms i hi)
  have c1 : Calls Tryz.prog 53 #[.pointer (some ⟨T, 0, none⟩)] w fun e w' => e = .returned (.string L0) ∧ RBx w' T line v t ((posL o ms 0 : Nat) : Int) ∧ w.grownBy w' (some T) := by
    have h := nextLine_ok w T line v t 0 l0 (flatL ms ++ tail) H.box (by omega) hts hasc (by rw [List.drop_zero]; exact hl) h0
    rw [hL0, show 0 + l0.length + 2 = posL o ms 0 by rw [posL_zero]; omega] at h
    exact h
  rw [hL0] at h00
  have C2 : Hid (∀ wi, Calls Tryz.prog 50 #[.string L0] wi fun e w' => e = .returned (.bool true) ∧ w' = wi) := by
    intro wi
    have h := implLineOk_any L0 wi hL0z
    rw [h00] at h
    exact h
  have HD : Hid (∀ i (h : i < ms.length), posL o ms (i + 1) = posL o ms i + ms[i].length + 2 ∧ posL o ms (i + 1) ≤ t.size) := fun i h => ⟨hps i h, hle (i + 1) h⟩
  have CA : Hid (∀ (i : Nat) (hi : i < n) (hi' : i < ms.length) (u : Value) (kk : Nat) (wi : World) (B : ByteArray), B.data.toList = ms[i] → Rr E w0 T L0 u (fs.take i) t kk wi → Calls Tryz.prog 55 #[.pointer (some ⟨T, 0, none⟩), .string B] wi fun e w' => e = .returned (.tuple #[]) ∧ ∃ u', Rr E w0 T L0 u' (fs.take (i + 1)) t kk w') := by
    intro i hi hi' u kk wi B hB hR
    obtain ⟨nm, r, hb, hnm, hf, hok⟩ := hF i hi hi' (by omega)
    have hBz : B.size ≤ 1048576 := by
      rw [Lib.size_eq, hB]
      have := hle (i + 1) hi'
      have := hps i hi'
      omega
    have h := addField_ok E w0 T L0 u (fs.take i) t kk wi hR B nm r hBz (by rw [hB]; exact hb) hnm _ hf hok (by rw [List.length_take]; omega)
    rw [take_snocF (by omega) rfl] at h
    exact h
  rw [ho] at hpan
  have HPN : Hid (∀ (lx : ByteArray) (vx : Value) (wi : World), RBx wi T lx vx t ((posL o ms n : Nat) : Int) → Calls Tryz.prog 53 #[.pointer (some ⟨T, 0, none⟩)] wi fun e w' => e = .panicked (pan c) ∧ Below wi.heap.size wi w') := hpan
  have HFF : Hid (∀ i (_ : i < n) (h' : i < ms.length) (h'' : i < fs.length), LineF ms[i] fs[i]) := hF
  have HH : Hid (Rr E w0 T line v [] t 0 w) := H
  have HML : Hid (ms.length = n ∧ fs.length = n) := ⟨hml, hfs⟩
  clear hl h0 h00 hms hF hdo hdl hda hps htl hle hL0 hL0z hasc H ho hpan hml hfs
  by_cases hn0 : n = 0
  · subst hn0
    -- the line behind the first one panics
    go_enter Tryz.func39, Tryz.ntmps39
    go_wp2_with fail
    refine c1.mono ?_
    rintro e w1 ⟨rfl, hx1, hg1⟩
    have H1 := HH.out.moved hg1 hx1
    obtain ⟨y0, y1, y2, y3⟩ := H1.box.cells
    have yf := H1.box.thaw 0
    have H2 := H1.setLine L0
    obtain ⟨z0, z1, z2, z3⟩ := H2.box.cells
    obtain ⟨w2, hw2⟩ : ∃ x, w1.setCell ⟨T, 0, none⟩ (.string L0) = x := ⟨_, rfl⟩
    rw [hw2] at H2
    have HW2 : Hid (w1.setCell ⟨T, 0, none⟩ (.string L0) = w2) := hw2
    have c2 := C2.out w2
    have cy := want_yes w2
    have HH2 : Hid (Rr E w0 T L0 v [] t (posL o ms 0) w2) := H2
    clear c1 hx1 hg1 H1 H2 hw2 HH C2
    go_wp2_with fail
    rw [HW2.out]
    refine c2.mono ?_
    rintro e w3 ⟨rfl, hw3⟩
    rw [hw3]
    clear y0 y1 y2 y3 yf c2 z0 z1 z2 z3
    go_wp2_with fail
    refine cy.mono ?_
    rintro e w4 ⟨rfl, hw4⟩
    rw [hw4]
    clear cy hw3 hw4
    have cp := HPN.out L0 v w2 HH2.out.box
    go_wp2_with fail
    refine cp.mono ?_
    rintro e w5 ⟨rfl, hb5⟩
    have H5 := HH2.out.next hb5
    go_wp2_with fail
    exact ⟨rfl, rfl, _, _, _, _, H5⟩
  go_enter Tryz.func39, Tryz.ntmps39
  go_wp2_with fail
  refine c1.mono ?_
  rintro e w1 ⟨rfl, hx1, hg1⟩
  have H1 := HH.out.moved hg1 hx1
  obtain ⟨y0, y1, y2, y3⟩ := H1.box.cells
  have yf := H1.box.thaw 0
  have H2 := H1.setLine L0
  obtain ⟨z0, z1, z2, z3⟩ := H2.box.cells
  obtain ⟨w2, hw2⟩ : ∃ x, w1.setCell ⟨T, 0, none⟩ (.string L0) = x := ⟨_, rfl⟩
  rw [hw2] at H2
  have HW2 : Hid (w1.setCell ⟨T, 0, none⟩ (.string L0) = w2) := hw2
  have c2 := C2.out w2
  have cy := want_yes w2
  have HH2 : Hid (Rr E w0 T L0 v [] t (posL o ms 0) w2) := H2
  clear c1 hx1 hg1 H1 H2 hw2 HH C2
  go_wp2_with fail
  rw [HW2.out]
  refine c2.mono ?_
  rintro e w3 ⟨rfl, hw3⟩
  rw [hw3]
  clear y0 y1 y2 y3 yf c2 z0 z1 z2 z3
  go_wp2_with fail
  refine cy.mono ?_
  rintro e w4 ⟨rfl, hw4⟩
  rw [hw4]
  clear cy hw3 hw4
  have cn := CN.out 0 (by have := HML.out; omega) L0 v w2 HH2.out.box
  go_wp2_with fail
  refine cn.mono ?_
  rintro e w5 ⟨rfl, hx5, hg5⟩
  have H5 := HH2.out.moved hg5 hx5
  clear cn hx5 hg5 HH2
  go_wp2_with fail
  go_loopw [2] (fun u wr => Box (∃ (i : Nat) (B : ByteArray) (vx : Value), i < ms.length ∧ u = .string B ∧ Hid (∀ h : i < ms.length, B.data.toList = ms[i]) ∧ Hid (Rr E w0 T L0 vx (fs.take i) t (posL o ms (i + 1)) wr)))
    (fun _ wr => t.size + 1 - atOf wr T)
  case atStart => exact ⟨⟨0, _, _, by have := HML.out; omega, rfl, fun _ => rfl, H5⟩⟩
  case round =>
    obtain ⟨i, B, vx, hi, rfl, HB, HR⟩ := hrel.out
    clear hrel H5
    have hin : i < n := by have := HML.out; omega
    by_cases hlt : i + 1 < n
    · skip
      have hBt : B.data.toList = ms[i] := HB.out hi
      have hne : B.toList.isEmpty = false := text_some (by
        rw [Lib.size_eq, hBt]
        intro e
        exact (HFF.out i hin hi (by have := HML.out; omega)).some (List.length_eq_zero_iff.1 e))
      have ca := CA.out i hin hi vx (posL o ms (i + 1)) wr B hBt HR.out
      have HA0 : Hid (atOf wr T = posL o ms (i + 1)) := HR.out.atOf
      clear hBt
      go_wp2_with fail
      refine ca.mono ?_
      rintro e w6 ⟨rfl, u6, H6⟩
      clear ca
      have cn := CN.out (i + 1) (by have := HML.out; omega) L0 u6 w6 H6.box
      go_wp2_with fail
      refine cn.mono ?_
      rintro e w7 ⟨rfl, hx7, hg7⟩
      have H7 := H6.moved hg7 hx7
      have HM : Hid (atOf w7 T = posL o ms (i + 1 + 1)) := H7.atOf
      clear cn hx7 hg7 H6
      go_wp2_with fail
      go_roundw
      case rel =>
        try ((repeat apply Exists.intro); refine ⟨?_, rfl⟩)
        exact ⟨⟨i + 1, _, u6, by have := HML.out; omega, rfl, fun _ => rfl, H7⟩⟩
      case measure =>
        have h1 := HD.out (i + 1) (by have := HML.out; omega)
        rw [HM.out, HA0.out]
        omega
    · have HIE : Hid (n = i + 1) := by show _ = _; omega
      have hBt : B.data.toList = ms[i] := HB.out hi
      have hne : B.toList.isEmpty = false := text_some (by
        rw [Lib.size_eq, hBt]
        intro e
        exact (HFF.out i hin hi (by have := HML.out; omega)).some (List.length_eq_zero_iff.1 e))
      have ca := CA.out i hin hi vx (posL o ms (i + 1)) wr B hBt HR.out
      have HA0 : Hid (atOf wr T = posL o ms (i + 1)) := HR.out.atOf
      clear hBt
      go_wp2_with fail
      refine ca.mono ?_
      rintro e w6 ⟨rfl, u6, H6⟩
      clear ca
      have cp := HPN.out L0 u6 w6 (by rw [HIE.out]; exact H6.box)
      go_wp2_with fail
      refine cp.mono ?_
      rintro e w7 ⟨rfl, hb7⟩
      have H7 := H6.next hb7
      go_wp2_with fail
      exact ⟨rfl, rfl, _, _, _, _, H7⟩
set_option maxRecDepth 100000 in
set_option maxHeartbeats 4000000 in
theorem readLines_first (E : List (Nat × Obj)) (w0 : World) (T : Nat) (line : ByteArray) (v : Value) (t : ByteArray) (w : World) (H : Rr E w0 T line v [] t 0 w) (c : Int) (hp : Calls Tryz.prog 53 #[.pointer (some ⟨T, 0, none⟩)] w fun e w' => e = .panicked (pan c) ∧ Below w.heap.size w w') :
    Calls Tryz.prog 39 #[.pointer (some ⟨T, 0, none⟩)] w fun e w' => e = .panicked (pan c) ∧ ∃ lx u M k, Rr E w0 T lx u M t k w' := by
  go_enter Tryz.func39, Tryz.ntmps39
  go_wp2_with fail
  refine hp.mono ?_
  rintro e w1 ⟨rfl, hb1⟩
  have H1 := H.next hb1
  go_wp2_with fail
  exact ⟨rfl, rfl, _, _, _, _, H1⟩
end Go.Proofs.YtnnaphfeeobelaeGreatDoor
