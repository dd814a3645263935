/- Texts that stand in one: HeadsPlain, TargetPlain, StatusPlain, FigPlain. -/
import Derived.Test.YtnnaphfeeobelaeGreatDoorHeadDraw
import Derived.Test.YtnnaphfeeobelaeGreatDoorHeadPlainJ
import Derived.Lib.Strings
import Derived.Test.YtnnaphfeeobelaeGreatDoorBytes
namespace Go.Proofs.YtnnaphfeeobelaeGreatDoor
open Go.RowKit
/-- The line of a field. -/
def fldL (f : ByteArray × ByteArray) : List UInt8 := f.1.data.toList ++ 58 :: 32 :: f.2.data.toList
theorem fldT_list (f : ByteArray × ByteArray) : (fldT f).data.toList = fldL f ++ [13, 10] := by
  unfold fldT fldL colonB crlf
  simp
theorem linesT_list : ∀ L : List (ByteArray × ByteArray), (linesT L).data.toList = flatL (L.map fldL)
  | [] => rfl
  | f :: L => by
    unfold linesT
    rw [List.map_cons, flatL_cons]
    have h1 := fldT_list f
    have h2 := linesT_list L
    simp [h1, h2]
/-- The lines of a head behind the first one: its fields', and an empty one. -/
def linesOf (L : List (ByteArray × ByteArray)) : List (List UInt8) := L.map fldL ++ [[]]
theorem headT_list (line : ByteArray) (L : List (ByteArray × ByteArray)) : (headT line L).data.toList = line.data.toList ++ 13 :: 10 :: flatL (linesOf L) := by
  unfold headT linesOf
  rw [flatL_append]
  have h := linesT_list L
  unfold crlf
  simp [h, flatL]
theorem linesOf_len (L : List (ByteArray × ByteArray)) : (linesOf L).length = L.length + 1 := by simp [linesOf]
theorem linesOf_last (L : List (ByteArray × ByteArray)) (h : L.length < (linesOf L).length) : (linesOf L)[L.length] = [] := by
  have h2 : (linesOf L)[L.length]? = some [] := by simp [linesOf]
  exact (List.getElem?_eq_some_iff.1 h2).2
theorem linesOf_at (L : List (ByteArray × ByteArray)) (i : Nat) (hi : i < L.length) (h : i < (linesOf L).length) : (linesOf L)[i] = fldL L[i] := by
  have h2 : (linesOf L)[i]? = some (fldL L[i]) := by
    unfold linesOf
    rw [List.getElem?_append_left (by simpa using hi)]
    simp [hi]
  exact (List.getElem?_eq_some_iff.1 h2).2
/-- Bytes of a head's words. -/
def wordB (b : UInt8) : Bool := decide (32 ≤ b.toNat ∧ b.toNat ≤ 126)
theorem fn_ok : ∀ z ∈ fnL, (z.data.toList.all fun b => nameB b.toNat && !(b == 58)) = true ∧ lowL z.data.toList = z.data.toList ∧ 1 ≤ z.size := by decide
theorem fv_ok : ∀ z ∈ fvL, (z.data.toList.all fun b => wordB b) = true ∧ Lib.trimB (32 :: z.data.toList) 32 = z.data.toList ∧ (z.size = 0 ∨ (¬ (z.data.toList.getD 0 0).toNat = 32 ∧ ¬ (z.data.toList.getD (z.size - 1) 0).toNat = 32)) := by decide
theorem hl_ok : ∀ z ∈ hlL, (z.data.toList.all fun b => wordB b) = true ∧ 1 ≤ z.size := by decide
theorem wordB_noEnd {l : List UInt8} (h : (l.all fun b => wordB b) = true) : NoEnd l := by
  rw [List.all_eq_true] at h
  intro x hx
  have := h x hx
  unfold wordB at this
  rw [decide_eq_true_eq] at this
  constructor
  · rintro rfl; revert this; decide
  · rintro rfl; revert this; decide
theorem nameB_word {b : UInt8} (h : nameB b.toNat = true) : wordB b = true := by
  unfold nameB at h
  unfold wordB
  simp only [Bool.or_eq_true, decide_eq_true_eq] at h ⊢
  omega
theorem mk_same (z : ByteArray) : (⟨z.data.toList.toArray⟩ : ByteArray) = z := Lib.mk_data z
theorem FdD.words {f : ByteArray × ByteArray} (h : FdD f) : (fldL f).all (fun b => wordB b) = true := by
  have h1 := (fn_ok f.1 h.1).1
  have h2 := (fv_ok f.2 h.2).1
  rw [List.all_eq_true] at h1
  unfold fldL
  rw [List.all_append, List.all_cons, List.all_cons, h2, List.all_eq_true.2 (fun x hx => nameB_word (by have := h1 x hx; rw [Bool.and_eq_true] at this; exact this.1))]
  rfl
theorem FdD.ok {f : ByteArray × ByteArray} (h : FdD f) : fieldOkS f = true := by
  have h1 := fn_ok f.1 h.1
  have h2 := fv_ok f.2 h.2
  have l1 := fnL_len f.1 h.1
  have l2 := fvL_len f.2 h.2
  unfold fieldOkS nameOkS plainS trimS allB
  have e1 : (f.1.data.toList.all fun b => nameB b.toNat) = true := by
    have := h1.1
    rw [List.all_eq_true] at this ⊢
    intro x hx
    have := this x hx
    rw [Bool.and_eq_true] at this
    exact this.1
  have e2 : (f.2.data.toList.all fun b => plainB b.toNat) = true := h2.1
  rw [e1, e2, decide_eq_true (show 1 ≤ f.1.size ∧ f.1.size ≤ 20 from ⟨h1.2.2, by omega⟩), decide_eq_true (show (f.2.size : Int) ≤ 60 by omega)]
  rcases h2.2.2 with h0 | ⟨ha, hb⟩
  · rw [decide_eq_true h0]; rfl
  · rw [decide_eq_false ha, decide_eq_false hb]; simp
theorem FdD.line {f : ByteArray × ByteArray} (h : FdD f) : LineF (fldL f) f := by
  have h1 := fn_ok f.1 h.1
  have h2 := fv_ok f.2 h.2
  refine ⟨f.1.data.toList, 32 :: f.2.data.toList, rfl, fun x hx => ?_, ?_, h.ok⟩
  · have := h1.1
    rw [List.all_eq_true] at this
    have := this x hx
    rw [Bool.and_eq_true] at this
    simpa using this.2
  · rw [h1.2.1, mk_same]
    have : trimT ⟨(32 :: f.2.data.toList).toArray⟩ = f.2 := by
      unfold trimT
      rw [show (⟨(32 :: f.2.data.toList).toArray⟩ : ByteArray).data.toList = 32 :: f.2.data.toList from rfl, h2.2.1, mk_same]
    rw [this]
theorem wgtT_drawn : ∀ (L : List (ByteArray × ByteArray)), (∀ f ∈ L, FdD f) → wgtT L ≤ 35 * L.length
  | [], _ => by simp [wgtT]
  | f :: L, h => by
    have h1 := wgtT_drawn L (fun g hg => h g (List.mem_cons_of_mem _ hg))
    have h2 := h f List.mem_cons_self
    have l1 := fnL_len f.1 h2.1
    have l2 := fvL_len f.2 h2.2
    unfold wgtT at *
    simp only [List.map_cons, List.sum_cons, List.length_cons]
    omega
theorem drawn_ok {line : ByteArray} {L : List (ByteArray × ByteArray)} (h1 : line ∈ hlL) (h2 : ∀ f ∈ L, FdD f) (h3 : L.length ≤ 3) : headOkS line L = true ∧ (headT line L).size ≤ 200 := by
  have hl := hl_ok line h1
  have l1 := hlL_len line h1
  have hw := wgtT_drawn L h2
  have hs := headT_size line L
  have e1 : allB plainB line = true := hl.1
  have e2 : L.all fieldOkS = true := by rw [List.all_eq_true]; exact fun f hf => (h2 f hf).ok
  refine ⟨?_, by omega⟩
  unfold headOkS plainS
  rw [e1, e2, decide_eq_true (show 1 ≤ line.size from hl.2), decide_eq_true (show (line.size : Int) ≤ 80 by omega), decide_eq_true (show L.length ≤ 8 by omega), decide_eq_true (show (headT line L).size ≤ 300 by omega)]
  rfl
/-- A text of lines is cut: whole lines, and a beginning of the next one. -/
theorem cut_flat : ∀ (ms : List (List UInt8)) (m : Nat), m < (flatL ms).length → ∃ i, ∃ hi : i < ms.length, ∃ d, d < ms[i].length + 2 ∧ (flatL ms).take m = flatL (ms.take i) ++ (ms[i] ++ [13, 10]).take d
  | [], m, h => by simp [flatL] at h
  | b :: ms, m, h => by
    by_cases hm : m < b.length + 2
    · refine ⟨0, by simp, m, by simpa using hm, ?_⟩
      rw [flatL_cons, show b ++ 13 :: 10 :: flatL ms = (b ++ [13, 10]) ++ flatL ms by simp]
      rw [List.take_append_of_le_length (by simp; omega)]
      simp [flatL]
    · have hl : (flatL (b :: ms)).length = b.length + 2 + (flatL ms).length := by rw [flatL_cons]; simp; omega
      obtain ⟨i, hi, d, hd, he⟩ := cut_flat ms (m - (b.length + 2)) (by omega)
      refine ⟨i + 1, by simpa using hi, d, by simpa using hd, ?_⟩
      rw [flatL_cons, show b ++ 13 :: 10 :: flatL ms = (b ++ [13, 10]) ++ flatL ms by simp, List.take_append, List.take_of_length_le (by simp; omega), List.take_succ_cons, flatL_cons]
      have e : m - (b ++ [13, 10]).length = m - (b.length + 2) := by simp
      rw [e, he]
      simp
theorem take_line (b : List UInt8) (d : Nat) (hd : d < b.length + 2) : (b ++ [13, 10]).take d = b.take d ∨ (b ++ [13, 10]).take d = b ++ [13] := by
  by_cases h : d ≤ b.length
  · left; rw [List.take_append_of_le_length h]
  · right
    have : d = b.length + 1 := by omega
    subst this
    rw [List.take_append, List.take_of_length_le (by omega)]
    simp
end Go.Proofs.YtnnaphfeeobelaeGreatDoor

namespace Go.Proofs.YtnnaphfeeobelaeGreatDoor
open Go.RowKit
def getL : List UInt8 := [71, 69, 84, 32]
def httpL : List UInt8 := [32, 72, 84, 84, 80, 47, 49, 46, 49]
def tgtB (b : Nat) : Bool := decide (33 ≤ b ∧ b ≤ 126)
/-- A target that is right. -/
def tgtOk (t : ByteArray) : Bool := decide (1 ≤ t.size ∧ t.size ≤ 20) && allB tgtB t && decide (t.data.toList.getD 0 0 = 47)
/-- What stands between the two words. -/
def tgtOf (line : ByteArray) : ByteArray := ⟨((line.data.toList.drop 4).take (line.data.toList.length - 13)).toArray⟩
def tgtLine (line : ByteArray) : Bool := Lib.hasPrefix line.data.toList getL && Lib.hasSuffix (line.data.toList.drop 4) httpL
def targetS (line : ByteArray) : ByteArray × Bool := if (tgtLine line && tgtOk (tgtOf line)) = true then (tgtOf line, true) else (⟨#[]⟩, false)
theorem targetS_no {line : ByteArray} (h : tgtLine line = false ∨ tgtOk (tgtOf line) = false) : targetS line = (⟨#[]⟩, false) := by
  unfold targetS
  rw [if_neg]
  rcases h with h | h <;> rw [h] <;> simp
theorem targetS_yes {line : ByteArray} (h : tgtLine line = true) (h' : tgtOk (tgtOf line) = true) : targetS line = (tgtOf line, true) := by
  unfold targetS
  rw [if_pos (by rw [h, h']; rfl)]
theorem tgtOf_size (line : ByteArray) : (tgtOf line).size = min (line.size - 13) (line.size - 4) := by
  show ((line.data.toList.drop 4).take (line.data.toList.length - 13)).toArray.size = _
  simp
theorem hasPrefix_take (l p : List UInt8) (h : p.length ≤ l.length) : Lib.hasPrefix l p = (l.take p.length == p) := by
  rw [← Lib.hasPrefix_of_take, decide_eq_true h, Bool.true_and]
theorem hasSuffix_drop (l p : List UInt8) (h : p.length ≤ l.length) : Lib.hasSuffix l p = (l.drop (l.length - p.length) == p) := by
  rw [← Lib.hasSuffix_of_drop, decide_eq_true h, Bool.true_and]
theorem tgtLine_short {line : ByteArray} (h : line.size < 13) : tgtLine line = false := by
  unfold tgtLine
  have : Lib.hasSuffix (line.data.toList.drop 4) httpL = false := by
    rw [← Lib.hasSuffix_of_drop, decide_eq_false, Bool.false_and]
    simp only [List.length_drop, httpL, List.length_cons, List.length_nil]
    rw [← Lib.size_eq]
    omega
  rw [this, Bool.and_false]
theorem tgtLine_at {line : ByteArray} (h : 13 ≤ line.size) : tgtLine line = (((line.extract 0 4).toList == getL) && ((line.extract (line.size - 9) line.size).toList == httpL)) := by
  unfold tgtLine
  have hs := Lib.size_eq line
  rw [hasPrefix_take _ _ (by show 4 ≤ _; omega), hasSuffix_drop _ _ (by rw [List.length_drop]; show 9 ≤ _; omega), Lib.extract_toList, Lib.extract_toList, List.drop_zero, List.drop_drop, List.length_drop]
  show ((line.data.toList.take 4 == getL) && (line.data.toList.drop (4 + (line.data.toList.length - 4 - 9)) == httpL)) = _
  rw [show 4 + (line.data.toList.length - 4 - 9) = line.size - 9 by omega, List.take_of_length_le (l := line.data.toList.drop (line.size - 9)) (by rw [List.length_drop]; omega)]
theorem tgtOf_at (line : ByteArray) : tgtOf line = line.extract 4 (line.size - 9) := by
  unfold tgtOf
  rw [Lib.extract_eq, ← Lib.size_eq]
  congr 3
theorem first_at {s : ByteArray} (h : 0 < s.size) : s.data.toList.getD 0 0 = s[0] := by
  simp [List.getD_eq_getElem?_getD, Array.getElem?_eq_getElem (show 0 < s.data.size from h)]; rfl
end Go.Proofs.YtnnaphfeeobelaeGreatDoor

namespace Go.Proofs.YtnnaphfeeobelaeGreatDoor
open Go.RowKit
def stL : List UInt8 := [72, 84, 84, 80, 47, 49, 46, 49, 32]
/-- The byte at a place. -/
def byteAt (line : ByteArray) (q : Nat) : Nat := (line.data.toList.getD q 0).toNat
def digB (b : Nat) : Bool := decide (48 ≤ b ∧ b ≤ 57)
def stOk (line : ByteArray) : Bool := decide (13 ≤ line.size) && ((line.extract 0 9).toList == stL) && decide (byteAt line 12 = 32)
def stv (line : ByteArray) : Nat → Nat
  | 0 => 0
  | j + 1 => 10 * stv line j + byteAt line (9 + j) - 48
def stDig (line : ByteArray) : Bool := digB (byteAt line 9) && digB (byteAt line 10) && digB (byteAt line 11)
def statusS (line : ByteArray) : Int × Bool := if (stOk line && stDig line && decide (100 ≤ stv line 3 ∧ stv line 3 ≤ 599)) = true then ((stv line 3 : Int), true) else (0, false)
theorem statusS_no {line : ByteArray} (h : stOk line = false ∨ stDig line = false ∨ ¬ (100 ≤ stv line 3 ∧ stv line 3 ≤ 599)) : statusS line = (0, false) := by
  unfold statusS
  rw [if_neg]
  rcases h with h | h | h
  · rw [h]; simp
  · rw [h]; simp
  · rw [decide_eq_false h]; simp
theorem statusS_yes {line : ByteArray} (h : stOk line = true) (h' : stDig line = true) (h'' : 100 ≤ stv line 3 ∧ stv line 3 ≤ 599) : statusS line = ((stv line 3 : Int), true) := by
  unfold statusS
  rw [if_pos (by rw [h, h', decide_eq_true h'']; rfl)]
theorem byteAt_at {s : ByteArray} {q : Nat} (h : q < s.size) : byteAt s q = s[q].toNat := by
  unfold byteAt
  congr 1
  simp [List.getD_eq_getElem?_getD, Array.getElem?_eq_getElem (show q < s.data.size from h)]; rfl
theorem stDig_no {line : ByteArray} {q : Nat} (h9 : 9 ≤ q) (h11 : q < 12) (h : digB (byteAt line q) = false) : stDig line = false := by
  unfold stDig
  rcases (show q = 9 ∨ q = 10 ∨ q = 11 by omega) with rfl | rfl | rfl <;> rw [h] <;> simp
theorem stDig_go {line : ByteArray} (h : ∀ q, 9 ≤ q → q < 12 → digB (byteAt line q) = true) : stDig line = true := by
  unfold stDig
  rw [h 9 (by omega) (by omega), h 10 (by omega) (by omega), h 11 (by omega) (by omega)]
  rfl
end Go.Proofs.YtnnaphfeeobelaeGreatDoor

namespace Go.Proofs.YtnnaphfeeobelaeGreatDoor
open Go.RowKit

/-- A figure. -/
def fig (x : Nat) : UInt8 := if x < 10 then UInt8.ofNat (48 + x) else UInt8.ofNat (87 + x)

theorem fig_lo {x : Nat} (h : x < 10) : (fig x).toNat = 48 + x := by simp [fig, h]; omega

theorem fig_hi {x : Nat} (h : ¬ x < 10) (h2 : x < 16) : (fig x).toNat = 87 + x := by simp [fig, h]; omega
end Go.Proofs.YtnnaphfeeobelaeGreatDoor
