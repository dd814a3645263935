/- Texts that stand in one: HeadPlain, HeadTextPlain. -/
import Derived.Test.YtnnaphfeeobeladDoorFieldRows
namespace Go.Proofs.YtnnaphfeeobeladDoor
open Go.RowKit

/-- All bytes of a text are such ones. -/
def allB (p : Nat → Bool) (s : ByteArray) : Bool := s.data.toList.all fun b => p b.toNat
theorem allB_go {p : Nat → Bool} {s : ByteArray} (h : ∀ q (hq : q < s.size), p s[q].toNat = true) : allB p s = true := by
  unfold allB
  rw [List.all_eq_true]
  intro b hb
  obtain ⟨j, hj, rfl⟩ := List.getElem_of_mem hb
  exact h j (by simpa using hj)
theorem allB_no {p : Nat → Bool} {s : ByteArray} {k : Nat} (hk : k < s.size) (h : p s[k].toNat = false) : allB p s = false := by
  unfold allB
  rw [Bool.eq_false_iff]
  intro e
  rw [List.all_eq_true] at e
  have := e (s.data.toList[k]'(by simpa using hk)) (List.getElem_mem _)
  have e2 : s.data.toList[k]'(by simpa using hk) = s[k] := by simp; rfl
  rw [e2, h] at this
  cases this
def nameB (b : Nat) : Bool := decide (97 ≤ b ∧ b ≤ 122) || decide (b = 45)
def plainB (b : Nat) : Bool := decide (32 ≤ b ∧ b ≤ 126)
def nameOkS (s : ByteArray) : Bool := allB nameB s && decide (1 ≤ s.size ∧ s.size ≤ 20)
def plainS (s : ByteArray) (most : Int) : Bool := allB plainB s && decide ((s.size : Int) ≤ most)
/-- No blank first or last. -/
def trimS (s : ByteArray) : Bool := decide (s.size = 0) || (!decide ((s.data.toList.getD 0 0).toNat = 32) && !decide ((s.data.toList.getD (s.size - 1) 0).toNat = 32))
def fieldOkS (f : ByteArray × ByteArray) : Bool := nameOkS f.1 && plainS f.2 60 && trimS f.2
end Go.Proofs.YtnnaphfeeobeladDoor

namespace Go.Proofs.YtnnaphfeeobeladDoor
open Go.RowKit

def crlf : ByteArray := ⟨#[13, 10]⟩
def colonB : ByteArray := ⟨#[58, 32]⟩
def fldT (f : ByteArray × ByteArray) : ByteArray := ((f.1 ++ colonB) ++ f.2) ++ crlf
def linesT : List (ByteArray × ByteArray) → ByteArray
  | [] => ⟨#[]⟩
  | f :: L => fldT f ++ linesT L
theorem nil_appendB (s : ByteArray) : (⟨#[]⟩ : ByteArray) ++ s = s := by
  apply ByteArray.ext
  simp
theorem appendB_nil (s : ByteArray) : s ++ (⟨#[]⟩ : ByteArray) = s := by
  apply ByteArray.ext
  simp
theorem linesT_snoc : ∀ (L : List (ByteArray × ByteArray)) (f : ByteArray × ByteArray), linesT (L ++ [f]) = linesT L ++ fldT f
  | [], f => by simp only [List.nil_append, linesT]; rw [appendB_nil, nil_appendB]
  | g :: L, f => by simp only [List.cons_append, linesT]; rw [linesT_snoc L f, ByteArray.append_assoc]
theorem linesT_take {L : List (ByteArray × ByteArray)} {k : Nat} (hk : k < L.length) {f : ByteArray × ByteArray} (hf : L[k] = f) : linesT (L.take (k + 1)) = linesT (L.take k) ++ fldT f := by
  rw [List.take_succ_eq_append_getElem hk, hf, linesT_snoc]
def wgtT (L : List (ByteArray × ByteArray)) : Nat := (L.map fun f => f.1.size + f.2.size).sum
theorem wgtT_take (L : List (ByteArray × ByteArray)) (k : Nat) (h : k < L.length) : wgtT (L.take (k + 1)) = wgtT (L.take k) + (L[k].1.size + L[k].2.size) := by
  unfold wgtT
  rw [List.take_succ_eq_append_getElem h, List.map_append, List.sum_append]
  simp
theorem wgtT_le (L : List (ByteArray × ByteArray)) (k : Nat) : wgtT (L.take k) ≤ wgtT L := by
  have h : wgtT L = wgtT (L.take k) + wgtT (L.drop k) := by
    unfold wgtT
    rw [← List.sum_append, ← List.map_append, List.take_append_drop]
  omega
theorem fldT_size (f : ByteArray × ByteArray) : (fldT f).size = f.1.size + f.2.size + 4 := by
  unfold fldT
  rw [ByteArray.size_append, ByteArray.size_append, ByteArray.size_append]
  show f.1.size + 2 + f.2.size + 2 = _
  omega
theorem linesT_size : ∀ L, (linesT L).size = wgtT L + 4 * L.length
  | [] => rfl
  | f :: L => by
    unfold linesT
    rw [ByteArray.size_append, fldT_size, linesT_size L]
    simp [wgtT]
    omega
/-- The text of a head. -/
def headT (line : ByteArray) (L : List (ByteArray × ByteArray)) : ByteArray := ((line ++ crlf) ++ linesT L) ++ crlf
theorem headT_size (line : ByteArray) (L : List (ByteArray × ByteArray)) : (headT line L).size = line.size + wgtT L + 4 * L.length + 4 := by
  unfold headT
  rw [ByteArray.size_append, ByteArray.size_append, ByteArray.size_append, linesT_size]
  show line.size + 2 + _ + 2 = _
  omega
/-- A head that is not too great for a law. -/
def HdSz (line : ByteArray) (L : List (ByteArray × ByteArray)) : Prop := line.size + L.length + wgtT L ≤ 1048576
theorem HdSz.at {line : ByteArray} {L : List (ByteArray × ByteArray)} (h : HdSz line L) (k : Nat) (hk : k < L.length) : L[k].1.size ≤ 1048576 ∧ L[k].2.size ≤ 1048576 ∧ wgtT (L.take k) + (L[k].1.size + L[k].2.size) ≤ 1048576 := by
  have h1 := wgtT_take L k hk
  have h2 := wgtT_le L (k + 1)
  unfold HdSz at h
  omega
/-- A head, and a field more. -/
def HdSw (line : ByteArray) (L : List (ByteArray × ByteArray)) : Prop := line.size + L.length + wgtT L ≤ 1048600 ∧ line.size ≤ 1048576 ∧ ∀ f ∈ L, f.1.size ≤ 1048576 ∧ f.2.size ≤ 1048576
theorem HdSz.wide {line : ByteArray} {L : List (ByteArray × ByteArray)} (h : HdSz line L) : HdSw line L := by
  refine ⟨by unfold HdSz at h; omega, by unfold HdSz at h; omega, fun f hf => ?_⟩
  obtain ⟨j, hj, rfl⟩ := List.getElem_of_mem hf
  have := h.at j hj
  exact ⟨this.1, this.2.1⟩
theorem HdSw.at {line : ByteArray} {L : List (ByteArray × ByteArray)} (h : HdSw line L) (k : Nat) (hk : k < L.length) : L[k].1.size ≤ 1048576 ∧ L[k].2.size ≤ 1048576 ∧ wgtT (L.take k) + (L[k].1.size + L[k].2.size) ≤ 1048600 := by
  have h1 := wgtT_take L k hk
  have h2 := wgtT_le L (k + 1)
  have h3 := h.2.2 L[k] (List.getElem_mem hk)
  have h4 := h.1
  exact ⟨h3.1, h3.2, by omega⟩
def headOkS (line : ByteArray) (L : List (ByteArray × ByteArray)) : Bool := (decide (1 ≤ line.size) && plainS line 80) && (decide (L.length ≤ 8) && L.all fieldOkS) && decide ((headT line L).size ≤ 300)
def headTextS (line : ByteArray) (L : List (ByteArray × ByteArray)) : ByteArray × Bool := if headOkS line L = true then (headT line L, true) else (⟨#[]⟩, false)
theorem all_no {L : List (ByteArray × ByteArray)} {k : Nat} (hk : k < L.length) (h : fieldOkS L[k] = false) : L.all fieldOkS = false := by
  rw [List.all_eq_false]
  exact ⟨_, List.getElem_mem hk, by rw [h]; simp⟩
theorem all_go {L : List (ByteArray × ByteArray)} (h : ∀ q (hq : q < L.length), fieldOkS L[q] = true) : L.all fieldOkS = true := by
  rw [List.all_eq_true]
  intro x hx
  obtain ⟨j, hj, rfl⟩ := List.getElem_of_mem hx
  exact h j hj
end Go.Proofs.YtnnaphfeeobeladDoor
