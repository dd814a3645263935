/- Heads that are drawn: they are right, and their texts are lines. Plain, no program. -/
import Derived.Test.YtlefccgdeafinacDoorHeadDraw
import Derived.Test.YtlefccgdeafinacDoorScriptPlain
namespace Go.Proofs.YtlefccgdeafinacDoor
open Go.RowKit
/-- The line of a field. -/
def fldL (f : ByteArray × ByteArray) : List UInt8 := f.1.data.toList ++ 58 :: 32 :: f.2.data.toList
theorem fldT_list (f : ByteArray × ByteArray) : (fldT f).data.toList = fldL f ++ [13, 10] := by
  unfold fldT fldL colonB crlf
  simp
theorem linesT_list : ∀ L : List (ByteArray × ByteArray), (linesT L).data.toList = flatL (L.map fldL)
  | [] => rfl
  | f :: L => by
    unfold linesT
    rw [List.map_cons, flatL_cons]
    have h1 := fldT_list f
    have h2 := linesT_list L
    simp [h1, h2]
/-- The lines of a head behind the first one: its fields', and an empty one. -/
def linesOf (L : List (ByteArray × ByteArray)) : List (List UInt8) := L.map fldL ++ [[]]
theorem headT_list (line : ByteArray) (L : List (ByteArray × ByteArray)) : (headT line L).data.toList = line.data.toList ++ 13 :: 10 :: flatL (linesOf L) := by
  unfold headT linesOf
  rw [flatL_append]
  have h := linesT_list L
  unfold crlf
  simp [h, flatL]
theorem linesOf_len (L : List (ByteArray × ByteArray)) : (linesOf L).length = L.length + 1 := by simp [linesOf]
theorem linesOf_last (L : List (ByteArray × ByteArray)) (h : L.length < (linesOf L).length) : (linesOf L)[L.length] = [] := by
  have h2 : (linesOf L)[L.length]? = some [] := by simp [linesOf]
  exact (List.getElem?_eq_some_iff.1 h2).2
theorem linesOf_at (L : List (ByteArray × ByteArray)) (i : Nat) (hi : i < L.length) (h : i < (linesOf L).length) : (linesOf L)[i] = fldL L[i] := by
  have h2 : (linesOf L)[i]? = some (fldL L[i]) := by
    unfold linesOf
    rw [List.getElem?_append_left (by simpa using hi)]
    simp [hi]
  exact (List.getElem?_eq_some_iff.1 h2).2
/-- Bytes of a head's words. -/
def wordB (b : UInt8) : Bool := decide (32 ≤ b.toNat ∧ b.toNat ≤ 126)
theorem fn_ok : ∀ z ∈ fnL, (z.data.toList.all fun b => nameB b.toNat && !(b == 58)) = true ∧ lowL z.data.toList = z.data.toList ∧ 1 ≤ z.size := by decide
theorem fv_ok : ∀ z ∈ fvL, (z.data.toList.all fun b => wordB b) = true ∧ Lib.trimB (32 :: z.data.toList) 32 = z.data.toList ∧ (z.size = 0 ∨ (¬ (z.data.toList.getD 0 0).toNat = 32 ∧ ¬ (z.data.toList.getD (z.size - 1) 0).toNat = 32)) := by decide
theorem hl_ok : ∀ z ∈ hlL, (z.data.toList.all fun b => wordB b) = true ∧ 1 ≤ z.size := by decide
theorem wordB_noEnd {l : List UInt8} (h : (l.all fun b => wordB b) = true) : NoEnd l := by
  rw [List.all_eq_true] at h
  intro x hx
  have := h x hx
  unfold wordB at this
  rw [decide_eq_true_eq] at this
  constructor
  · rintro rfl; revert this; decide
  · rintro rfl; revert this; decide
theorem nameB_word {b : UInt8} (h : nameB b.toNat = true) : wordB b = true := by
  unfold nameB at h
  unfold wordB
  simp only [Bool.or_eq_true, decide_eq_true_eq] at h ⊢
  omega
theorem mk_same (z : ByteArray) : (⟨z.data.toList.toArray⟩ : ByteArray) = z := Lib.mk_data z
theorem FdD.words {f : ByteArray × ByteArray} (h : FdD f) : (fldL f).all (fun b => wordB b) = true := by
  have h1 := (fn_ok f.1 h.1).1
  have h2 := (fv_ok f.2 h.2).1
  rw [List.all_eq_true] at h1
  unfold fldL
  rw [List.all_append, List.all_cons, List.all_cons, h2, List.all_eq_true.2 (fun x hx => nameB_word (by have := h1 x hx; rw [Bool.and_eq_true] at this; exact this.1))]
  rfl
theorem FdD.ok {f : ByteArray × ByteArray} (h : FdD f) : fieldOkS f = true := by
  have h1 := fn_ok f.1 h.1
  have h2 := fv_ok f.2 h.2
  have l1 := fnL_len f.1 h.1
  have l2 := fvL_len f.2 h.2
  unfold fieldOkS nameOkS plainS trimS allB
  have e1 : (f.1.data.toList.all fun b => nameB b.toNat) = true := by
    have := h1.1
    rw [List.all_eq_true] at this ⊢
    intro x hx
    have := this x hx
    rw [Bool.and_eq_true] at this
    exact this.1
  have e2 : (f.2.data.toList.all fun b => plainB b.toNat) = true := h2.1
  rw [e1, e2, decide_eq_true (show 1 ≤ f.1.size ∧ f.1.size ≤ 20 from ⟨h1.2.2, by omega⟩), decide_eq_true (show (f.2.size : Int) ≤ 60 by omega)]
  rcases h2.2.2 with h0 | ⟨ha, hb⟩
  · rw [decide_eq_true h0]; rfl
  · rw [decide_eq_false ha, decide_eq_false hb]; simp
theorem FdD.line {f : ByteArray × ByteArray} (h : FdD f) : LineF (fldL f) f := by
  have h1 := fn_ok f.1 h.1
  have h2 := fv_ok f.2 h.2
  refine ⟨f.1.data.toList, 32 :: f.2.data.toList, rfl, fun x hx => ?_, ?_, h.ok⟩
  · have := h1.1
    rw [List.all_eq_true] at this
    have := this x hx
    rw [Bool.and_eq_true] at this
    simpa using this.2
  · rw [h1.2.1, mk_same]
    have : trimT ⟨(32 :: f.2.data.toList).toArray⟩ = f.2 := by
      unfold trimT
      rw [show (⟨(32 :: f.2.data.toList).toArray⟩ : ByteArray).data.toList = 32 :: f.2.data.toList from rfl, h2.2.1, mk_same]
    rw [this]
theorem wgtT_drawn : ∀ (L : List (ByteArray × ByteArray)), (∀ f ∈ L, FdD f) → wgtT L ≤ 35 * L.length
  | [], _ => by simp [wgtT]
  | f :: L, h => by
    have h1 := wgtT_drawn L (fun g hg => h g (List.mem_cons_of_mem _ hg))
    have h2 := h f List.mem_cons_self
    have l1 := fnL_len f.1 h2.1
    have l2 := fvL_len f.2 h2.2
    unfold wgtT at *
    simp only [List.map_cons, List.sum_cons, List.length_cons]
    omega
theorem drawn_ok {line : ByteArray} {L : List (ByteArray × ByteArray)} (h1 : line ∈ hlL) (h2 : ∀ f ∈ L, FdD f) (h3 : L.length ≤ 3) : headOkS line L = true ∧ (headT line L).size ≤ 200 := by
  have hl := hl_ok line h1
  have l1 := hlL_len line h1
  have hw := wgtT_drawn L h2
  have hs := headT_size line L
  have e1 : allB plainB line = true := hl.1
  have e2 : L.all fieldOkS = true := by rw [List.all_eq_true]; exact fun f hf => (h2 f hf).ok
  refine ⟨?_, by omega⟩
  unfold headOkS plainS
  rw [e1, e2, decide_eq_true (show 1 ≤ line.size from hl.2), decide_eq_true (show (line.size : Int) ≤ 80 by omega), decide_eq_true (show L.length ≤ 8 by omega), decide_eq_true (show (headT line L).size ≤ 300 by omega)]
  rfl
/-- A text of lines is cut: whole lines, and a beginning of the next one. -/
theorem cut_flat : ∀ (ms : List (List UInt8)) (m : Nat), m < (flatL ms).length → ∃ i, ∃ hi : i < ms.length, ∃ d, d < ms[i].length + 2 ∧ (flatL ms).take m = flatL (ms.take i) ++ (ms[i] ++ [13, 10]).take d
  | [], m, h => by simp [flatL] at h
  | b :: ms, m, h => by
    by_cases hm : m < b.length + 2
    · refine ⟨0, by simp, m, by simpa using hm, ?_⟩
      rw [flatL_cons, show b ++ 13 :: 10 :: flatL ms = (b ++ [13, 10]) ++ flatL ms by simp]
      rw [List.take_append_of_le_length (by simp; omega)]
      simp [flatL]
    · have hl : (flatL (b :: ms)).length = b.length + 2 + (flatL ms).length := by rw [flatL_cons]; simp; omega
      obtain ⟨i, hi, d, hd, he⟩ := cut_flat ms (m - (b.length + 2)) (by omega)
      refine ⟨i + 1, by simpa using hi, d, by simpa using hd, ?_⟩
      rw [flatL_cons, show b ++ 13 :: 10 :: flatL ms = (b ++ [13, 10]) ++ flatL ms by simp, List.take_append, List.take_of_length_le (by simp; omega), List.take_succ_cons, flatL_cons]
      have e : m - (b ++ [13, 10]).length = m - (b.length + 2) := by simp
      rw [e, he]
      simp
theorem take_line (b : List UInt8) (d : Nat) (hd : d < b.length + 2) : (b ++ [13, 10]).take d = b.take d ∨ (b ++ [13, 10]).take d = b ++ [13] := by
  by_cases h : d ≤ b.length
  · left; rw [List.take_append_of_le_length h]
  · right
    have : d = b.length + 1 := by omega
    subst this
    rw [List.take_append, List.take_of_length_le (by omega)]
    simp
end Go.Proofs.YtlefccgdeafinacDoor
