/- Texts that stand in one: HeadPlain, LinePlain, LowPlain, TrimPlain, HeadTextPlain, ScriptPlain. -/
import Derived.Test.YtnnaphfeeobelaeGreatDoorFieldRows
import Derived.Lib.IndexAny
import Derived.Lib.Strings
import Derived.Lib.TrimByte
namespace Go.Proofs.YtnnaphfeeobelaeGreatDoor
open Go.RowKit

/-- All bytes of a text are such ones. -/
def allB (p : Nat → Bool) (s : ByteArray) : Bool := s.data.toList.all fun b => p b.toNat
theorem allB_go {p : Nat → Bool} {s : ByteArray} (h : ∀ q (hq : q < s.size), p s[q].toNat = true) : allB p s = true := by
  unfold allB
  rw [List.all_eq_true]
  intro b hb
  obtain ⟨j, hj, rfl⟩ := List.getElem_of_mem hb
  exact h j (by simpa using hj)
theorem allB_no {p : Nat → Bool} {s : ByteArray} {k : Nat} (hk : k < s.size) (h : p s[k].toNat = false) : allB p s = false := by
  unfold allB
  rw [Bool.eq_false_iff]
  intro e
  rw [List.all_eq_true] at e
  have := e (s.data.toList[k]'(by simpa using hk)) (List.getElem_mem _)
  have e2 : s.data.toList[k]'(by simpa using hk) = s[k] := by simp; rfl
  rw [e2, h] at this
  cases this
def nameB (b : Nat) : Bool := decide (97 ≤ b ∧ b ≤ 122) || decide (b = 45)
def plainB (b : Nat) : Bool := decide (32 ≤ b ∧ b ≤ 126)
def nameOkS (s : ByteArray) : Bool := allB nameB s && decide (1 ≤ s.size ∧ s.size ≤ 20)
def plainS (s : ByteArray) (most : Int) : Bool := allB plainB s && decide ((s.size : Int) ≤ most)
/-- No blank first or last. -/
def trimS (s : ByteArray) : Bool := decide (s.size = 0) || (!decide ((s.data.toList.getD 0 0).toNat = 32) && !decide ((s.data.toList.getD (s.size - 1) 0).toNat = 32))
def fieldOkS (f : ByteArray × ByteArray) : Bool := nameOkS f.1 && plainS f.2 60 && trimS f.2
end Go.Proofs.YtnnaphfeeobelaeGreatDoor

namespace Go.Proofs.YtnnaphfeeobelaeGreatDoor
open Go.RowKit
/-- No byte that ends a line. -/
def NoEnd (b : List UInt8) : Prop := ∀ x ∈ b, x ≠ 13 ∧ x ≠ 10
theorem indexAny_none : ∀ (b : List UInt8), NoEnd b → Lib.indexAny b [13, 10] = -1
  | [], _ => rfl
  | x :: b, h => by
    have hx := h x List.mem_cons_self
    have ih := indexAny_none b (fun y hy => h y (List.mem_cons_of_mem _ hy))
    unfold Lib.indexAny
    rw [if_neg (by simp [hx.1, hx.2]), ih]
    rfl
theorem indexAny_at : ∀ (b : List UInt8) (x : UInt8) (r : List UInt8), NoEnd b → (x = 13 ∨ x = 10) → Lib.indexAny (b ++ x :: r) [13, 10] = (b.length : Int)
  | [], x, r, _, hx => by
    simp only [List.nil_append]
    unfold Lib.indexAny
    rw [if_pos (by rcases hx with rfl | rfl <;> simp)]
    rfl
  | y :: b, x, r, h, hx => by
    have hy := h y List.mem_cons_self
    have ih := indexAny_at b x r (fun z hz => h z (List.mem_cons_of_mem _ hz)) hx
    simp only [List.cons_append]
    unfold Lib.indexAny
    rw [if_neg (by simp [hy.1, hy.2]), ih, if_neg (by simp)]
    simp
theorem size_le {t : ByteArray} {k : Nat} {l : List UInt8} (h : t.data.toList.drop k = l) : l.length = t.size - k := by
  rw [← h, List.length_drop, Lib.size_eq]
theorem from_data {t : ByteArray} {k : Nat} {l : List UInt8} (h : t.data.toList.drop k = l) : (t.extract k t.size).data.toList = l := by
  rw [Lib.extract_data, h, List.take_of_length_le (by rw [size_le h]; exact Nat.le_refl _)]
theorem mk_ext (s : ByteArray) {l : List UInt8} (h : s.data.toList = l) : s = ⟨l.toArray⟩ := by
  obtain ⟨⟨m⟩⟩ := s
  simp only at h
  rw [h]
end Go.Proofs.YtnnaphfeeobelaeGreatDoor

namespace Go.Proofs.YtnnaphfeeobelaeGreatDoor
open Go.RowKit
def lowB (x : UInt8) : UInt8 := if 65 ≤ x.toNat ∧ x.toNat ≤ 90 then UInt8.ofNat (x.toNat + 32) else x
def lowL (l : List UInt8) : List UInt8 := l.map lowB
theorem lowB_great {x : UInt8} (h : 65 ≤ x.toNat ∧ x.toNat ≤ 90) : (lowB x).toNat = x.toNat + 32 := by
  unfold lowB
  rw [if_pos h, UInt8.toNat_ofNat']
  omega
theorem lowB_small {x : UInt8} (h : ¬ (65 ≤ x.toNat ∧ x.toNat ≤ 90)) : lowB x = x := by
  unfold lowB
  rw [if_neg h]
/-- What stands while the first k are taken. -/
def lowTo (l : List UInt8) (k : Nat) : List UInt8 := lowL (l.take k) ++ l.drop k
theorem lowTo_zero (l : List UInt8) : lowTo l 0 = l := by simp [lowTo, lowL]
theorem lowTo_all (l : List UInt8) : lowTo l l.length = lowL l := by simp [lowTo]
theorem lowTo_len (l : List UInt8) (k : Nat) : (lowTo l k).length = l.length := by simp [lowTo, lowL]; omega
theorem lowTo_at (l : List UInt8) (k : Nat) (hk : k < l.length) : (lowTo l k)[k]'(by rw [lowTo_len]; exact hk) = l[k] := by
  unfold lowTo lowL
  rw [List.getElem_append_right (by simp; omega)]
  simp [Nat.min_eq_left (Nat.le_of_lt hk)]
theorem lowTo_succ (l : List UInt8) (k : Nat) (hk : k < l.length) : lowTo l (k + 1) = (lowTo l k).set k (lowB l[k]) := by
  unfold lowTo lowL
  rw [List.set_append_right _ _ (by simp; omega), List.length_map, List.length_take, Nat.min_eq_left (Nat.le_of_lt hk), Nat.sub_self, List.drop_eq_getElem_cons hk, List.set_cons_zero, List.take_succ_eq_append_getElem hk, List.map_append, List.append_assoc]
  rfl
end Go.Proofs.YtnnaphfeeobelaeGreatDoor

namespace Go.Proofs.YtnnaphfeeobelaeGreatDoor
open Go.RowKit

/-- What is left of a text without the blanks about it. -/
def trimT (s : ByteArray) : ByteArray := ⟨(Lib.trimB s.data.toList 32).toArray⟩
theorem dropWhile_len (l : List UInt8) (p : UInt8 → Bool) : (l.dropWhile p).length ≤ l.length := (List.dropWhile_sublist p).length_le
theorem trimR_of_last (l : List UInt8) (x : UInt8) (h : ¬ x = 32) : Lib.trimRightB (l ++ [x]) 32 = l ++ [x] := by
  unfold Lib.trimRightB
  rw [List.reverse_append]
  simp [h]
theorem trimR_short (l : List UInt8) : (Lib.trimRightB (l ++ [32]) 32).length < (l ++ [32]).length := by
  unfold Lib.trimRightB
  rw [List.reverse_append]
  have := dropWhile_len l.reverse (· == 32)
  simp at this ⊢
  omega
theorem trimL_le (l : List UInt8) : (Lib.trimLeftB l 32).length ≤ l.length := dropWhile_len l _
theorem trimR_le (l : List UInt8) : (Lib.trimRightB l 32).length ≤ l.length := by
  unfold Lib.trimRightB
  have := dropWhile_len l.reverse (· == 32)
  simpa using this
theorem trimT_le (s : ByteArray) : (trimT s).size ≤ s.size := by
  have h : (trimT s).size = (Lib.trimB s.data.toList 32).length := by show (Lib.trimB s.data.toList 32).toArray.size = _; simp
  rw [h]
  unfold Lib.trimB
  have h1 := trimL_le (Lib.trimRightB s.data.toList 32)
  have h2 := trimR_le s.data.toList
  have h3 : s.data.toList.length = s.size := by simp
  omega
/-- It is the same just when no blank is first or last. -/
theorem trimB_same (l : List UInt8) : (Lib.trimB l 32 = l) ↔ (l = [] ∨ (¬ (l.getD 0 0).toNat = 32 ∧ ¬ (l.getD (l.length - 1) 0).toNat = 32)) := by
  have e32 : ∀ x : UInt8, x.toNat = 32 ↔ x = 32 := fun x => ⟨fun h => UInt8.toNat_inj.1 h, fun h => by rw [h]; rfl⟩
  rcases List.eq_nil_or_concat l with rfl | ⟨m, x, rfl⟩
  · simp [Lib.trimB, Lib.trimLeftB, Lib.trimRightB]
  · rw [List.concat_eq_append]
    have hlast : ((m ++ [x]).getD ((m ++ [x]).length - 1) 0) = x := by simp [List.getD_eq_getElem?_getD]
    rw [hlast, e32, e32]
    unfold Lib.trimB
    by_cases hx : x = 32
    · subst hx
      constructor
      · intro h
        have h1 := congrArg List.length h
        have h2 := trimL_le (Lib.trimRightB (m ++ [32]) 32)
        have h3 := trimR_short m
        omega
      · rintro (h | ⟨_, h⟩)
        · simp at h
        · exact absurd rfl h
    · rw [trimR_of_last m x hx]
      cases m with
      | nil => simp [Lib.trimLeftB, hx]
      | cons y m =>
        simp only [List.cons_append, List.getD_cons_zero]
        by_cases hy : y = 32
        · subst hy
          constructor
          · intro h
            have h1 := congrArg List.length h
            have h2 := trimL_le (m ++ [x])
            simp [Lib.trimLeftB] at h1
            have h3 := dropWhile_len (m ++ [x]) (· == 32)
            simp at h3
            omega
          · rintro (h | ⟨h, _⟩)
            · simp at h
            · exact absurd rfl h
        · simp [Lib.trimLeftB, hy, hx]
theorem trimT_same (s : ByteArray) : (s.toList == (trimT s).toList) = trimS s := by
  rw [ByteArray.toList_eq, ByteArray.toList_eq]
  have h := trimB_same s.data.toList
  have hs : s.data.toList.length = s.size := by simp
  have hd : (trimT s).data.toList = Lib.trimB s.data.toList 32 := by simp [trimT]
  rw [hd]
  rw [hs] at h
  unfold trimS
  by_cases ht : Lib.trimB s.data.toList 32 = s.data.toList
  · rw [ht]
    rcases h.1 ht with h0 | ⟨h1, h2⟩
    · rw [decide_eq_true (show s.size = 0 by rw [← hs, h0]; rfl)]; simp
    · rw [decide_eq_false h1, decide_eq_false h2]; simp
  · have hne : (s.data.toList == Lib.trimB s.data.toList 32) = false := by
      rw [beq_eq_false_iff_ne]; exact fun e => ht e.symm
    rw [hne]
    have hn : ¬ (s.data.toList = [] ∨ _) := fun e => ht (h.2 e)
    rw [not_or] at hn
    have h0 : ¬ s.size = 0 := fun e => hn.1 (List.length_eq_zero_iff.1 (by rw [hs]; exact e))
    rw [decide_eq_false h0]
    by_cases h1 : (s.data.toList.getD 0 0).toNat = 32
    · rw [decide_eq_true h1]; rfl
    · have h2 : (s.data.toList.getD (s.size - 1) 0).toNat = 32 := by
        rcases Nat.decEq (s.data.toList.getD (s.size - 1) 0).toNat 32 with e | e
        · exact absurd ⟨h1, e⟩ hn.2
        · exact e
      rw [decide_eq_false h1, decide_eq_true h2]; rfl
end Go.Proofs.YtnnaphfeeobelaeGreatDoor

namespace Go.Proofs.YtnnaphfeeobelaeGreatDoor
open Go.RowKit

def crlf : ByteArray := ⟨#[13, 10]⟩
def colonB : ByteArray := ⟨#[58, 32]⟩
def fldT (f : ByteArray × ByteArray) : ByteArray := ((f.1 ++ colonB) ++ f.2) ++ crlf
def linesT : List (ByteArray × ByteArray) → ByteArray
  | [] => ⟨#[]⟩
  | f :: L => fldT f ++ linesT L
theorem nil_appendB (s : ByteArray) : (⟨#[]⟩ : ByteArray) ++ s = s := by
  apply ByteArray.ext
  simp
theorem appendB_nil (s : ByteArray) : s ++ (⟨#[]⟩ : ByteArray) = s := by
  apply ByteArray.ext
  simp
theorem linesT_snoc : ∀ (L : List (ByteArray × ByteArray)) (f : ByteArray × ByteArray), linesT (L ++ [f]) = linesT L ++ fldT f
  | [], f => by simp only [List.nil_append, linesT]; rw [appendB_nil, nil_appendB]
  | g :: L, f => by simp only [List.cons_append, linesT]; rw [linesT_snoc L f, ByteArray.append_assoc]
theorem linesT_take {L : List (ByteArray × ByteArray)} {k : Nat} (hk : k < L.length) {f : ByteArray × ByteArray} (hf : L[k] = f) : linesT (L.take (k + 1)) = linesT (L.take k) ++ fldT f := by
  rw [List.take_succ_eq_append_getElem hk, hf, linesT_snoc]
def wgtT (L : List (ByteArray × ByteArray)) : Nat := (L.map fun f => f.1.size + f.2.size).sum
theorem wgtT_take (L : List (ByteArray × ByteArray)) (k : Nat) (h : k < L.length) : wgtT (L.take (k + 1)) = wgtT (L.take k) + (L[k].1.size + L[k].2.size) := by
  unfold wgtT
  rw [List.take_succ_eq_append_getElem h, List.map_append, List.sum_append]
  simp
theorem wgtT_le (L : List (ByteArray × ByteArray)) (k : Nat) : wgtT (L.take k) ≤ wgtT L := by
  have h : wgtT L = wgtT (L.take k) + wgtT (L.drop k) := by
    unfold wgtT
    rw [← List.sum_append, ← List.map_append, List.take_append_drop]
  omega
theorem fldT_size (f : ByteArray × ByteArray) : (fldT f).size = f.1.size + f.2.size + 4 := by
  unfold fldT
  rw [ByteArray.size_append, ByteArray.size_append, ByteArray.size_append]
  show f.1.size + 2 + f.2.size + 2 = _
  omega
theorem linesT_size : ∀ L, (linesT L).size = wgtT L + 4 * L.length
  | [] => rfl
  | f :: L => by
    unfold linesT
    rw [ByteArray.size_append, fldT_size, linesT_size L]
    simp [wgtT]
    omega
/-- The text of a head. -/
def headT (line : ByteArray) (L : List (ByteArray × ByteArray)) : ByteArray := ((line ++ crlf) ++ linesT L) ++ crlf
theorem headT_size (line : ByteArray) (L : List (ByteArray × ByteArray)) : (headT line L).size = line.size + wgtT L + 4 * L.length + 4 := by
  unfold headT
  rw [ByteArray.size_append, ByteArray.size_append, ByteArray.size_append, linesT_size]
  show line.size + 2 + _ + 2 = _
  omega
/-- A head that is not too great for a law. -/
def HdSz (line : ByteArray) (L : List (ByteArray × ByteArray)) : Prop := line.size + L.length + wgtT L ≤ 1048576
theorem HdSz.at {line : ByteArray} {L : List (ByteArray × ByteArray)} (h : HdSz line L) (k : Nat) (hk : k < L.length) : L[k].1.size ≤ 1048576 ∧ L[k].2.size ≤ 1048576 ∧ wgtT (L.take k) + (L[k].1.size + L[k].2.size) ≤ 1048576 := by
  have h1 := wgtT_take L k hk
  have h2 := wgtT_le L (k + 1)
  unfold HdSz at h
  omega
/-- A head, and a field more. -/
def HdSw (line : ByteArray) (L : List (ByteArray × ByteArray)) : Prop := line.size + L.length + wgtT L ≤ 1048600 ∧ line.size ≤ 1048576 ∧ ∀ f ∈ L, f.1.size ≤ 1048576 ∧ f.2.size ≤ 1048576
theorem HdSz.wide {line : ByteArray} {L : List (ByteArray × ByteArray)} (h : HdSz line L) : HdSw line L := by
  refine ⟨by unfold HdSz at h; omega, by unfold HdSz at h; omega, fun f hf => ?_⟩
  obtain ⟨j, hj, rfl⟩ := List.getElem_of_mem hf
  have := h.at j hj
  exact ⟨this.1, this.2.1⟩
theorem HdSw.at {line : ByteArray} {L : List (ByteArray × ByteArray)} (h : HdSw line L) (k : Nat) (hk : k < L.length) : L[k].1.size ≤ 1048576 ∧ L[k].2.size ≤ 1048576 ∧ wgtT (L.take k) + (L[k].1.size + L[k].2.size) ≤ 1048600 := by
  have h1 := wgtT_take L k hk
  have h2 := wgtT_le L (k + 1)
  have h3 := h.2.2 L[k] (List.getElem_mem hk)
  have h4 := h.1
  exact ⟨h3.1, h3.2, by omega⟩
def headOkS (line : ByteArray) (L : List (ByteArray × ByteArray)) : Bool := (decide (1 ≤ line.size) && plainS line 80) && (decide (L.length ≤ 8) && L.all fieldOkS) && decide ((headT line L).size ≤ 300)
def headTextS (line : ByteArray) (L : List (ByteArray × ByteArray)) : ByteArray × Bool := if headOkS line L = true then (headT line L, true) else (⟨#[]⟩, false)
theorem all_no {L : List (ByteArray × ByteArray)} {k : Nat} (hk : k < L.length) (h : fieldOkS L[k] = false) : L.all fieldOkS = false := by
  rw [List.all_eq_false]
  exact ⟨_, List.getElem_mem hk, by rw [h]; simp⟩
theorem all_go {L : List (ByteArray × ByteArray)} (h : ∀ q (hq : q < L.length), fieldOkS L[q] = true) : L.all fieldOkS = true := by
  rw [List.all_eq_true]
  intro x hx
  obtain ⟨j, hj, rfl⟩ := List.getElem_of_mem hx
  exact h j hj
end Go.Proofs.YtnnaphfeeobelaeGreatDoor

namespace Go.Proofs.YtnnaphfeeobelaeGreatDoor
open Go.RowKit
/-- Lines, each with its end. -/
def flatL (ms : List (List UInt8)) : List UInt8 := ms.flatMap fun b => b ++ [13, 10]
/-- Where the line i begins. -/
def posL (o : Nat) (ms : List (List UInt8)) (i : Nat) : Nat := o + (flatL (ms.take i)).length
theorem flatL_append (a b : List (List UInt8)) : flatL (a ++ b) = flatL a ++ flatL b := by simp [flatL]
theorem flatL_cons (b : List UInt8) (ms : List (List UInt8)) : flatL (b :: ms) = b ++ 13 :: 10 :: flatL ms := by simp [flatL]
theorem posL_zero (o : Nat) (ms : List (List UInt8)) : posL o ms 0 = o := by simp [posL, flatL]
theorem posL_succ (o : Nat) (ms : List (List UInt8)) (i : Nat) (h : i < ms.length) : posL o ms (i + 1) = posL o ms i + ms[i].length + 2 := by
  unfold posL
  rw [List.take_succ_eq_append_getElem h, flatL_append, List.length_append]
  simp [flatL]
  omega
theorem drop_at (l : List UInt8) (o : Nat) (ms : List (List UInt8)) (tail : List UInt8) (h : l.drop o = flatL ms ++ tail) (i : Nat) : l.drop (posL o ms i) = flatL (ms.drop i) ++ tail := by
  unfold posL
  rw [← List.drop_drop, h]
  have e : flatL ms = flatL (ms.take i) ++ flatL (ms.drop i) := by rw [← flatL_append, List.take_append_drop]
  rw [e, List.append_assoc, List.drop_left' rfl]
theorem drop_line (l : List UInt8) (o : Nat) (ms : List (List UInt8)) (tail : List UInt8) (h : l.drop o = flatL ms ++ tail) (i : Nat) (hi : i < ms.length) : l.drop (posL o ms i) = ms[i] ++ 13 :: 10 :: (flatL (ms.drop (i + 1)) ++ tail) := by
  rw [drop_at l o ms tail h i, List.drop_eq_getElem_cons hi, flatL_cons]
  simp
/-- A line that is a field's. -/
def LineF (b : List UInt8) (f : ByteArray × ByteArray) : Prop := ∃ nm r, b = nm ++ 58 :: r ∧ (∀ x ∈ nm, x ≠ 58) ∧ f = (⟨(lowL nm).toArray⟩, trimT ⟨r.toArray⟩) ∧ fieldOkS f = true
theorem LineF.some {b : List UInt8} {f : ByteArray × ByteArray} (h : LineF b f) : b ≠ [] := by
  obtain ⟨nm, r, rfl, _⟩ := h
  simp
theorem headOk_sz {line : ByteArray} {L : List (ByteArray × ByteArray)} (h : headOkS line L = true) : HdSz line L ∧ L.length ≤ 8 ∧ 1 ≤ line.size ∧ line.size ≤ 80 ∧ (headT line L).size ≤ 300 := by
  unfold headOkS at h
  simp only [Bool.and_eq_true, decide_eq_true_eq, plainS] at h
  obtain ⟨⟨⟨h1, h2, h3⟩, h4, h5⟩, h6⟩ := h
  have hs := headT_size line L
  refine ⟨by unfold HdSz; omega, h4, h1, by omega, h6⟩
end Go.Proofs.YtnnaphfeeobelaeGreatDoor
