/- The words of a line: the plain reckoning, and the walk over the other text. -/
import Derived.Test.YtednbcdomkhhmajDoorMarks
import Derived.Lib.Fields
namespace Go.Proofs.YtednbcdomkhhmajDoor
open Go.RowKit Go.Sort

def plainB (b : UInt8) : Bool := decide (32 ≤ b.toNat) && decide (b.toNat ≤ 126)
def allPl (t : List UInt8) : Bool := t.all plainB
def txt (l : List UInt8) : ByteArray := ⟨l.toArray⟩
/-- What PartsOf answers. -/
def prOk (s : ByteArray) : Bool := decide (s.size ≤ 600) && allPl s.data.toList && decide ((Lib.fields s.data.toList).length ≤ 10)
def prL (s : ByteArray) : List ByteArray := if prOk s = true then (Lib.fields s.data.toList).map txt else []

theorem isSp_plain {b : UInt8} (h : 32 ≤ b.toNat) : Lib.isSp b = (b == 32) := by
  have h1 : ∀ n : Fin 256, 32 ≤ n.val → Lib.isSp (UInt8.ofNat n.val) = (UInt8.ofNat n.val == 32) := by decide +kernel
  have := h1 ⟨b.toNat, b.toNat_lt⟩ h
  simpa using this

theorem fieldsGo_word {cur r : List UInt8} {b : UInt8} (h : 32 ≤ b.toNat) (h2 : b.toNat ≠ 32) : Lib.fieldsGo cur (b :: r) = Lib.fieldsGo (cur ++ [b]) r := by
  have : Lib.isSp b = false := by
    rw [isSp_plain h]
    simp
    intro e
    exact h2 (by rw [e]; rfl)
  rw [Lib.fieldsGo, this]
  rfl
theorem fieldsGo_blank {cur r : List UInt8} {b : UInt8} (h : b.toNat = 32) (hne : cur ≠ []) : Lib.fieldsGo cur (b :: r) = cur :: Lib.fieldsGo [] r := by
  have : Lib.isSp b = true := by
    rw [isSp_plain (by omega)]
    simp
    exact UInt8.toNat_inj.1 (by simpa using h)
  have h2 : cur.isEmpty = false := by cases cur <;> simp at hne ⊢
  rw [Lib.fieldsGo, this, h2]
  rfl
theorem fieldsGo_skip {r : List UInt8} {b : UInt8} (h : b.toNat = 32) : Lib.fieldsGo [] (b :: r) = Lib.fieldsGo [] r := by
  have : Lib.isSp b = true := by
    rw [isSp_plain (by omega)]
    simp
    exact UInt8.toNat_inj.1 (by simpa using h)
  rw [Lib.fieldsGo, this]
  rfl
theorem fieldsGo_last {cur : List UInt8} (hne : cur ≠ []) : Lib.fieldsGo cur [] = [cur] := by
  have h2 : cur.isEmpty = false := by cases cur <;> simp at hne ⊢
  rw [Lib.fieldsGo, h2]
  rfl

/-- The word that stands from bg to k. -/
def wordAt (t : List UInt8) (bg k : Nat) : List UInt8 := (t.drop bg).take (k - bg)
/-- Where the reading stands: the texts P are read, a word begins at bg, the place is k. -/
def prAt (t : List UInt8) (P : List ByteArray) (bg k : Nat) : Prop := P.map (fun x => x.data.toList) ++ Lib.fieldsGo (wordAt t bg k) (t.drop k) = Lib.fields t

theorem wordAt_self (t : List UInt8) (k : Nat) : wordAt t k k = [] := by simp [wordAt]
theorem wordAt_ne {t : List UInt8} {bg k : Nat} (h : bg < k) (hk : k ≤ t.length) : wordAt t bg k ≠ [] := by
  intro e
  have := congrArg List.length e
  simp [wordAt] at this
  omega
theorem wordAt_more {t : List UInt8} {bg k : Nat} (h : bg ≤ k) (hk : k < t.length) : wordAt t bg (k + 1) = wordAt t bg k ++ [t[k]] := by
  unfold wordAt
  rw [show k + 1 - bg = (k - bg) + 1 by omega, List.take_succ_eq_append_getElem (by simp; omega)]
  congr 2
  simp
  congr 1
  omega
theorem prAt_start (t : List UInt8) : prAt t [] 0 0 := by simp [prAt, wordAt, Lib.fields]
theorem prAt_word {t : List UInt8} {P : List ByteArray} {bg k : Nat} {b : UInt8} (h : prAt t P bg k) (hbk : bg ≤ k) (hk : k < t.length) (hb : t[k] = b) (h1 : 32 ≤ b.toNat) (h2 : b.toNat ≠ 32) : prAt t P bg (k + 1) := by
  unfold prAt at *
  rw [← h, wordAt_more hbk hk, List.drop_eq_getElem_cons hk, hb, fieldsGo_word h1 h2]
theorem prAt_blank {s : ByteArray} {P : List ByteArray} {bg k : Nat} {b : UInt8} (h : prAt s.data.toList P bg k) (hbk : bg < k) (hk : k < s.data.toList.length) (hb : s.data.toList[k] = b) (h1 : b.toNat = 32) : prAt s.data.toList (P ++ [s.extract bg k]) (k + 1) (k + 1) := by
  unfold prAt at *
  rw [← h, List.drop_eq_getElem_cons hk, hb, fieldsGo_blank h1 (wordAt_ne hbk (by omega)), wordAt_self]
  simp
  rfl
theorem prAt_skip {t : List UInt8} {P : List ByteArray} {k : Nat} {b : UInt8} (h : prAt t P k k) (hk : k < t.length) (hb : t[k] = b) (h1 : b.toNat = 32) : prAt t P (k + 1) (k + 1) := by
  unfold prAt at *
  rw [← h, List.drop_eq_getElem_cons hk, hb, wordAt_self, wordAt_self, fieldsGo_skip h1]
theorem prAt_end {s : ByteArray} {P : List ByteArray} {bg k : Nat} (h : prAt s.data.toList P bg k) (hbk : bg < k) (hk : k = s.data.toList.length) : prAt s.data.toList (P ++ [s.extract bg k]) (k + 1) (k + 1) := by
  unfold prAt at *
  rw [← h, List.drop_of_length_le (by omega), List.drop_of_length_le (by omega), fieldsGo_last (wordAt_ne hbk (by omega)), wordAt_self]
  simp [Lib.fieldsGo]
  rfl
theorem prAt_end0 {t : List UInt8} {P : List ByteArray} {k : Nat} (h : prAt t P k k) (hk : k = t.length) : prAt t P (k + 1) (k + 1) := by
  unfold prAt at *
  rw [← h, List.drop_of_length_le (by omega), List.drop_of_length_le (by omega), wordAt_self, wordAt_self]
theorem prAt_done {t : List UInt8} {P : List ByteArray} {bg k : Nat} (h : prAt t P bg k) (hk : t.length < k) (hb : k ≤ bg) : P = (Lib.fields t).map txt := by
  unfold prAt at h
  have h1 : wordAt t bg k = [] := by unfold wordAt; rw [show k - bg = 0 by omega]; simp
  rw [h1, List.drop_of_length_le (by omega)] at h
  have h2 : Lib.fieldsGo [] [] = [] := rfl
  rw [h2, List.append_nil] at h
  rw [← h, List.map_map]
  have : (txt ∘ fun x : ByteArray => x.data.toList) = id := by
    funext x
    simp [txt]
  rw [this, List.map_id]

theorem prOk_no {s : ByteArray} {b : UInt8} (hb : b ∈ s.data.toList) (h : ¬ (32 ≤ b.toNat ∧ b.toNat ≤ 126)) : prOk s = false := by
  have : allPl s.data.toList = false := by
    unfold allPl
    rw [List.all_eq_false]
    refine ⟨b, hb, ?_⟩
    simp [plainB]
    omega
  simp [prOk, this]
theorem allPl_of {t : List UInt8} (h : ∀ b ∈ t, 32 ≤ b.toNat ∧ b.toNat ≤ 126) : allPl t = true := by
  unfold allPl
  rw [List.all_eq_true]
  intro b hb
  have := h b hb
  simp [plainB, this]
theorem prL_no {s : ByteArray} (h : prOk s = false) : prL s = [] := by simp [prL, h]
theorem mem_at {s : ByteArray} {k : Nat} {b : UInt8} (h : k < s.size) (hb : s[k] = b) : b ∈ s.data.toList := by
  rw [← hb, show s[k] = s.data.toList[k]'(by simpa using h) from by simp; rfl]
  exact List.getElem_mem _
theorem at_list {s : ByteArray} {k : Nat} {b : UInt8} (h : k < s.size) (hb : s[k] = b) : s.data.toList[k]'(by simpa using h) = b := by
  rw [← hb]; simp; rfl
end Go.Proofs.YtednbcdomkhhmajDoor
