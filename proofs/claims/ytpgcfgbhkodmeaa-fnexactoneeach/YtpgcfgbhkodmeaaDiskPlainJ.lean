/- Texts that stand in one: DiskPlain, AtPlain, KeptPlain, ActPlain. -/
import Derived.Test.YtpgcfgbhkodmeaaFiles
namespace Go.Proofs.Ytpgcfgbhkodmeaa
open Go.RowKit

def nOk (s : ByteArray) : Bool := decide (1 ≤ s.size ∧ s.size ≤ 8)
def fOk (f : Fil) : Bool := nOk f.nm && (decide (f.tx.size ≤ 20000) && decide (0 ≤ f.kp ∧ f.kp ≤ f.tx.size))
def ltS (a b : ByteArray) : Bool := Op.bytesLess a.toList b.toList

/-- The file at k is right, and stands behind the one ahead of it. -/
def rOk (L : List Fil) : Nat → Bool
  | 0 => match L[0]? with | some f => fOk f | none => false
  | m + 1 => match L[m + 1]?, L[m]? with | some f, some p => fOk f && ltS p.nm f.nm | _, _ => false
def okTo (L : List Fil) : Nat → Bool
  | 0 => true
  | k + 1 => okTo L k && rOk L k
def dOk (L : List Fil) : Bool := decide (L.length ≤ 30) && okTo L L.length

theorem rOk_zero {L : List Fil} {f : Fil} (h : 0 < L.length) (hf : L[0] = f) : rOk L 0 = fOk f := by
  simp [rOk, List.getElem?_eq_getElem h, hf]
theorem rOk_succ {L : List Fil} {f p : Fil} {m : Nat} (h : m + 1 < L.length) (hf : L[m + 1] = f) (hp : L[m] = p) : rOk L (m + 1) = (fOk f && ltS p.nm f.nm) := by
  simp [rOk, List.getElem?_eq_getElem h, List.getElem?_eq_getElem (show m < L.length by omega), hf, hp]
theorem okTo_false {L : List Fil} {k : Nat} (h : rOk L k = false) : ∀ n, k < n → okTo L n = false
  | 0, hn => by omega
  | n + 1, hn => by
    by_cases e : k = n
    · subst e; simp [okTo, h]
    · simp [okTo, okTo_false h n (by omega)]
theorem dOk_false {L : List Fil} {k : Nat} (h : rOk L k = false) (hk : k < L.length) : dOk L = false := by simp [dOk, okTo_false h _ hk]
theorem dOk_true {L : List Fil} (hl : L.length ≤ 30) (h : okTo L L.length = true) : dOk L = true := by simp [dOk, hl, h]
theorem dOk_long {L : List Fil} (hl : ¬ L.length ≤ 30) : dOk L = false := by simp [dOk, hl]
theorem okTo_succ {L : List Fil} {k : Nat} (h : okTo L k = true) (hr : rOk L k = true) : okTo L (k + 1) = true := by simp [okTo, h, hr]
end Go.Proofs.Ytpgcfgbhkodmeaa

namespace Go.Proofs.Ytpgcfgbhkodmeaa
open Go.RowKit

def eqS (a b : ByteArray) : Bool := a.toList == b.toList
def pos (L : List Fil) (nm : ByteArray) : Option Nat := L.findIdx? fun f => eqS f.nm nm
/-- The place as the program tells it. -/
def posV (o : Option Nat) : Int := match o with | some k => (k : Int) | none => -1
def fileAt (L : List Fil) (nm : ByteArray) : ByteArray × Bool := match L.find? (fun f => eqS f.nm nm) with | some f => (f.tx, true) | none => (⟨#[]⟩, false)

/-- None of the first k bears the name. -/
def NoneTo (L : List Fil) (nm : ByteArray) (k : Nat) : Prop := ∀ j (h : j < L.length), j < k → eqS L[j].nm nm = false
theorem NoneTo.zero (L : List Fil) (nm : ByteArray) : NoneTo L nm 0 := fun j _ h => by omega
theorem NoneTo.succ {L : List Fil} {nm : ByteArray} {k : Nat} (h : NoneTo L nm k) (hk : k < L.length) {f : Fil} (hf : L[k] = f) (he : eqS f.nm nm = false) : NoneTo L nm (k + 1) := by
  intro j hj hlt
  by_cases e : j = k
  · subst e; rw [hf]; exact he
  · exact h j hj (by omega)
theorem pos_some {L : List Fil} {nm : ByteArray} {k : Nat} (h : NoneTo L nm k) (hk : k < L.length) {f : Fil} (hf : L[k] = f) (he : eqS f.nm nm = true) : pos L nm = some k := by
  unfold pos
  rw [List.findIdx?_eq_some_iff_getElem]
  exact ⟨hk, by rw [hf]; exact he, fun j hj => by simpa using h j (by omega) hj⟩
theorem pos_none {L : List Fil} {nm : ByteArray} (h : NoneTo L nm L.length) : pos L nm = none := by
  unfold pos
  rw [List.findIdx?_eq_none_iff]
  intro f hf
  obtain ⟨j, hj, rfl⟩ := List.getElem_of_mem hf
  exact h j hj hj
theorem fileAt_some {L : List Fil} {nm : ByteArray} {k : Nat} (h : NoneTo L nm k) (hk : k < L.length) {f : Fil} (hf : L[k] = f) (he : eqS f.nm nm = true) : fileAt L nm = (f.tx, true) := by
  unfold fileAt
  have : L.find? (fun f => eqS f.nm nm) = some f := by
    rw [List.find?_eq_some_iff_getElem]
    exact ⟨he, k, hk, hf, fun j hj => by simpa using h j (by omega) hj⟩
  rw [this]
theorem fileAt_none {L : List Fil} {nm : ByteArray} (h : NoneTo L nm L.length) : fileAt L nm = (⟨#[]⟩, false) := by
  unfold fileAt
  have : L.find? (fun f => eqS f.nm nm) = none := by
    rw [List.find?_eq_none]
    intro f hf
    obtain ⟨j, hj, rfl⟩ := List.getElem_of_mem hf
    simp [h j hj hj]
  rw [this]
/-- What a place says of the file there. -/
theorem pos_at {L : List Fil} {nm : ByteArray} {k : Nat} (h : pos L nm = some k) : ∃ hk : k < L.length, eqS L[k].nm nm = true ∧ fileAt L nm = (L[k].tx, true) := by
  unfold pos at h
  rw [List.findIdx?_eq_some_iff_getElem] at h
  obtain ⟨hk, he, hn⟩ := h
  exact ⟨hk, he, fileAt_some (fun j hj hlt => by simpa using hn j hlt) hk rfl he⟩
theorem pos_not {L : List Fil} {nm : ByteArray} (h : pos L nm = none) : fileAt L nm = (⟨#[]⟩, false) := by
  unfold pos at h
  rw [List.findIdx?_eq_none_iff] at h
  exact fileAt_none fun j hj _ => h _ (List.getElem_mem hj)
end Go.Proofs.Ytpgcfgbhkodmeaa

namespace Go.Proofs.Ytpgcfgbhkodmeaa
open Go.RowKit

theorem okTo_at {L : List Fil} : ∀ {n j : Nat}, okTo L n = true → j < n → rOk L j = true
  | 0, j, _, h => by omega
  | n + 1, j, hk, h => by
    simp only [okTo, Bool.and_eq_true] at hk
    by_cases e : j = n
    · subst e; exact hk.2
    · exact okTo_at hk.1 (by omega)
theorem rOk_fOk {L : List Fil} {j : Nat} (hj : j < L.length) (h : rOk L j = true) : fOk L[j] = true := by
  cases j with
  | zero => rw [rOk_zero hj rfl] at h; exact h
  | succ m => rw [rOk_succ hj rfl rfl, Bool.and_eq_true] at h; exact h.1
theorem dOk_at {L : List Fil} (h : dOk L = true) {j : Nat} (hj : j < L.length) : fOk L[j] = true := by
  simp only [dOk, Bool.and_eq_true] at h
  exact rOk_fOk hj (okTo_at h.2 hj)
theorem dOk_len {L : List Fil} (h : dOk L = true) : L.length ≤ 30 := by
  simp only [dOk, Bool.and_eq_true, decide_eq_true_eq] at h
  exact h.1
theorem fOk_kp {f : Fil} (h : fOk f = true) : 0 ≤ f.kp ∧ f.kp ≤ f.tx.size := by
  simp only [fOk, Bool.and_eq_true, decide_eq_true_eq] at h
  exact h.2.2
theorem fOk_tx {f : Fil} (h : fOk f = true) : f.tx.size ≤ 20000 := by
  simp only [fOk, Bool.and_eq_true, decide_eq_true_eq] at h
  exact h.2.1
theorem fOk_nm {f : Fil} (h : fOk f = true) : 1 ≤ f.nm.size ∧ f.nm.size ≤ 8 := by
  simp only [fOk, nOk, Bool.and_eq_true, decide_eq_true_eq] at h
  exact h.1

def wholeF (f : Fil) : Bool := decide (f.kp = f.tx.size)
def aK (L : List Fil) : Bool := dOk L && L.all wholeF
def KeptTo (L : List Fil) (k : Nat) : Prop := ∀ j (h : j < L.length), j < k → wholeF L[j] = true
theorem KeptTo.zero (L : List Fil) : KeptTo L 0 := fun j _ h => by omega
theorem KeptTo.succ {L : List Fil} {k : Nat} (h : KeptTo L k) (hk : k < L.length) {f : Fil} (hf : L[k] = f) (he : wholeF f = true) : KeptTo L (k + 1) := by
  intro j hj hlt
  by_cases e : j = k
  · subst e; rw [hf]; exact he
  · exact h j hj (by omega)
theorem aK_true {L : List Fil} (hd : dOk L = true) (h : KeptTo L L.length) : aK L = true := by
  unfold aK
  rw [hd, Bool.true_and, List.all_eq_true]
  intro f hf
  obtain ⟨j, hj, rfl⟩ := List.getElem_of_mem hf
  exact h j hj hj
theorem aK_false {L : List Fil} {k : Nat} (hk : k < L.length) {f : Fil} (hf : L[k] = f) (he : wholeF f = false) : aK L = false := by
  unfold aK
  have : L.all wholeF = false := by
    rw [List.all_eq_false]
    exact ⟨f, by rw [← hf]; exact List.getElem_mem hk, by simp [he]⟩
  rw [this, Bool.and_false]
theorem aK_bad {L : List Fil} (hd : dOk L = false) : aK L = false := by simp [aK, hd]
end Go.Proofs.Ytpgcfgbhkodmeaa

namespace Go.Proofs.Ytpgcfgbhkodmeaa
open Go.RowKit

/-- The files whose names are not nm. -/
def woL (L : List Fil) (nm : ByteArray) : List Fil := L.filter fun f => !eqS f.nm nm
/-- A file put in its place. -/
def putL (L : List Fil) (f : Fil) : List Fil := (L.filter fun g => ltS g.nm f.nm) ++ [f] ++ (L.filter fun g => !(ltS g.nm f.nm || eqS g.nm f.nm))

theorem filter_take_on {L : List Fil} {p : Fil → Bool} {k : Nat} (hk : k < L.length) {f : Fil} (hf : L[k] = f) (hp : p f = true) : (L.take (k + 1)).filter p = (L.take k).filter p ++ [f] := by
  rw [List.take_succ_eq_append_getElem hk, List.filter_append, hf]; simp [hp]
theorem filter_take_off {L : List Fil} {p : Fil → Bool} {k : Nat} (hk : k < L.length) {f : Fil} (hf : L[k] = f) (hp : p f = false) : (L.take (k + 1)).filter p = (L.take k).filter p := by
  rw [List.take_succ_eq_append_getElem hk, List.filter_append, hf]; simp [hp]
theorem filter_take_len (L : List Fil) (p : Fil → Bool) (k : Nat) : ((L.take k).filter p).length ≤ k := Nat.le_trans (List.length_filter_le _ _) (by rw [List.length_take]; omega)
theorem woL_len (L : List Fil) (nm : ByteArray) : (woL L nm).length ≤ L.length := List.length_filter_le _ _
end Go.Proofs.Ytpgcfgbhkodmeaa
