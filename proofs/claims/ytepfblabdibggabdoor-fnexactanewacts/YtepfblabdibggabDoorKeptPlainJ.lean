/- Texts that stand in one: KeptPlain, ActPlain. -/
import Derived.Test.YtepfblabdibggabDoorDiskPlainJ
namespace Go.Proofs.YtepfblabdibggabDoor
open Go.RowKit

theorem okTo_at {L : List Fil} : ∀ {n j : Nat}, okTo L n = true → j < n → rOk L j = true
  | 0, j, _, h => by omega
  | n + 1, j, hk, h => by
    simp only [okTo, Bool.and_eq_true] at hk
    by_cases e : j = n
    · subst e; exact hk.2
    · exact okTo_at hk.1 (by omega)
theorem rOk_fOk {L : List Fil} {j : Nat} (hj : j < L.length) (h : rOk L j = true) : fOk L[j] = true := by
  cases j with
  | zero => rw [rOk_zero hj rfl] at h; exact h
  | succ m => rw [rOk_succ hj rfl rfl, Bool.and_eq_true] at h; exact h.1
theorem dOk_at {L : List Fil} (h : dOk L = true) {j : Nat} (hj : j < L.length) : fOk L[j] = true := by
  simp only [dOk, Bool.and_eq_true] at h
  exact rOk_fOk hj (okTo_at h.2 hj)
theorem dOk_len {L : List Fil} (h : dOk L = true) : L.length ≤ 30 := by
  simp only [dOk, Bool.and_eq_true, decide_eq_true_eq] at h
  exact h.1
theorem fOk_kp {f : Fil} (h : fOk f = true) : 0 ≤ f.kp ∧ f.kp ≤ f.tx.size := by
  simp only [fOk, Bool.and_eq_true, decide_eq_true_eq] at h
  exact h.2.2
theorem fOk_tx {f : Fil} (h : fOk f = true) : f.tx.size ≤ 20000 := by
  simp only [fOk, Bool.and_eq_true, decide_eq_true_eq] at h
  exact h.2.1
theorem fOk_nm {f : Fil} (h : fOk f = true) : 1 ≤ f.nm.size ∧ f.nm.size ≤ 8 := by
  simp only [fOk, nOk, Bool.and_eq_true, decide_eq_true_eq] at h
  exact h.1

def wholeF (f : Fil) : Bool := decide (f.kp = f.tx.size)
def aK (L : List Fil) : Bool := dOk L && L.all wholeF
def KeptTo (L : List Fil) (k : Nat) : Prop := ∀ j (h : j < L.length), j < k → wholeF L[j] = true
theorem KeptTo.zero (L : List Fil) : KeptTo L 0 := fun j _ h => by omega
theorem KeptTo.succ {L : List Fil} {k : Nat} (h : KeptTo L k) (hk : k < L.length) {f : Fil} (hf : L[k] = f) (he : wholeF f = true) : KeptTo L (k + 1) := by
  intro j hj hlt
  by_cases e : j = k
  · subst e; rw [hf]; exact he
  · exact h j hj (by omega)
theorem aK_true {L : List Fil} (hd : dOk L = true) (h : KeptTo L L.length) : aK L = true := by
  unfold aK
  rw [hd, Bool.true_and, List.all_eq_true]
  intro f hf
  obtain ⟨j, hj, rfl⟩ := List.getElem_of_mem hf
  exact h j hj hj
theorem aK_false {L : List Fil} {k : Nat} (hk : k < L.length) {f : Fil} (hf : L[k] = f) (he : wholeF f = false) : aK L = false := by
  unfold aK
  have : L.all wholeF = false := by
    rw [List.all_eq_false]
    exact ⟨f, by rw [← hf]; exact List.getElem_mem hk, by simp [he]⟩
  rw [this, Bool.and_false]
theorem aK_bad {L : List Fil} (hd : dOk L = false) : aK L = false := by simp [aK, hd]
end Go.Proofs.YtepfblabdibggabDoor

namespace Go.Proofs.YtepfblabdibggabDoor
open Go.RowKit

/-- The files whose names are not nm. -/
def woL (L : List Fil) (nm : ByteArray) : List Fil := L.filter fun f => !eqS f.nm nm
/-- A file put in its place. -/
def putL (L : List Fil) (f : Fil) : List Fil := (L.filter fun g => ltS g.nm f.nm) ++ [f] ++ (L.filter fun g => !(ltS g.nm f.nm || eqS g.nm f.nm))

theorem filter_take_on {L : List Fil} {p : Fil → Bool} {k : Nat} (hk : k < L.length) {f : Fil} (hf : L[k] = f) (hp : p f = true) : (L.take (k + 1)).filter p = (L.take k).filter p ++ [f] := by
  rw [List.take_succ_eq_append_getElem hk, List.filter_append, hf]; simp [hp]
theorem filter_take_off {L : List Fil} {p : Fil → Bool} {k : Nat} (hk : k < L.length) {f : Fil} (hf : L[k] = f) (hp : p f = false) : (L.take (k + 1)).filter p = (L.take k).filter p := by
  rw [List.take_succ_eq_append_getElem hk, List.filter_append, hf]; simp [hp]
theorem filter_take_len (L : List Fil) (p : Fil → Bool) (k : Nat) : ((L.take k).filter p).length ≤ k := Nat.le_trans (List.length_filter_le _ _) (by rw [List.length_take]; omega)
theorem woL_len (L : List Fil) (nm : ByteArray) : (woL L nm).length ≤ L.length := List.length_filter_le _ _
end Go.Proofs.YtepfblabdibggabDoor
