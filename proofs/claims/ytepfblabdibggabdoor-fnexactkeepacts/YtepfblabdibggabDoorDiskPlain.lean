/- What a right disk is: plain, no program. -/
import Derived.Test.YtepfblabdibggabDoorFiles
namespace Go.Proofs.YtepfblabdibggabDoor
open Go.RowKit

def nOk (s : ByteArray) : Bool := decide (1 ≤ s.size ∧ s.size ≤ 8)
def fOk (f : Fil) : Bool := nOk f.nm && (decide (f.tx.size ≤ 20000) && decide (0 ≤ f.kp ∧ f.kp ≤ f.tx.size))
def ltS (a b : ByteArray) : Bool := Op.bytesLess a.toList b.toList

/-- The file at k is right, and stands behind the one ahead of it. -/
def rOk (L : List Fil) : Nat → Bool
  | 0 => match L[0]? with | some f => fOk f | none => false
  | m + 1 => match L[m + 1]?, L[m]? with | some f, some p => fOk f && ltS p.nm f.nm | _, _ => false
def okTo (L : List Fil) : Nat → Bool
  | 0 => true
  | k + 1 => okTo L k && rOk L k
def dOk (L : List Fil) : Bool := decide (L.length ≤ 30) && okTo L L.length

theorem rOk_zero {L : List Fil} {f : Fil} (h : 0 < L.length) (hf : L[0] = f) : rOk L 0 = fOk f := by
  simp [rOk, List.getElem?_eq_getElem h, hf]
theorem rOk_succ {L : List Fil} {f p : Fil} {m : Nat} (h : m + 1 < L.length) (hf : L[m + 1] = f) (hp : L[m] = p) : rOk L (m + 1) = (fOk f && ltS p.nm f.nm) := by
  simp [rOk, List.getElem?_eq_getElem h, List.getElem?_eq_getElem (show m < L.length by omega), hf, hp]
theorem okTo_false {L : List Fil} {k : Nat} (h : rOk L k = false) : ∀ n, k < n → okTo L n = false
  | 0, hn => by omega
  | n + 1, hn => by
    by_cases e : k = n
    · subst e; simp [okTo, h]
    · simp [okTo, okTo_false h n (by omega)]
theorem dOk_false {L : List Fil} {k : Nat} (h : rOk L k = false) (hk : k < L.length) : dOk L = false := by simp [dOk, okTo_false h _ hk]
theorem dOk_true {L : List Fil} (hl : L.length ≤ 30) (h : okTo L L.length = true) : dOk L = true := by simp [dOk, hl, h]
theorem dOk_long {L : List Fil} (hl : ¬ L.length ≤ 30) : dOk L = false := by simp [dOk, hl]
theorem okTo_succ {L : List Fil} {k : Nat} (h : okTo L k = true) (hr : rOk L k = true) : okTo L (k + 1) = true := by simp [okTo, h, hr]
end Go.Proofs.YtepfblabdibggabDoor
