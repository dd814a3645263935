/- What is left of a disk: plain, no program. -/
import Derived.Test.YtghladeamdhlhalKeptPlain
namespace Go.Proofs.Ytghladeamdhlhal
open Go.RowKit

def lossN (f : Fil) (t : Int) : Int := if (if (f.tx.size : Int) < t then (f.tx.size : Int) else t) < f.kp then f.kp else (if (f.tx.size : Int) < t then (f.tx.size : Int) else t)
def cutF (f : Fil) (t : Int) : Fil := ⟨f.nm, f.tx.extract 0 (lossN f t).toNat, lossN f t⟩
def toldAt (left : List Int) (k : Nat) : Int := match left[k]? with | some t => t | none => 0
def loseTo (L : List Fil) (left : List Int) (k : Nat) : List Fil := (List.range k).map fun i => cutF (L.getD i zfil) (toldAt left i)
def loseL (L : List Fil) (left : List Int) : List Fil := if dOk L = true then loseTo L left L.length else []
theorem loseTo_length (L : List Fil) (left : List Int) (k : Nat) : (loseTo L left k).length = k := by simp [loseTo]
theorem loseTo_succ {L : List Fil} {left : List Int} {k : Nat} (hk : k < L.length) {f : Fil} (hf : L[k] = f) : loseTo L left (k + 1) = loseTo L left k ++ [cutF f (toldAt left k)] := by
  simp [loseTo, List.range_succ, List.getD, List.getElem?_eq_getElem hk, hf]
theorem toldAt_in {left : List Int} {k : Nat} (h : k < left.length) : toldAt left k = left[k] := by simp [toldAt, List.getElem?_eq_getElem h]
theorem toldAt_out {left : List Int} {k : Nat} (h : ¬ k < left.length) : toldAt left k = 0 := by simp [toldAt, List.getElem?_eq_none (by omega : left.length ≤ k)]
theorem lossN_in {f : Fil} (h : fOk f = true) (t : Int) : 0 ≤ lossN f t ∧ f.kp ≤ lossN f t ∧ lossN f t ≤ f.tx.size := by
  have := fOk_kp h
  unfold lossN
  split <;> split <;> omega
end Go.Proofs.Ytghladeamdhlhal
