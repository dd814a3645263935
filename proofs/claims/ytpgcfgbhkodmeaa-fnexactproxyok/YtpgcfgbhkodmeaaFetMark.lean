/- The marks that a law lays into Fetchs, and looks for again. Written by mkrowg.py. -/
import Derived.Test.YtpgcfgbhkodmeaaEnsLawJ
namespace Go.Proofs.Ytpgcfgbhkodmeaa
open Go.RowKit Go.Sort

def mFet (n : Nat) : Fet := ⟨mkT n, mkT (n + 1), ((n + 2 : Nat) : Int), ((n + 3 : Nat) : Int), ((n + 4 : Nat) : Int)⟩
def mFetl (k n : Nat) : List Fet := (List.range n).map fun j => mFet (k + 5 * j)
theorem mFetl_length (k n : Nat) : (mFetl k n).length = n := by simp [mFetl]
theorem mFetl_at {k n j : Nat} (h : j < n) : (mFetl k n)[j]'(by rw [mFetl_length]; exact h) = mFet (k + 5 * j) := by simp [mFetl]
theorem mFetl_succ (k n : Nat) : mFetl k (n + 1) = mFetl k n ++ [mFet (k + 5 * n)] := by simp [mFetl, List.range_succ]
theorem mFetl_set (k j : Nat) (L : List Fet) (h : j < L.length) : (mFetl k j ++ L.drop j).set j (mFet (k + 5 * j)) = mFetl k (j + 1) ++ L.drop (j + 1) := by
  rw [List.set_append_right _ _ (by rw [mFetl_length]; exact Nat.le_refl _), mFetl_length, Nat.sub_self, List.drop_eq_getElem_cons h, List.set_cons_zero, mFetl_succ]
  simp


end Go.Proofs.Ytpgcfgbhkodmeaa
