/- The marks that a law lays into Clients, and looks for again. Written by mkrowg.py. -/
import Derived.Test.YtpgcfgbhkodmeaaCliLaw
namespace Go.Proofs.Ytpgcfgbhkodmeaa
open Go.RowKit Go.Sort

def mCli (n : Nat) : Cli := ⟨((n : Nat) : Int), mkT (n + 1), ((n + 2 : Nat) : Int), ((n + 3 : Nat) : Int), ((n + 4 : Nat) : Int), mkT (n + 5), ((n + 6 : Nat) : Int)⟩
def mClil (k n : Nat) : List Cli := (List.range n).map fun j => mCli (k + 7 * j)
theorem mClil_length (k n : Nat) : (mClil k n).length = n := by simp [mClil]
theorem mClil_at {k n j : Nat} (h : j < n) : (mClil k n)[j]'(by rw [mClil_length]; exact h) = mCli (k + 7 * j) := by simp [mClil]
theorem mClil_succ (k n : Nat) : mClil k (n + 1) = mClil k n ++ [mCli (k + 7 * n)] := by simp [mClil, List.range_succ]
theorem mClil_set (k j : Nat) (L : List Cli) (h : j < L.length) : (mClil k j ++ L.drop j).set j (mCli (k + 7 * j)) = mClil k (j + 1) ++ L.drop (j + 1) := by
  rw [List.set_append_right _ _ (by rw [mClil_length]; exact Nat.le_refl _), mClil_length, Nat.sub_self, List.drop_eq_getElem_cons h, List.set_cons_zero, mClil_succ]
  simp


end Go.Proofs.Ytpgcfgbhkodmeaa
