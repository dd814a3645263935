/- The marks that a law lays into entries, and looks for again. Written by mkrow4.py. -/
import Derived.Test.YtpgcfgbhkodmeaaEnsLawJ
namespace Go.Proofs.Ytpgcfgbhkodmeaa
open Go.RowKit Go.Sort

def mEn (n : Nat) : En := ⟨mkT n, ((n + 1 : Nat) : Int), ((n + 2 : Nat) : Int), mkT (n + 3)⟩
def mEnl (k n : Nat) : List En := (List.range n).map fun j => mEn (k + 4 * j)
theorem mEnl_length (k n : Nat) : (mEnl k n).length = n := by simp [mEnl]
theorem mEnl_at {k n j : Nat} (h : j < n) : (mEnl k n)[j]'(by rw [mEnl_length]; exact h) = mEn (k + 4 * j) := by simp [mEnl]
theorem mEnl_succ (k n : Nat) : mEnl k (n + 1) = mEnl k n ++ [mEn (k + 4 * n)] := by simp [mEnl, List.range_succ]
theorem mEnl_set (k j : Nat) (L : List En) (h : j < L.length) : (mEnl k j ++ L.drop j).set j (mEn (k + 4 * j)) = mEnl k (j + 1) ++ L.drop (j + 1) := by
  rw [List.set_append_right _ _ (by rw [mEnl_length]; exact Nat.le_refl _), mEnl_length, Nat.sub_self, List.drop_eq_getElem_cons h, List.set_cons_zero, mEnl_succ]
  simp
theorem rowN_stored {w : World} {base : Nat} {e : TypeId} {g n cap : Nat} {xs : List Value} (h : w.ownsRow base e 4 (.slice (some ⟨g, 0, none⟩) n cap) n xs) (i : Nat) (u : Value) :
    (w.setCell ⟨g, i, none⟩ u).ownsRow base e 4 (.slice (some ⟨g, 0, none⟩) n cap) n (xs.set i u) ∧ w.grownBy (w.setCell ⟨g, i, none⟩ u) (some g) := World.ownsRow.stored h i u


end Go.Proofs.Ytpgcfgbhkodmeaa
