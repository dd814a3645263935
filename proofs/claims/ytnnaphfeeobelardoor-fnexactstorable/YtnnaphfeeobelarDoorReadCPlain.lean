/- How far the reading of what is told is. Plain, no program. -/
import Derived.Test.YtnnaphfeeobelarDoorControlPlain
import Derived.Test.YtnnaphfeeobelarDoorRunePlain
namespace Go.Proofs.YtnnaphfeeobelarDoor
open Go.RowKit
/-- How far the reading is: the next byte, the part's beginning, what is told so far. -/
def readC (l : List UInt8) (k b : Nat) (c : Ct) : Prop :=
  (k ≤ l.length ∧ b ≤ k ∧ (∀ x ∈ (l.drop b).take (k - b), x ≠ 44) ∧ controlS l = (splitC (l.drop b)).foldl partC c) ∨ (k = l.length + 1 ∧ controlS l = c)
theorem readC_start (l : List UInt8) : readC l 0 0 ct0 := .inl ⟨Nat.zero_le _, Nat.le_refl _, by simp, rfl⟩
theorem readC_next {l : List UInt8} {k b : Nat} {c : Ct} (h : readC l k b c) (hk : k < l.length) (hx : l[k] ≠ 44) : readC l (k + 1) b c := by
  rcases h with ⟨_, h2, h3, h4⟩ | ⟨h, _⟩
  · refine .inl ⟨by omega, by omega, ?_, h4⟩
    intro x hx'
    rw [show k + 1 - b = (k - b) + 1 by omega, List.take_add_one, List.mem_append] at hx'
    rcases hx' with hx' | hx'
    · exact h3 x hx'
    · rw [List.getElem?_drop, show b + (k - b) = k by omega, List.getElem?_eq_getElem hk] at hx'
      simp at hx'
      rw [hx']; exact hx
  · omega
theorem readC_part {l : List UInt8} {k b : Nat} {c : Ct} (h : readC l k b c) (hk : k < l.length) (hx : l[k] = 44) : readC l (k + 1) (k + 1) (partC c ((l.drop b).take (k - b))) := by
  rcases h with ⟨_, h2, h3, h4⟩ | ⟨h, _⟩
  · refine .inl ⟨by omega, Nat.le_refl _, by simp, ?_⟩
    have e : l.drop b = (l.drop b).take (k - b) ++ 44 :: l.drop (k + 1) := by
      rw [← hx, List.getElem_cons_drop]
      have := List.take_append_drop (k - b) (l.drop b)
      rw [List.drop_drop, show b + (k - b) = k by omega] at this
      exact this.symm
    rw [h4]
    conv => lhs; rw [e]
    rw [splitC_at _ _ h3]
    rfl
  · omega
theorem readC_last {l : List UInt8} {b : Nat} {c : Ct} (h : readC l l.length b c) : readC l (l.length + 1) (l.length + 1) (partC c ((l.drop b).take (l.length - b))) := by
  rcases h with ⟨_, h2, h3, h4⟩ | ⟨h, _⟩
  · refine .inr ⟨rfl, ?_⟩
    have e : (l.drop b).take (l.length - b) = l.drop b := List.take_of_length_le (by rw [List.length_drop]; omega)
    rw [e] at h3 ⊢
    rw [h4, splitC_none _ h3]
    rfl
  · omega
theorem readC_end {l : List UInt8} {b : Nat} {c : Ct} (h : readC l (l.length + 1) b c) : controlS l = c := by
  rcases h with ⟨h, _⟩ | ⟨_, h⟩
  · omega
  · exact h
/-- Several bytes further, none of them a comma. -/
theorem readC_jump {l : List UInt8} {b : Nat} {c : Ct} : ∀ (n k : Nat), readC l k b c → k + n ≤ l.length → (∀ j (hj : j < l.length), k ≤ j → j < k + n → l[j] ≠ 44) → readC l (k + n) b c
  | 0, k, h, _, _ => h
  | n + 1, k, h, hl, hx => by
    have h1 := readC_next h (by omega) (hx k (by omega) (Nat.le_refl _) (by omega))
    have h2 := readC_jump n (k + 1) h1 (by omega) (fun j hj h3 h4 => hx j hj (by omega) (by omega))
    rw [show k + (n + 1) = k + 1 + n by omega]
    exact h2
end Go.Proofs.YtnnaphfeeobelarDoor
