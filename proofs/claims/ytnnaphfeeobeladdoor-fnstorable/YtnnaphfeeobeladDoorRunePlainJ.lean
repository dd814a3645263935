/- Texts that stand in one: RunePlain, ReadCPlain. -/
import Derived.Laws.RangeAny
import Derived.Test.YtnnaphfeeobeladDoorControlPlain
namespace Go.Proofs.YtnnaphfeeobeladDoor
theorem getB (s : ByteArray) (j : Nat) (h : j < s.size) : s.get! j = s[j] := by
  simp [ByteArray.get!, getElem!_pos, h]
  rfl
/-- A sign is one byte or more, ends within the text, and all its bytes but the first are above 127. -/
theorem dec_wide (s : ByteArray) (pos : Nat) (h : pos < s.size) :
    1 ≤ (Utf8.decode s pos).2 ∧ pos + (Utf8.decode s pos).2 ≤ s.size ∧ ∀ j (hj : j < s.size), pos < j → j < pos + (Utf8.decode s pos).2 → 128 ≤ (s[j]'hj).toNat := by
  have e1 : ∀ k, pos + k < s.size → (s.get! (pos + k)).toNat / 64 = 2 → ∀ j (hj : j < s.size), j = pos + k → 128 ≤ (s[j]'hj).toNat := by
    intro k hk hc j hj e
    subst e
    rw [getB s _ hk] at hc
    omega
  simp only [Utf8.decode]
  split
  · exact ⟨by omega, by omega, fun j hj h1 h2 => by omega⟩
  · split
    · next h2 =>
      simp only [Bool.and_eq_true, decide_eq_true_eq, beq_iff_eq] at h2
      split
      · exact ⟨by omega, by omega, fun j hj h3 h4 => e1 1 h2.2.1 h2.2.2 j hj (by omega)⟩
      · exact ⟨by omega, by omega, fun j hj h3 h4 => by omega⟩
    · split
      · next h2 =>
        simp only [Bool.and_eq_true, decide_eq_true_eq, beq_iff_eq] at h2
        split
        · refine ⟨by omega, by omega, fun j hj h3 h4 => ?_⟩
          rcases (show j = pos + 1 ∨ j = pos + 2 by omega) with e | e
          · exact e1 1 h2.1.2.1 h2.1.2.2 j hj e
          · exact e1 2 h2.2.1 h2.2.2 j hj e
        · exact ⟨by omega, by omega, fun j hj h3 h4 => by omega⟩
      · split
        · next h2 =>
          simp only [Bool.and_eq_true, decide_eq_true_eq, beq_iff_eq] at h2
          split
          · refine ⟨by omega, by omega, fun j hj h3 h4 => ?_⟩
            rcases (show j = pos + 1 ∨ j = pos + 2 ∨ j = pos + 3 by omega) with e | e | e
            · exact e1 1 h2.1.1.2.1 h2.1.1.2.2 j hj e
            · exact e1 2 h2.1.2.1 h2.1.2.2 j hj e
            · exact e1 3 h2.2.1 h2.2.2 j hj e
          · exact ⟨by omega, by omega, fun j hj h3 h4 => by omega⟩
        · exact ⟨by omega, by omega, fun j hj h3 h4 => by omega⟩
end Go.Proofs.YtnnaphfeeobeladDoor

namespace Go.Proofs.YtnnaphfeeobeladDoor
open Go.RowKit
/-- How far the reading is: the next byte, the part's beginning, what is told so far. -/
def readC (l : List UInt8) (k b : Nat) (c : Ct) : Prop :=
  (k ≤ l.length ∧ b ≤ k ∧ (∀ x ∈ (l.drop b).take (k - b), x ≠ 44) ∧ controlS l = (splitC (l.drop b)).foldl partC c) ∨ (k = l.length + 1 ∧ controlS l = c)
theorem readC_start (l : List UInt8) : readC l 0 0 ct0 := .inl ⟨Nat.zero_le _, Nat.le_refl _, by simp, rfl⟩
theorem readC_next {l : List UInt8} {k b : Nat} {c : Ct} (h : readC l k b c) (hk : k < l.length) (hx : l[k] ≠ 44) : readC l (k + 1) b c := by
  rcases h with ⟨_, h2, h3, h4⟩ | ⟨h, _⟩
  · refine .inl ⟨by omega, by omega, ?_, h4⟩
    intro x hx'
    rw [show k + 1 - b = (k - b) + 1 by omega, List.take_add_one, List.mem_append] at hx'
    rcases hx' with hx' | hx'
    · exact h3 x hx'
    · rw [List.getElem?_drop, show b + (k - b) = k by omega, List.getElem?_eq_getElem hk] at hx'
      simp at hx'
      rw [hx']; exact hx
  · omega
theorem readC_part {l : List UInt8} {k b : Nat} {c : Ct} (h : readC l k b c) (hk : k < l.length) (hx : l[k] = 44) : readC l (k + 1) (k + 1) (partC c ((l.drop b).take (k - b))) := by
  rcases h with ⟨_, h2, h3, h4⟩ | ⟨h, _⟩
  · refine .inl ⟨by omega, Nat.le_refl _, by simp, ?_⟩
    have e : l.drop b = (l.drop b).take (k - b) ++ 44 :: l.drop (k + 1) := by
      rw [← hx, List.getElem_cons_drop]
      have := List.take_append_drop (k - b) (l.drop b)
      rw [List.drop_drop, show b + (k - b) = k by omega] at this
      exact this.symm
    rw [h4]
    conv => lhs; rw [e]
    rw [splitC_at _ _ h3]
    rfl
  · omega
theorem readC_last {l : List UInt8} {b : Nat} {c : Ct} (h : readC l l.length b c) : readC l (l.length + 1) (l.length + 1) (partC c ((l.drop b).take (l.length - b))) := by
  rcases h with ⟨_, h2, h3, h4⟩ | ⟨h, _⟩
  · refine .inr ⟨rfl, ?_⟩
    have e : (l.drop b).take (l.length - b) = l.drop b := List.take_of_length_le (by rw [List.length_drop]; omega)
    rw [e] at h3 ⊢
    rw [h4, splitC_none _ h3]
    rfl
  · omega
theorem readC_end {l : List UInt8} {b : Nat} {c : Ct} (h : readC l (l.length + 1) b c) : controlS l = c := by
  rcases h with ⟨h, _⟩ | ⟨_, h⟩
  · omega
  · exact h
/-- Several bytes further, none of them a comma. -/
theorem readC_jump {l : List UInt8} {b : Nat} {c : Ct} : ∀ (n k : Nat), readC l k b c → k + n ≤ l.length → (∀ j (hj : j < l.length), k ≤ j → j < k + n → l[j] ≠ 44) → readC l (k + n) b c
  | 0, k, h, _, _ => h
  | n + 1, k, h, hl, hx => by
    have h1 := readC_next h (by omega) (hx k (by omega) (Nat.le_refl _) (by omega))
    have h2 := readC_jump n (k + 1) h1 (by omega) (fun j hj h3 h4 => hx j hj (by omega) (by omega))
    rw [show k + (n + 1) = k + 1 + n by omega]
    exact h2
end Go.Proofs.YtnnaphfeeobeladDoor
