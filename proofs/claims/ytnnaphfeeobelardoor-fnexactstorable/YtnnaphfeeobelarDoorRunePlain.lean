/- A text read sign by sign: how wide a sign is, and what stands within it. Plain, no program. -/
import Derived.Laws.RangeAny
namespace Go.Proofs.YtnnaphfeeobelarDoor
theorem getB (s : ByteArray) (j : Nat) (h : j < s.size) : s.get! j = s[j] := by
  simp [ByteArray.get!, getElem!_pos, h]
  rfl
/-- A sign is one byte or more, ends within the text, and all its bytes but the first are above 127. -/
theorem dec_wide (s : ByteArray) (pos : Nat) (h : pos < s.size) :
    1 ≤ (Utf8.decode s pos).2 ∧ pos + (Utf8.decode s pos).2 ≤ s.size ∧ ∀ j (hj : j < s.size), pos < j → j < pos + (Utf8.decode s pos).2 → 128 ≤ (s[j]'hj).toNat := by
  have e1 : ∀ k, pos + k < s.size → (s.get! (pos + k)).toNat / 64 = 2 → ∀ j (hj : j < s.size), j = pos + k → 128 ≤ (s[j]'hj).toNat := by
    intro k hk hc j hj e
    subst e
    rw [getB s _ hk] at hc
    omega
  simp only [Utf8.decode]
  split
  · exact ⟨by omega, by omega, fun j hj h1 h2 => by omega⟩
  · split
    · next h2 =>
      simp only [Bool.and_eq_true, decide_eq_true_eq, beq_iff_eq] at h2
      split
      · exact ⟨by omega, by omega, fun j hj h3 h4 => e1 1 h2.2.1 h2.2.2 j hj (by omega)⟩
      · exact ⟨by omega, by omega, fun j hj h3 h4 => by omega⟩
    · split
      · next h2 =>
        simp only [Bool.and_eq_true, decide_eq_true_eq, beq_iff_eq] at h2
        split
        · refine ⟨by omega, by omega, fun j hj h3 h4 => ?_⟩
          rcases (show j = pos + 1 ∨ j = pos + 2 by omega) with e | e
          · exact e1 1 h2.1.2.1 h2.1.2.2 j hj e
          · exact e1 2 h2.2.1 h2.2.2 j hj e
        · exact ⟨by omega, by omega, fun j hj h3 h4 => by omega⟩
      · split
        · next h2 =>
          simp only [Bool.and_eq_true, decide_eq_true_eq, beq_iff_eq] at h2
          split
          · refine ⟨by omega, by omega, fun j hj h3 h4 => ?_⟩
            rcases (show j = pos + 1 ∨ j = pos + 2 ∨ j = pos + 3 by omega) with e | e | e
            · exact e1 1 h2.1.1.2.1 h2.1.1.2.2 j hj e
            · exact e1 2 h2.1.2.1 h2.1.2.2 j hj e
            · exact e1 3 h2.2.1 h2.2.2 j hj e
          · exact ⟨by omega, by omega, fun j hj h3 h4 => by omega⟩
        · exact ⟨by omega, by omega, fun j hj h3 h4 => by omega⟩
end Go.Proofs.YtnnaphfeeobelarDoor
