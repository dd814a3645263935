/- Texts that stand in one: ChunkIPlain, RunePlain. -/
import Derived.Test.YtnnaphfeeobelaeGreatDoorChunkBack
import Derived.Test.YtnnaphfeeobelaeGreatDoorControlPlainJ
import Derived.Laws.RangeAny
namespace Go.Proofs.YtnnaphfeeobelaeGreatDoor
open Go.RowKit
def readI (l : List UInt8) : Nat → List UInt8 → Nat → List UInt8 × Int × Int
  | 0, _, _ => ([], 0, 2)
  | f + 1, body, k =>
    if l.length ≤ k then ([], 0, 1)
    else if (figsAt l k).1 = 0 ∨ 400 < body.length + (figsAt l k).2 then ([], 0, 2)
    else if endS l (k + (figsAt l k).1) < 0 then ([], 0, 2)
    else if endS l (k + (figsAt l k).1) = 0 then ([], 0, 1)
    else if l.length < k + (figsAt l k).1 + 2 + (figsAt l k).2 then ([], 0, 1)
    else if endS l (k + (figsAt l k).1 + 2 + (figsAt l k).2) < 0 then ([], 0, 2)
    else if endS l (k + (figsAt l k).1 + 2 + (figsAt l k).2) = 0 then ([], 0, 1)
    else if (figsAt l k).2 = 0 then (body ++ (l.drop (k + (figsAt l k).1 + 2)).take (figsAt l k).2, ((k + (figsAt l k).1 + 2 + (figsAt l k).2 + 2 : Nat) : Int), 0)
    else readI l f (body ++ (l.drop (k + (figsAt l k).1 + 2)).take (figsAt l k).2) (k + (figsAt l k).1 + 2 + (figsAt l k).2 + 2)
def chunksI (l : List UInt8) : List UInt8 × Int × Int := readI l (l.length + 1) [] 0
/-- The length's line by its figures and its end. -/
theorem sizeS_end (l : List UInt8) (k : Nat) (h0 : (figsAt l k).1 ≠ 0) : sizeS l k = if 0 < endS l (k + (figsAt l k).1) then ((((figsAt l k).2 : Nat) : Int), ((k + (figsAt l k).1 + 2 : Nat) : Int)) else (0, endS l (k + (figsAt l k).1)) := by
  unfold sizeS endS
  split
  · simp
  · rw [if_neg h0]
    split
    · split
      · simp
      · split
        · rw [if_pos (by omega)]
        · simp
    · simp
theorem sizeS_none (l : List UInt8) (k : Nat) (h0 : (figsAt l k).1 = 0) (hk : k < l.length) : sizeS l k = (0, -1) := by
  unfold sizeS
  rw [h0, Nat.add_zero]
  have e : l[k]? = some l[k] := List.getElem?_eq_getElem hk
  rw [e]
  simp
theorem sizeS_past (l : List UInt8) (k : Nat) (hk : l.length ≤ k) : sizeS l k = (0, 0) := by
  have e : l[k]? = none := List.getElem?_eq_none hk
  have f : (figsAt l k).1 = 0 := by unfold figsAt; rw [e]; rfl
  unfold sizeS
  rw [f, Nat.add_zero, e]
/-- One round of the two readers, where the length is not too great. -/
theorem read_round (l : List UInt8) (f : Nat) (B : List UInt8) (k : Nat) (hb : B.length + (figsAt l k).2 ≤ 400)
    (ih : ∀ B' k', readS l (f + 1) B k = readS l f B' k' → k' = k + (figsAt l k).1 + 2 + (figsAt l k).2 + 2 → B' = B ++ (l.drop (k + (figsAt l k).1 + 2)).take (figsAt l k).2 → k' ≤ l.length → readI l f B' k' = readS l f B' k') : readI l (f + 1) B k = readS l (f + 1) B k := by
  unfold readI
  by_cases h0 : l.length ≤ k
  · rw [if_pos h0]
    unfold readS
    rw [sizeS_past l k h0]
    simp
  rw [if_neg h0]
  by_cases h1 : (figsAt l k).1 = 0
  · rw [if_pos (Or.inl h1)]
    unfold readS
    rw [sizeS_none l k h1 (by omega)]
    simp
  rw [if_neg (by omega)]
  have hs := sizeS_end l k h1
  by_cases h2 : endS l (k + (figsAt l k).1) < 0
  · rw [if_pos h2]
    rw [if_neg (by omega)] at hs
    unfold readS
    rw [hs]
    rw [if_pos h2]
  rw [if_neg h2]
  by_cases h3 : endS l (k + (figsAt l k).1) = 0
  · rw [if_pos h3]
    rw [if_neg (by omega)] at hs
    unfold readS
    rw [hs]
    rw [if_neg h2, if_pos h3]
  rw [if_neg h3]
  rw [if_pos (by omega)] at hs
  obtain ⟨e1, e2⟩ := endS_ok (l := l) (k := k + (figsAt l k).1) rfl (by omega)
  have t1 : (((k + (figsAt l k).1 + 2 : Nat) : Int) + ((figsAt l k).2 : Int)).toNat = k + (figsAt l k).1 + 2 + (figsAt l k).2 := by omega
  have hR : readS l (f + 1) B k = if l.length < k + (figsAt l k).1 + 2 + (figsAt l k).2 then ([], 0, 1)
      else if endS l (k + (figsAt l k).1 + 2 + (figsAt l k).2) < 0 then ([], 0, 2)
      else if endS l (k + (figsAt l k).1 + 2 + (figsAt l k).2) = 0 then ([], 0, 1)
      else if (figsAt l k).2 = 0 then (B ++ (l.drop (k + (figsAt l k).1 + 2)).take (figsAt l k).2, endS l (k + (figsAt l k).1 + 2 + (figsAt l k).2), 0)
      else readS l f (B ++ (l.drop (k + (figsAt l k).1 + 2)).take (figsAt l k).2) (endS l (k + (figsAt l k).1 + 2 + (figsAt l k).2)).toNat := by
    show (if (sizeS l k).2 < 0 then _ else _) = _
    rw [hs]
    simp only []
    rw [t1, if_neg (by omega), if_neg (by omega), if_neg (by omega)]
    simp only [Int.toNat_natCast]
    by_cases g1 : l.length < k + (figsAt l k).1 + 2 + (figsAt l k).2
    · rw [if_pos g1, if_pos (by omega)]
    rw [if_neg g1, if_neg (by omega)]
    simp only [Int.natCast_eq_zero]
  rw [hR]
  by_cases g1 : l.length < k + (figsAt l k).1 + 2 + (figsAt l k).2
  · rw [if_pos g1, if_pos g1]
  rw [if_neg g1] at hR
  rw [if_neg g1, if_neg g1]
  by_cases g2 : endS l (k + (figsAt l k).1 + 2 + (figsAt l k).2) < 0
  · rw [if_pos g2, if_pos g2]
  rw [if_neg g2] at hR
  rw [if_neg g2, if_neg g2]
  by_cases g3 : endS l (k + (figsAt l k).1 + 2 + (figsAt l k).2) = 0
  · rw [if_pos g3, if_pos g3]
  rw [if_neg g3] at hR
  rw [if_neg g3, if_neg g3]
  obtain ⟨d1, d2⟩ := endS_ok (l := l) (k := k + (figsAt l k).1 + 2 + (figsAt l k).2) rfl (by omega)
  rw [d1] at hR ⊢
  by_cases g4 : (figsAt l k).2 = 0
  · rw [if_pos g4, if_pos g4]
    simp
  rw [if_neg g4] at hR
  rw [if_neg g4, if_neg g4]
  have t2 : (((k + (figsAt l k).1 + 2 + (figsAt l k).2 : Nat) : Int) + 2).toNat = k + (figsAt l k).1 + 2 + (figsAt l k).2 + 2 := by omega
  rw [t2] at hR ⊢
  exact ih _ _ hR rfl rfl (by omega)
/-- A short text is read alike. -/
theorem read_short (l : List UInt8) : ∀ (f : Nat) (B : List UInt8) (k : Nat), k ≤ l.length → B.length + (l.length - k) ≤ 145 → readI l f B k = readS l f B k
  | 0, _, _, _, _ => rfl
  | f + 1, B, k, hk, hb => by
    have hf := figsAt_le l k
    refine read_round l f B k (by omega) ?_
    intro B' k' _ e1 e2 hk'
    refine read_short l f B' k' hk' ?_
    rw [e2, List.length_append]
    have := List.length_take_le (figsAt l k).2 (l.drop (k + (figsAt l k).1 + 2))
    omega
theorem chunks_short {l : List UInt8} (h : l.length ≤ 145) : chunksI l = chunksS l := read_short l _ _ _ (by omega) (by simpa using h)
/-- What is not cut is read alike. -/
theorem read_uncut (l : List UInt8) : ∀ (f : Nat) (B : List UInt8) (k : Nat), readS l f B k ≠ ([], 0, 1) → readI l f B k = readS l f B k
  | 0, _, _, _ => rfl
  | f + 1, B, k, hn => by
    by_cases hb : B.length + (figsAt l k).2 ≤ 400
    · refine read_round l f B k hb ?_
      intro B' k' e _ _ _
      exact read_uncut l f B' k' (by rw [← e]; exact hn)
    · have hS : readS l (f + 1) B k = ([], 0, 2) := by
        by_cases h0 : l.length ≤ k
        · exact absurd (by unfold readS; rw [sizeS_past l k h0]; simp) hn
        by_cases h1 : (figsAt l k).1 = 0
        · unfold readS
          rw [sizeS_none l k h1 (by omega)]
          simp
        have hs := sizeS_end l k h1
        by_cases h2 : endS l (k + (figsAt l k).1) < 0
        · rw [if_neg (by omega)] at hs
          unfold readS
          rw [hs]
          rw [if_pos h2]
        by_cases h3 : endS l (k + (figsAt l k).1) = 0
        · rw [if_neg (by omega), h3] at hs
          exact absurd (by unfold readS; rw [hs]; simp) hn
        rw [if_pos (by omega)] at hs
        unfold readS
        rw [hs]
        simp only []
        rw [if_neg (by omega), if_neg (by omega), if_pos (by omega)]
      rw [hS]
      unfold readI
      by_cases h0 : l.length ≤ k
      · exact absurd (by unfold readS; rw [sizeS_past l k h0]; simp) hn
      rw [if_neg h0, if_pos (Or.inr (by omega))]
theorem chunks_uncut {l : List UInt8} (h : chunksS l ≠ ([], 0, 1)) : chunksI l = chunksS l := read_uncut l _ _ _ h
/-- Whole parts never want more. -/
theorem read_whole : ∀ (P : List (List UInt8)) (A r body : List UInt8) (f : Nat), P.length < f → (∀ p ∈ P, 1 ≤ p.length ∧ p.length ≤ 99) → 
    readS (A ++ (partsT P ++ (lastL ++ r))) f body A.length ≠ ([], 0, 1)
  | [], A, r, body, f + 1, _, _ => by
    by_cases hb : body.length ≤ 400
    · have h := read_parts [] A r body (f + 1) (by simp) (fun p hp => by cases hp) (by simpa using hb)
      rw [h]
      simp
    · rw [show partsT [] = [] from rfl, List.nil_append, lastL_part]
      obtain ⟨h1, h2, h3, h4⟩ := part_read A [] r (by simp)
      unfold readS
      rw [h1]
      simp only [List.length_nil]
      rw [if_neg (by omega), if_neg (by omega), if_pos (by omega)]
      simp
  | p :: P, A, r, body, f + 1, hf, hP => by
    obtain ⟨p1, p2⟩ := hP p List.mem_cons_self
    have e0 : A ++ (partsT (p :: P) ++ (lastL ++ r)) = A ++ (partT p ++ (partsT P ++ (lastL ++ r))) := by simp [partsT]
    have e9 : A ++ (partT p ++ (partsT P ++ (lastL ++ r))) = (A ++ partT p) ++ (partsT P ++ (lastL ++ r)) := by simp
    obtain ⟨h1, h2, h3, h4⟩ := part_read A p (partsT P ++ (lastL ++ r)) (by omega)
    rw [e0]
    unfold readS
    rw [h1]
    simp only []
    have e1 : (((A.length + ((figsL p.length).length + 2) : Nat) : Int) + ((p.length : Nat) : Int)).toNat = A.length + ((figsL p.length).length + 2) + p.length := by omega
    have e2 : (((A.length + ((figsL p.length).length + 2) : Nat) : Int)).toNat = A.length + ((figsL p.length).length + 2) := by omega
    have e3 : ((p.length : Nat) : Int).toNat = p.length := by omega
    rw [e1, e2, e3, h2, h3]
    have h5 : 0 < (partT p).length := by simp [partT, endL]; omega
    rw [if_neg (by omega), if_neg (by omega)]
    by_cases hb : 400 < (body.length : Int) + (p.length : Int)
    · rw [if_pos hb]
      simp
    rw [if_neg hb, if_neg (by omega), if_neg (by omega), if_neg (by omega), if_neg (by omega)]
    have e4 : (((A.length + (partT p).length : Nat) : Int)).toNat = (A ++ partT p).length := by rw [List.length_append]; omega
    rw [e4, e9]
    exact read_whole P (A ++ partT p) r (body ++ p) f (by simp at hf; omega) (fun q hq => hP q (List.mem_cons_of_mem _ hq))
theorem chunks_whole (P : List (List UInt8)) (r : List UInt8) (hP : ∀ p ∈ P, 1 ≤ p.length ∧ p.length ≤ 99) : chunksI (partsT P ++ (lastL ++ r)) = chunksS (partsT P ++ (lastL ++ r)) := by
  refine chunks_uncut ?_
  unfold chunksS
  have h := read_whole P [] r [] ((partsT P ++ (lastL ++ r)).length + 1) (by have := partsT_few P; rw [List.length_append]; omega) hP
  simpa using h
/-- What is read does not hang on how many rounds are allowed. -/
theorem readI_fuel (l : List UInt8) : ∀ (f g : Nat) (body : List UInt8) (k : Nat), k ≤ l.length → l.length + 1 ≤ k + f → l.length + 1 ≤ k + g → readI l f body k = readI l g body k
  | 0, g, body, k, hk, hf, hg => by omega
  | f + 1, 0, body, k, hk, hf, hg => by omega
  | f + 1, g + 1, body, k, hk, hf, hg => by
    unfold readI
    by_cases h0 : l.length ≤ k
    · rw [if_pos h0, if_pos h0]
    rw [if_neg h0, if_neg h0]
    by_cases h1 : (figsAt l k).1 = 0 ∨ 400 < body.length + (figsAt l k).2
    · rw [if_pos h1, if_pos h1]
    rw [if_neg h1, if_neg h1]
    by_cases h2 : endS l (k + (figsAt l k).1) < 0
    · rw [if_pos h2, if_pos h2]
    rw [if_neg h2, if_neg h2]
    by_cases h3 : endS l (k + (figsAt l k).1) = 0
    · rw [if_pos h3, if_pos h3]
    rw [if_neg h3, if_neg h3]
    by_cases h4 : l.length < k + (figsAt l k).1 + 2 + (figsAt l k).2
    · rw [if_pos h4, if_pos h4]
    rw [if_neg h4, if_neg h4]
    by_cases h5 : endS l (k + (figsAt l k).1 + 2 + (figsAt l k).2) < 0
    · rw [if_pos h5, if_pos h5]
    rw [if_neg h5, if_neg h5]
    by_cases h6 : endS l (k + (figsAt l k).1 + 2 + (figsAt l k).2) = 0
    · rw [if_pos h6, if_pos h6]
    rw [if_neg h6, if_neg h6]
    by_cases h7 : (figsAt l k).2 = 0
    · rw [if_pos h7, if_pos h7]
    rw [if_neg h7, if_neg h7]
    obtain ⟨t1, t2⟩ := endS_ok (l := l) (k := k + (figsAt l k).1 + 2 + (figsAt l k).2) rfl (by omega)
    exact readI_fuel l f g _ _ (by omega) (by omega) (by omega)
/-- How long a body is, as the program reads it. -/
def bodyI (L : List (ByteArray × ByteArray)) (t : List UInt8) : List UInt8 × Int × Int :=
  if (fieldOfS L teN).2 = true then (if 0 < (lenF 0 0 L).2.1 ∨ eqT (fieldOfS L teN).1 chN = false then ([], 0, 2) else chunksI t)
  else if (lenF 0 0 L).2.1 = 0 then ([], 0, 0)
  else if (lenF 0 0 L).2.2 = false ∨ 400 < (lenF 0 0 L).1 then ([], 0, 2)
  else if t.length < (lenF 0 0 L).1 then ([], 0, 1)
  else (t.take (lenF 0 0 L).1, ((lenF 0 0 L).1 : Int), 0)
theorem body_same {t : List UInt8} (h : chunksI t = chunksS t) (L : List (ByteArray × ByteArray)) : bodyI L t = bodyS L t := by
  unfold bodyI bodyS
  rw [h]
theorem body_uncoded {L : List (ByteArray × ByteArray)} (t : List UInt8) (h : (fieldOfS L teN).2 = false) : bodyI L t = bodyS L t := by
  unfold bodyI bodyS
  rw [h]
  simp
end Go.Proofs.YtnnaphfeeobelaeGreatDoor

namespace Go.Proofs.YtnnaphfeeobelaeGreatDoor
theorem getB (s : ByteArray) (j : Nat) (h : j < s.size) : s.get! j = s[j] := by
  simp [ByteArray.get!, getElem!_pos, h]
  rfl
/-- A sign is one byte or more, ends within the text, and all its bytes but the first are above 127. -/
theorem dec_wide (s : ByteArray) (pos : Nat) (h : pos < s.size) :
    1 ≤ (Utf8.decode s pos).2 ∧ pos + (Utf8.decode s pos).2 ≤ s.size ∧ ∀ j (hj : j < s.size), pos < j → j < pos + (Utf8.decode s pos).2 → 128 ≤ (s[j]'hj).toNat := by
  have e1 : ∀ k, pos + k < s.size → (s.get! (pos + k)).toNat / 64 = 2 → ∀ j (hj : j < s.size), j = pos + k → 128 ≤ (s[j]'hj).toNat := by
    intro k hk hc j hj e
    subst e
    rw [getB s _ hk] at hc
    omega
  simp only [Utf8.decode]
  split
  · exact ⟨by omega, by omega, fun j hj h1 h2 => by omega⟩
  · split
    · next h2 =>
      simp only [Bool.and_eq_true, decide_eq_true_eq, beq_iff_eq] at h2
      split
      · exact ⟨by omega, by omega, fun j hj h3 h4 => e1 1 h2.2.1 h2.2.2 j hj (by omega)⟩
      · exact ⟨by omega, by omega, fun j hj h3 h4 => by omega⟩
    · split
      · next h2 =>
        simp only [Bool.and_eq_true, decide_eq_true_eq, beq_iff_eq] at h2
        split
        · refine ⟨by omega, by omega, fun j hj h3 h4 => ?_⟩
          rcases (show j = pos + 1 ∨ j = pos + 2 by omega) with e | e
          · exact e1 1 h2.1.2.1 h2.1.2.2 j hj e
          · exact e1 2 h2.2.1 h2.2.2 j hj e
        · exact ⟨by omega, by omega, fun j hj h3 h4 => by omega⟩
      · split
        · next h2 =>
          simp only [Bool.and_eq_true, decide_eq_true_eq, beq_iff_eq] at h2
          split
          · refine ⟨by omega, by omega, fun j hj h3 h4 => ?_⟩
            rcases (show j = pos + 1 ∨ j = pos + 2 ∨ j = pos + 3 by omega) with e | e | e
            · exact e1 1 h2.1.1.2.1 h2.1.1.2.2 j hj e
            · exact e1 2 h2.1.2.1 h2.1.2.2 j hj e
            · exact e1 3 h2.2.1 h2.2.2 j hj e
          · exact ⟨by omega, by omega, fun j hj h3 h4 => by omega⟩
        · exact ⟨by omega, by omega, fun j hj h3 h4 => by omega⟩
end Go.Proofs.YtnnaphfeeobelaeGreatDoor
