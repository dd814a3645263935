/- Parts come back from their text; cut anywhere more is wanted. Plain, no program. -/
import Derived.Test.YtnnaphfeeobelaeGreatDoorLinesPlainJ
namespace Go.Proofs.YtnnaphfeeobelaeGreatDoor
open Go.RowKit
theorem at_app (A r : List UInt8) (i : Nat) : (A ++ r)[A.length + i]? = r[i]? := by
  rw [List.getElem?_append_right (by omega), show A.length + i - A.length = i by omega]
theorem figsAt_app (A r : List UInt8) : figsAt (A ++ r) A.length = figsAt r 0 := by
  unfold figsAt
  have h0 := at_app A r 0
  have h1 := at_app A r 1
  rw [Nat.add_zero] at h0
  rw [h0, h1]
theorem sizeS_app (A r : List UInt8) : sizeS (A ++ r) A.length = if 0 < (sizeS r 0).2 then ((sizeS r 0).1, (A.length : Int) + (sizeS r 0).2) else sizeS r 0 := by
  unfold sizeS
  rw [figsAt_app, Nat.zero_add, at_app, show A.length + (figsAt r 0).1 + 1 = A.length + ((figsAt r 0).1 + 1) by omega, at_app]
  split
  · simp
  · split
    · simp
    · split
      · split
        · simp
        · split
          · rw [if_pos (by simp only []; omega)]
            simp only [Prod.mk.injEq, true_and]
            omega
          · simp
      · simp
theorem endS_app (A r : List UInt8) (i : Nat) : endS (A ++ r) (A.length + i) = if 0 < endS r i then (A.length : Int) + endS r i else endS r i := by
  unfold endS
  rw [at_app, show A.length + i + 1 = A.length + (i + 1) by omega, at_app]
  split
  · simp
  · split
    · split
      · simp
      · split
        · rw [if_pos (by omega)]; omega
        · simp
    · simp
theorem hexV_fig {x : Nat} (h : x < 16) : hexV (fig x) = some x := by
  unfold hexV
  by_cases h1 : x < 10
  · have := fig_lo h1
    rw [if_pos (by omega)]
    congr 1; omega
  · have := fig_hi h1 h
    rw [if_neg (by omega), if_pos (by omega)]
    congr 1; omega
theorem figsAt_figs (n : Nat) (hn : n < 256) (r : List UInt8) : figsAt (figsL n ++ 13 :: r) 0 = ((figsL n).length, n) := by
  unfold figsL
  by_cases h : n < 16
  · rw [if_pos h]
    unfold figsAt
    simp only [List.cons_append, List.nil_append, List.getElem?_cons_zero, Option.bind_some, hexV_fig h, Nat.zero_add, List.getElem?_cons_succ]
    rfl
  · rw [if_neg h]
    unfold figsAt
    simp only [List.cons_append, List.nil_append, List.getElem?_cons_zero, Option.bind_some, hexV_fig (show n / 16 < 16 by omega), Nat.zero_add, List.getElem?_cons_succ, hexV_fig (show n % 16 < 16 by omega)]
    simp only [List.length_cons, List.length_nil, Prod.mk.injEq, true_and]
    omega
theorem sizeS_figs (n : Nat) (hn : n < 256) (r : List UInt8) : sizeS (figsL n ++ 13 :: 10 :: r) 0 = ((n : Int), (((figsL n).length + 2 : Nat) : Int)) := by
  have h0 : (figsL n).length ≠ 0 := by unfold figsL; split <;> simp
  have a1 : (figsL n ++ 13 :: 10 :: r)[(figsL n).length]? = some 13 := by rw [List.getElem?_append_right (Nat.le_refl _)]; simp
  have a2 : (figsL n ++ 13 :: 10 :: r)[(figsL n).length + 1]? = some 10 := by rw [List.getElem?_append_right (by omega), show (figsL n).length + 1 - (figsL n).length = 1 by omega]; rfl
  unfold sizeS
  rw [figsAt_figs n hn (10 :: r), Nat.zero_add]
  simp only [a1, a2]
  rw [if_neg h0]
  simp
theorem endS_ends (d r : List UInt8) : endS (d ++ 13 :: 10 :: r) d.length = (d.length : Int) + 2 := by
  have a1 : (d ++ 13 :: 10 :: r)[d.length]? = some 13 := by rw [List.getElem?_append_right (Nat.le_refl _)]; simp
  have a2 : (d ++ 13 :: 10 :: r)[d.length + 1]? = some 10 := by rw [List.getElem?_append_right (by omega), show d.length + 1 - d.length = 1 by omega]; rfl
  unfold endS
  simp only [a1, a2]
  simp
/-- A whole part, wherever it stands. -/
theorem part_read (A p r : List UInt8) (hp : p.length < 256) :
    sizeS (A ++ (partT p ++ r)) A.length = ((p.length : Int), ((A.length + ((figsL p.length).length + 2) : Nat) : Int)) ∧
    endS (A ++ (partT p ++ r)) (A.length + ((figsL p.length).length + 2) + p.length) = ((A.length + (partT p).length : Nat) : Int) ∧
    ((A ++ (partT p ++ r)).drop (A.length + ((figsL p.length).length + 2))).take p.length = p ∧
    A.length + ((figsL p.length).length + 2) + p.length ≤ (A ++ (partT p ++ r)).length := by
  have e1 : partT p ++ r = figsL p.length ++ 13 :: 10 :: (p ++ endL ++ r) := by simp [partT, endL]
  have e2 : A ++ (partT p ++ r) = (A ++ (figsL p.length ++ endL)) ++ (p ++ 13 :: 10 :: r) := by simp [partT, endL]
  have l2 : (A ++ (figsL p.length ++ endL)).length = A.length + ((figsL p.length).length + 2) := by simp [endL]
  refine ⟨?_, ?_, ?_, ?_⟩
  · rw [sizeS_app, e1, sizeS_figs _ hp, if_pos (by simp only []; omega)]
    simp only [Prod.mk.injEq, true_and]
    omega
  · rw [e2, ← l2, endS_app, endS_ends, if_pos (by omega)]
    rw [l2]
    simp only [partT, endL, List.length_append, List.length_cons, List.length_nil]
    omega
  · rw [e2, ← l2, List.drop_left, List.take_left]
  · rw [e2, List.length_append, l2, List.length_append]
    omega
theorem lastL_part : lastL = partT [] := by decide
/-- Parts are read as they were written, whatever stands behind. -/
theorem read_parts : ∀ (P : List (List UInt8)) (A r body : List UInt8) (f : Nat), P.length < f → (∀ p ∈ P, 1 ≤ p.length ∧ p.length ≤ 99) → body.length + P.flatten.length ≤ 400 →
    readS (A ++ (partsT P ++ (lastL ++ r))) f body A.length = (body ++ P.flatten, ((A.length + (partsT P ++ lastL).length : Nat) : Int), 0)
  | [], A, r, body, f + 1, _, _, hb => by
    rw [show partsT [] = [] from rfl, List.nil_append, List.nil_append, lastL_part]
    obtain ⟨h1, h2, h3, h4⟩ := part_read A [] r (by simp)
    unfold readS
    rw [h1]
    simp only [List.length_nil, Nat.add_zero] at h2 h3 h4 hb ⊢
    have e0 : (((A.length + ((figsL 0).length + 2) : Nat) : Int) + ((0 : Nat) : Int)).toNat = A.length + ((figsL 0).length + 2) := by omega
    rw [e0, h2]
    rw [if_neg (by omega), if_neg (by omega), if_neg (by omega), if_neg (by omega), if_neg (by omega), if_neg (by simp [partT, figsL]; omega), if_pos (by omega)]
    simp
  | p :: P, A, r, body, f + 1, hf, hP, hb => by
    obtain ⟨p1, p2⟩ := hP p List.mem_cons_self
    rw [List.flatten_cons, List.length_append] at hb
    have e0 : A ++ (partsT (p :: P) ++ (lastL ++ r)) = A ++ (partT p ++ (partsT P ++ (lastL ++ r))) := by simp [partsT]
    have e9 : A ++ (partT p ++ (partsT P ++ (lastL ++ r))) = (A ++ partT p) ++ (partsT P ++ (lastL ++ r)) := by simp
    obtain ⟨h1, h2, h3, h4⟩ := part_read A p (partsT P ++ (lastL ++ r)) (by omega)
    rw [e0]
    unfold readS
    rw [h1]
    simp only []
    have e1 : (((A.length + ((figsL p.length).length + 2) : Nat) : Int) + ((p.length : Nat) : Int)).toNat = A.length + ((figsL p.length).length + 2) + p.length := by omega
    have e2 : (((A.length + ((figsL p.length).length + 2) : Nat) : Int)).toNat = A.length + ((figsL p.length).length + 2) := by omega
    have e3 : ((p.length : Nat) : Int).toNat = p.length := by omega
    rw [e1, e2, e3, h2, h3]
    have h5 : 0 < (partT p).length := by simp [partT, endL]; omega
    rw [if_neg (by omega), if_neg (by omega), if_neg (by omega), if_neg (by omega), if_neg (by omega), if_neg (by omega), if_neg (by omega)]
    have e4 : (((A.length + (partT p).length : Nat) : Int)).toNat = (A ++ partT p).length := by rw [List.length_append]; omega
    rw [e4, e9, read_parts P (A ++ partT p) r (body ++ p) f (by simp at hf; omega) (fun q hq => hP q (List.mem_cons_of_mem _ hq)) (by rw [List.length_append]; omega)]
    simp only [Prod.mk.injEq, and_true]
    refine ⟨by simp, ?_⟩
    simp only [partsT, List.length_append]
    omega
theorem partsT_few (P : List (List UInt8)) : P.length ≤ (partsT P).length := by
  induction P with
  | nil => simp [partsT]
  | cons p r ih =>
    have : 1 ≤ (partT p).length := by simp [partT, endL]; omega
    simp only [partsT, List.length_append, List.length_cons]
    omega
/-- What a text of parts tells, whatever stands behind. -/
theorem chunksS_back (P : List (List UInt8)) (r : List UInt8) (hP : ∀ p ∈ P, 1 ≤ p.length ∧ p.length ≤ 99) (hb : P.flatten.length ≤ 400) :
    chunksS (partsT P ++ (lastL ++ r)) = (P.flatten, ((partsT P ++ lastL).length : Int), 0) := by
  unfold chunksS
  have h := read_parts P [] r [] ((partsT P ++ (lastL ++ r)).length + 1) (by have := partsT_few P; rw [List.length_append]; omega) hP (by simpa using hb)
  simp only [List.nil_append, List.length_nil, Nat.zero_add] at h
  exact h
theorem getLt {l : List UInt8} {i : Nat} {b : UInt8} (h : l[i]? = some b) : i < l.length := (List.getElem?_eq_some_iff.1 h).1
theorem take_at (l : List UInt8) (j i : Nat) (h : i < j) : (l.take j)[i]? = l[i]? := by rw [List.getElem?_take, if_pos h]
theorem take_past (l : List UInt8) (j i : Nat) (h : j ≤ i) : (l.take j)[i]? = none := by rw [List.getElem?_take, if_neg (by omega)]
/-- Figures that are cut are fewer. -/
theorem figsAt_cut (n : Nat) (hn : n < 256) (r : List UInt8) (j : Nat) : figsAt ((figsL n ++ 13 :: r).take j) 0 = ((figsL n).length, n) ∧ (figsL n).length ≤ j ∨ ∃ x, figsAt ((figsL n ++ 13 :: r).take j) 0 = (j, x) ∧ j < (figsL n).length := by
  by_cases h : n < 16
  · have e : figsL n = [fig n] := by unfold figsL; rw [if_pos h]
    rw [e]
    match j with
    | 0 => exact .inr ⟨0, rfl, by simp⟩
    | 1 =>
      refine .inl ⟨?_, by simp⟩
      unfold figsAt
      simp [hexV_fig h]
    | j + 2 =>
      refine .inl ⟨?_, by simp⟩
      unfold figsAt
      simp [hexV_fig h, show hexV 13 = none from rfl]
  · have e : figsL n = [fig (n / 16), fig (n % 16)] := by unfold figsL; rw [if_neg h]
    rw [e]
    have a := hexV_fig (show n / 16 < 16 by omega)
    have b := hexV_fig (show n % 16 < 16 by omega)
    match j with
    | 0 => exact .inr ⟨0, rfl, by simp⟩
    | 1 =>
      refine .inr ⟨n / 16, ?_, by simp⟩
      unfold figsAt
      simp [a]
    | j + 2 =>
      refine .inl ⟨?_, by simp⟩
      unfold figsAt
      simp [a, b]
      omega
/-- A length's line that is cut wants more. -/
theorem sizeS_cut (n : Nat) (hn : n < 256) (r : List UInt8) (j : Nat) (hj : j < (figsL n).length + 2) : sizeS ((figsL n ++ 13 :: 10 :: r).take j) 0 = (0, 0) := by
  rcases figsAt_cut n hn (10 :: r) j with ⟨h, hle⟩ | ⟨x, h, hlt⟩
  · have h0 : (figsL n).length ≠ 0 := by unfold figsL; split <;> simp
    unfold sizeS
    rw [h, Nat.zero_add]
    by_cases h1 : (figsL n).length < j
    · have e : j = (figsL n).length + 1 := by omega
      have a1 : ((figsL n ++ 13 :: 10 :: r).take j)[(figsL n).length]? = some 13 := by rw [take_at _ _ _ h1, List.getElem?_append_right (Nat.le_refl _)]; simp
      have a2 : ((figsL n ++ 13 :: 10 :: r).take j)[(figsL n).length + 1]? = none := take_past _ _ _ (by omega)
      simp only [a1, a2]
      rw [if_neg h0]
      simp
    · have a1 : ((figsL n ++ 13 :: 10 :: r).take j)[(figsL n).length]? = none := take_past _ _ _ (by omega)
      simp only [a1]
  · unfold sizeS
    rw [h, Nat.zero_add]
    have a1 : ((figsL n ++ 13 :: 10 :: r).take j)[j]? = none := take_past _ _ _ (Nat.le_refl _)
    simp only [a1]
theorem endS_cut (d r : List UInt8) (j : Nat) (h : d.length ≤ j) (hj : j < d.length + 2) : endS ((d ++ 13 :: 10 :: r).take j) d.length = 0 := by
  unfold endS
  by_cases h1 : d.length < j
  · have a1 : ((d ++ 13 :: 10 :: r).take j)[d.length]? = some 13 := by rw [take_at _ _ _ h1, List.getElem?_append_right (Nat.le_refl _)]; simp
    have a2 : ((d ++ 13 :: 10 :: r).take j)[d.length + 1]? = none := take_past _ _ _ (by omega)
    simp only [a1, a2]
    simp
  · have a1 : ((d ++ 13 :: 10 :: r).take j)[d.length]? = none := take_past _ _ _ (by omega)
    simp only [a1]
/-- A part that is cut: more is wanted. -/
theorem part_cut (A p r body : List UInt8) (f j : Nat) (hp : p.length < 256) (hb : body.length + p.length ≤ 400) (hj : j < (partT p).length) : readS (A ++ (partT p ++ r).take j) (f + 1) body A.length = ([], 0, 1) := by
  have e1 : partT p ++ r = figsL p.length ++ 13 :: 10 :: (p ++ endL ++ r) := by simp [partT, endL]
  have lp : (partT p).length = (figsL p.length).length + 2 + p.length + 2 := by simp [partT, endL]; omega
  by_cases h1 : j < (figsL p.length).length + 2
  · unfold readS
    rw [sizeS_app, e1, sizeS_cut _ hp _ _ h1]
    simp
  · -- the length is whole
    have e2 : (partT p ++ r).take j = (figsL p.length ++ endL) ++ (p ++ 13 :: 10 :: r).take (j - ((figsL p.length).length + 2)) := by
      have e3 : partT p ++ r = (figsL p.length ++ endL) ++ (p ++ 13 :: 10 :: r) := by simp [partT, endL]
      have l3 : (figsL p.length ++ endL).length = (figsL p.length).length + 2 := by simp [endL]
      rw [e3, List.take_append, List.take_of_length_le (by omega), l3]
    have e4 : (figsL p.length ++ endL) ++ (p ++ 13 :: 10 :: r).take (j - ((figsL p.length).length + 2)) = figsL p.length ++ 13 :: 10 :: (p ++ 13 :: 10 :: r).take (j - ((figsL p.length).length + 2)) := by simp [endL]
    have hs : sizeS (A ++ (partT p ++ r).take j) A.length = ((p.length : Int), ((A.length + ((figsL p.length).length + 2) : Nat) : Int)) := by
      rw [sizeS_app, e2, e4, sizeS_figs _ hp, if_pos (by simp only []; omega)]
      simp only [Prod.mk.injEq, true_and]
      omega
    have hl : (A ++ (partT p ++ r).take j).length = A.length + j := by
      rw [List.length_append, List.length_take, List.length_append]
      omega
    unfold readS
    rw [hs, hl]
    simp only []
    have t1 : (((A.length + ((figsL p.length).length + 2) : Nat) : Int) + ((p.length : Nat) : Int)).toNat = A.length + ((figsL p.length).length + 2) + p.length := by omega
    rw [t1, if_neg (by omega), if_neg (by omega), if_neg (by omega)]
    by_cases h2 : j < (figsL p.length).length + 2 + p.length
    · rw [if_pos (by omega)]
    · rw [if_neg (by omega)]
      have he : endS (A ++ (partT p ++ r).take j) (A.length + ((figsL p.length).length + 2) + p.length) = 0 := by
        have e5 : A ++ (partT p ++ r).take j = (A ++ (figsL p.length ++ endL)) ++ (p ++ 13 :: 10 :: r).take (j - ((figsL p.length).length + 2)) := by rw [e2]; simp
        have l5 : (A ++ (figsL p.length ++ endL)).length = A.length + ((figsL p.length).length + 2) := by simp [endL]
        rw [e5, ← l5, endS_app, endS_cut p r _ (by omega) (by omega)]
        simp
      rw [he, if_neg (by omega), if_pos rfl]
/-- Parts that are cut anywhere want more. -/
theorem read_cut : ∀ (P : List (List UInt8)) (A body : List UInt8) (f j : Nat), P.length < f → (∀ p ∈ P, 1 ≤ p.length ∧ p.length ≤ 99) → body.length + P.flatten.length ≤ 400 → j < (partsT P ++ lastL).length →
    readS (A ++ (partsT P ++ lastL).take j) f body A.length = ([], 0, 1)
  | [], A, body, f + 1, j, _, _, hb, hj => by
    have e : partsT [] ++ lastL = partT [] ++ [] := by decide
    rw [e] at hj ⊢
    rw [List.append_nil] at hj
    exact part_cut A [] [] body f j (by simp) (by simpa using hb) hj
  | p :: P, A, body, f + 1, j, hf, hP, hb, hj => by
    obtain ⟨p1, p2⟩ := hP p List.mem_cons_self
    rw [List.flatten_cons, List.length_append] at hb
    have e0 : partsT (p :: P) ++ lastL = partT p ++ (partsT P ++ lastL) := by simp [partsT]
    rw [e0] at hj ⊢
    by_cases h1 : j < (partT p).length
    · exact part_cut A p _ body f j (by omega) (by omega) h1
    · have e1 : (partT p ++ (partsT P ++ lastL)).take j = partT p ++ (partsT P ++ lastL).take (j - (partT p).length) := by rw [List.take_append, List.take_of_length_le (by omega)]
      rw [e1]
      obtain ⟨g1, g2, g3, g4⟩ := part_read A p ((partsT P ++ lastL).take (j - (partT p).length)) (by omega)
      unfold readS
      rw [g1]
      simp only []
      have t1 : (((A.length + ((figsL p.length).length + 2) : Nat) : Int) + ((p.length : Nat) : Int)).toNat = A.length + ((figsL p.length).length + 2) + p.length := by omega
      have t2 : (((A.length + ((figsL p.length).length + 2) : Nat) : Int)).toNat = A.length + ((figsL p.length).length + 2) := by omega
      have t3 : ((p.length : Nat) : Int).toNat = p.length := by omega
      have h5 : 0 < (partT p).length := by simp [partT, endL]; omega
      rw [t1, t2, t3, g2, g3]
      rw [if_neg (by omega), if_neg (by omega), if_neg (by omega), if_neg (by omega), if_neg (by omega), if_neg (by omega), if_neg (by omega)]
      have t4 : (((A.length + (partT p).length : Nat) : Int)).toNat = (A ++ partT p).length := by rw [List.length_append]; omega
      have e9 : A ++ (partT p ++ (partsT P ++ lastL).take (j - (partT p).length)) = (A ++ partT p) ++ (partsT P ++ lastL).take (j - (partT p).length) := by simp
      rw [t4, e9]
      exact read_cut P (A ++ partT p) (body ++ p) f (j - (partT p).length) (by simp at hf; omega) (fun q hq => hP q (List.mem_cons_of_mem _ hq)) (by rw [List.length_append]; omega) (by rw [List.length_append] at hj; omega)
/-- What is read does not hang on how many rounds are allowed. -/
theorem readS_fuel (l : List UInt8) : ∀ (f g : Nat) (body : List UInt8) (k : Nat), k ≤ l.length → l.length + 1 ≤ k + f → l.length + 1 ≤ k + g → readS l f body k = readS l g body k
  | 0, g, body, k, hk, hf, hg => by omega
  | f + 1, 0, body, k, hk, hf, hg => by omega
  | f + 1, g + 1, body, k, hk, hf, hg => by
    unfold readS
    by_cases h1 : (sizeS l k).2 < 0
    · rw [if_pos h1, if_pos h1]
    rw [if_neg h1, if_neg h1]
    by_cases h2 : (sizeS l k).2 = 0
    · rw [if_pos h2, if_pos h2]
    rw [if_neg h2, if_neg h2]
    obtain ⟨s1, s2, s3, s4⟩ := sizeS_ok (l := l) (k := k) (n := (sizeS l k).1) (m := (sizeS l k).2) rfl (by omega)
    by_cases h3 : 400 < (body.length : Int) + (sizeS l k).1
    · rw [if_pos h3, if_pos h3]
    rw [if_neg h3, if_neg h3]
    by_cases h4 : (l.length : Int) - (sizeS l k).2 < (sizeS l k).1
    · rw [if_pos h4, if_pos h4]
    rw [if_neg h4, if_neg h4]
    by_cases h5 : endS l ((sizeS l k).2 + (sizeS l k).1).toNat < 0
    · rw [if_pos h5, if_pos h5]
    rw [if_neg h5, if_neg h5]
    by_cases h6 : endS l ((sizeS l k).2 + (sizeS l k).1).toNat = 0
    · rw [if_pos h6, if_pos h6]
    rw [if_neg h6, if_neg h6]
    obtain ⟨t1, t2⟩ := endS_ok (l := l) (k := ((sizeS l k).2 + (sizeS l k).1).toNat) (m := endS l ((sizeS l k).2 + (sizeS l k).1).toNat) rfl (by omega)
    by_cases h7 : (sizeS l k).1 = 0
    · rw [if_pos h7, if_pos h7]
    rw [if_neg h7, if_neg h7]
    exact readS_fuel l f g _ _ (by omega) (by omega) (by omega)
theorem chunksS_cut (P : List (List UInt8)) (j : Nat) (hP : ∀ p ∈ P, 1 ≤ p.length ∧ p.length ≤ 99) (hb : P.flatten.length ≤ 400) (hj : j < (partsT P ++ lastL).length) : chunksS ((partsT P ++ lastL).take j) = ([], 0, 1) := by
  unfold chunksS
  rw [readS_fuel _ _ (((partsT P ++ lastL).take j).length + 1 + P.length) [] 0 (by omega) (by omega) (by omega)]
  have h := read_cut P [] [] (((partsT P ++ lastL).take j).length + 1 + P.length) j (by omega) hP (by simpa using hb) hj
  simpa using h
end Go.Proofs.YtnnaphfeeobelaeGreatDoor
