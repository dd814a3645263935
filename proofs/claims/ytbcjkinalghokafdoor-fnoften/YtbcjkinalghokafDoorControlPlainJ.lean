/- Texts that stand in one: ControlPlain, NumPlain. -/
import Derived.Test.YtbcjkinalghokafDoorHeadPlainJ
namespace Go.Proofs.YtbcjkinalghokafDoor
open Go.RowKit
structure Ct where
  ns : Bool
  nc : Bool
  ma : Int
  sh : Int
def ct0 : Ct := ⟨false, false, -1, -1⟩
def digits (l : List UInt8) : Bool := l.all fun b => decide (48 ≤ b.toNat ∧ b.toNat ≤ 57)
/-- A number of 1 to 6 figures. -/
def numL (l : List UInt8) : Option Nat := if (decide (1 ≤ l.length ∧ l.length ≤ 6) && digits l) = true then some (valF 0 l) else none
def noStoreL : List UInt8 := [110, 111, 45, 115, 116, 111, 114, 101]
def privateL : List UInt8 := [112, 114, 105, 118, 97, 116, 101]
def noCacheL : List UInt8 := [110, 111, 45, 99, 97, 99, 104, 101]
def maxAgeL : List UInt8 := [109, 97, 120, 45, 97, 103, 101, 61]
def sMaxL : List UInt8 := [115, 45, 109, 97, 120, 97, 103, 101, 61]
/-- The words of a part. -/
def partW (l : List UInt8) : List UInt8 := lowL (Lib.trimB l 32)
def flagC (c : Ct) (s : List UInt8) : Ct := if s = noStoreL ∨ s = privateL then { c with ns := true } else if s = noCacheL then { c with nc := true } else c
def ageC (c : Ct) (s : List UInt8) : Ct := if maxAgeL.isPrefixOf s = true then (match numL (s.drop 8) with | some n => { c with ma := (n : Int) } | none => c) else c
def shC (c : Ct) (s : List UInt8) : Ct := if sMaxL.isPrefixOf s = true then (match numL (s.drop 9) with | some n => { c with sh := (n : Int) } | none => c) else c
def partC (c : Ct) (l : List UInt8) : Ct := shC (ageC (flagC c (partW l)) (partW l)) (partW l)
/-- The parts between commas. -/
def splitC : List UInt8 → List (List UInt8)
  | [] => [[]]
  | b :: r => if b = 44 then [] :: splitC r else (match splitC r with | [] => [[b]] | p :: ps => (b :: p) :: ps)
def controlS (l : List UInt8) : Ct := (splitC l).foldl partC ct0
theorem splitC_ne (l : List UInt8) : splitC l ≠ [] := by
  cases l with
  | nil => simp [splitC]
  | cons b r =>
    unfold splitC
    split
    · simp
    · split <;> simp
theorem splitC_none : ∀ p : List UInt8, (∀ x ∈ p, x ≠ 44) → splitC p = [p]
  | [], _ => rfl
  | b :: r, h => by
    unfold splitC
    rw [if_neg (h b List.mem_cons_self), splitC_none r (fun x hx => h x (List.mem_cons_of_mem _ hx))]
theorem splitC_at : ∀ (p r : List UInt8), (∀ x ∈ p, x ≠ 44) → splitC (p ++ 44 :: r) = p :: splitC r
  | [], r, _ => by simp [splitC]
  | b :: p, r, h => by
    rw [List.cons_append, show splitC (b :: (p ++ 44 :: r)) = if b = 44 then [] :: splitC (p ++ 44 :: r) else (match splitC (p ++ 44 :: r) with | [] => [[b]] | p :: ps => (b :: p) :: ps) from rfl, if_neg (h b List.mem_cons_self), splitC_at p r (fun x hx => h x (List.mem_cons_of_mem _ hx))]
/-- How long. -/
def lifeC (c : Ct) : Int := if c.ns = true ∨ c.nc = true then 0 else if 0 ≤ c.sh then c.sh else if 0 ≤ c.ma then c.ma else 0
end Go.Proofs.YtbcjkinalghokafDoor

namespace Go.Proofs.YtbcjkinalghokafDoor
open Go.RowKit
theorem digF_back : ∀ (f n : Nat) (s : List UInt8), n < 10 ^ f → valF 0 (digF f n s) = valF n s
  | 0, n, s, h => by
    have h0 : n = 0 := by simpa using h
    subst h0
    rfl
  | f + 1, n, s, h => by
    by_cases h0 : n = 0
    · subst h0; rw [digF_zero]
    · rw [digF_on h0, digF_back f (n / 10) _ (by rw [Nat.pow_succ] at h; omega), valF_cons]
      congr 1
      unfold dOf
      rw [fig_lo (by omega)]
      omega
theorem digF_figs : ∀ (f n : Nat) (s : List UInt8), (∀ b ∈ s, isDig b) → ∀ b ∈ digF f n s, isDig b
  | 0, n, s, h => by simpa [digF] using h
  | f + 1, n, s, h => by
    by_cases h0 : n = 0
    · subst h0; rw [digF_zero]; exact h
    · rw [digF_on h0]
      refine digF_figs f (n / 10) _ ?_
      intro b hb
      rcases List.mem_cons.1 hb with rfl | hb
      · unfold isDig; rw [fig_lo (by omega)]; omega
      · exact h b hb
theorem digF_wide : ∀ (k f n : Nat) (s : List UInt8), n < 10 ^ k → (digF f n s).length ≤ k + s.length
  | 0, f, n, s, h => by
    have h0 : n = 0 := by simpa using h
    subst h0
    rw [digF_zero]
    omega
  | k + 1, 0, n, s, h => by
    have : digF 0 n s = s := by simp [digF]
    rw [this]; omega
  | k + 1, f + 1, n, s, h => by
    by_cases h0 : n = 0
    · subst h0; rw [digF_zero]; omega
    · rw [digF_on h0]
      have := digF_wide k f (n / 10) (fig (n % 10) :: s) (by rw [Nat.pow_succ] at h; omega)
      rw [List.length_cons] at this
      omega
/-- The figures of a number that may be told: one to six, and they tell it. -/
theorem decOf_told (n : Nat) (h : n ≤ 999999) : (1 ≤ (decOf n).length ∧ (decOf n).length ≤ 6) ∧ (∀ b ∈ decOf n, isDig b) ∧ valF 0 (decOf n) = n := by
  unfold decOf
  by_cases hz : n = 0
  · subst hz
    exact ⟨by decide, by decide, by decide⟩
  · rw [if_neg (by omega), if_neg (by omega), show ((n : Nat) : Int).natAbs = n by omega]
    refine ⟨⟨?_, ?_⟩, digF_figs 20 n [] (by simp), ?_⟩
    · obtain ⟨b, r, e, _⟩ := digF_head 20 n [] (by omega) (by omega)
      rw [e]; simp
    · have := digF_wide 6 20 n [] (by omega)
      simpa using this
    · rw [digF_back 20 n [] (by omega), valF_nil]
theorem numL_dec (n : Nat) (h : n ≤ 999999) : numL (decOf n) = some n := by
  obtain ⟨h1, h2, h3⟩ := decOf_told n h
  unfold numL
  have hd : digits (decOf n) = true := by
    unfold digits
    rw [List.all_eq_true]
    intro x hx
    exact decide_eq_true (h2 x hx)
  rw [decide_eq_true h1, hd, h3]
  rfl
/-- A part without blanks about it and without great letters stands as it is. -/
theorem partW_same {l : List UInt8} (h1 : ∀ b ∈ l, ¬ (65 ≤ b.toNat ∧ b.toNat ≤ 90)) (h2 : l = [] ∨ (¬ (l.getD 0 0).toNat = 32 ∧ ¬ (l.getD (l.length - 1) 0).toNat = 32)) : partW l = l := by
  unfold partW
  rw [(trimB_same l).2 h2]
  unfold lowL
  have : l.map lowB = l.map id := List.map_congr_left (fun b hb => lowB_small (h1 b hb))
  rw [this, List.map_id]
theorem last_getD {p : List UInt8} {q : List UInt8} (hq : q ≠ []) : (p ++ q).getD ((p ++ q).length - 1) 0 = q.getLast hq := by
  have hl : 0 < q.length := List.length_pos_iff.2 hq
  rw [List.getD_eq_getElem?_getD, List.getElem?_append_right (by rw [List.length_append]; omega), List.length_append, show p.length + q.length - 1 - p.length = q.length - 1 by omega, List.getElem?_eq_getElem (by omega), List.getLast_eq_getElem]
  rfl
theorem told_word {p : List UInt8} (hp1 : ∀ b ∈ p, ¬ (65 ≤ b.toNat ∧ b.toNat ≤ 90)) (hp2 : p ≠ []) (hp3 : ¬ (p.getD 0 0).toNat = 32) (n : Nat) (h : n ≤ 999999) : partW (p ++ decOf n) = p ++ decOf n := by
  obtain ⟨h1, h2, _⟩ := decOf_told n h
  have hne : decOf n ≠ [] := by intro e; rw [e] at h1; simp at h1
  refine partW_same ?_ (.inr ⟨?_, ?_⟩)
  · intro b hb
    rcases List.mem_append.1 hb with hb | hb
    · exact hp1 b hb
    · have := h2 b hb; unfold isDig at this; omega
  · cases p with
    | nil => exact absurd rfl hp2
    | cons x p => simpa using hp3
  · rw [last_getD hne]
    have := h2 _ (List.getLast_mem hne)
    unfold isDig at this
    omega
theorem trimB_blank (l : List UInt8) : Lib.trimB (32 :: l) 32 = Lib.trimB l 32 := by
  have h : Lib.trimRightB (32 :: l) 32 = if Lib.trimRightB l 32 = [] then [] else 32 :: Lib.trimRightB l 32 := by
    unfold Lib.trimRightB
    rw [List.reverse_cons, List.dropWhile_append]
    by_cases h : l.reverse.dropWhile (· == 32) = []
    · rw [h]; simp
    · rw [if_neg (by simpa using h), if_neg (by simpa using h)]; simp
  unfold Lib.trimB
  rw [h]
  by_cases e : Lib.trimRightB l 32 = []
  · rw [if_pos e, e]
  · rw [if_neg e]
    unfold Lib.trimLeftB
    simp
theorem partW_blank (l : List UInt8) : partW (32 :: l) = partW l := by unfold partW; rw [trimB_blank]
theorem partC_age (c : Ct) {l : List UInt8} (n : Nat) (h : n ≤ 999999) (hl : partW l = maxAgeL ++ decOf n) : partC c l = { c with ma := (n : Int) } := by
  unfold partC
  rw [hl]
  have e1 : flagC c (maxAgeL ++ decOf n) = c := by
    unfold flagC
    rw [if_neg (by rintro (e | e) <;> simp [maxAgeL, noStoreL, privateL] at e), if_neg (by intro e; simp [maxAgeL, noCacheL] at e)]
  have e2 : ageC c (maxAgeL ++ decOf n) = { c with ma := (n : Int) } := by
    unfold ageC
    rw [if_pos (by rw [List.isPrefixOf_iff_prefix]; exact List.prefix_append _ _), show (maxAgeL ++ decOf n).drop 8 = decOf n from rfl, numL_dec n h]
  have e3 : ∀ d : Ct, shC d (maxAgeL ++ decOf n) = d := by
    intro d
    unfold shC
    rw [if_neg (by simp [sMaxL, maxAgeL, List.isPrefixOf])]
  rw [e1, e2, e3]
theorem partC_sh (c : Ct) {l : List UInt8} (n : Nat) (h : n ≤ 999999) (hl : partW l = sMaxL ++ decOf n) : partC c l = { c with sh := (n : Int) } := by
  unfold partC
  rw [hl]
  have e1 : flagC c (sMaxL ++ decOf n) = c := by
    unfold flagC
    rw [if_neg (by rintro (e | e) <;> simp [sMaxL, noStoreL, privateL] at e), if_neg (by intro e; simp [sMaxL, noCacheL] at e)]
  have e2 : ageC c (sMaxL ++ decOf n) = c := by
    unfold ageC
    rw [if_neg (by simp [sMaxL, maxAgeL, List.isPrefixOf])]
  have e3 : shC c (sMaxL ++ decOf n) = { c with sh := (n : Int) } := by
    unfold shC
    rw [if_pos (by rw [List.isPrefixOf_iff_prefix]; exact List.prefix_append _ _), show (sMaxL ++ decOf n).drop 9 = decOf n from rfl, numL_dec n h]
  rw [e1, e2, e3]
theorem dec_noComma (n : Nat) (h : n ≤ 999999) : ∀ x ∈ decOf n, x ≠ 44 := by
  intro x hx e
  have := (decOf_told n h).2.1 x hx
  unfold isDig at this
  rw [e] at this
  exact absurd this (by decide)
theorem app_noComma {p q : List UInt8} (hp : ∀ x ∈ p, x ≠ 44) (hq : ∀ x ∈ q, x ≠ 44) : ∀ x ∈ p ++ q, x ≠ 44 := fun x hx => (List.mem_append.1 hx).elim (hp x) (hq x)
/-- 'max-age=n'. -/
theorem told_age (n : Nat) (h : n ≤ 999999) : controlS (maxAgeL ++ decOf n) = ⟨false, false, (n : Int), -1⟩ := by
  unfold controlS
  rw [splitC_none _ (app_noComma (by decide) (dec_noComma n h))]
  show partC ct0 _ = _
  rw [partC_age ct0 n h (told_word (by decide) (by decide) (by decide) n h)]
  rfl
/-- 'max-age=n, s-maxage=m'. -/
theorem told_both (n m : Nat) (h : n ≤ 999999) (hm : m ≤ 999999) : controlS ((maxAgeL ++ decOf n) ++ 44 :: 32 :: (sMaxL ++ decOf m)) = ⟨false, false, (n : Int), (m : Int)⟩ := by
  unfold controlS
  rw [splitC_at _ _ (app_noComma (by decide) (dec_noComma n h)), splitC_none (32 :: (sMaxL ++ decOf m)) (fun x hx => (List.mem_cons.1 hx).elim (fun e => by rw [e]; decide) (app_noComma (by decide) (dec_noComma m hm) x))]
  show partC (partC ct0 _) _ = _
  rw [partC_age ct0 n h (told_word (by decide) (by decide) (by decide) n h), partC_sh _ m hm (by rw [partW_blank]; exact told_word (by decide) (by decide) (by decide) m hm)]
  rfl
/-- 'no-cache, max-age=n'. -/
theorem told_none (n : Nat) (h : n ≤ 999999) : controlS (noCacheL ++ 44 :: 32 :: (maxAgeL ++ decOf n)) = ⟨false, true, (n : Int), -1⟩ := by
  unfold controlS
  rw [splitC_at _ _ (by decide), splitC_none (32 :: (maxAgeL ++ decOf n)) (fun x hx => (List.mem_cons.1 hx).elim (fun e => by rw [e]; decide) (app_noComma (by decide) (dec_noComma n h) x))]
  show partC (partC ct0 _) _ = _
  rw [partC_age _ n h (by rw [partW_blank]; exact told_word (by decide) (by decide) (by decide) n h)]
  rfl
end Go.Proofs.YtbcjkinalghokafDoor
