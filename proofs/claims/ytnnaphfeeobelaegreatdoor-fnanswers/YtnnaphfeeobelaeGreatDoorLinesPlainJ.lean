/- Texts that stand in one: LinesPlain, ChunkPlain. -/
import Derived.Test.YtnnaphfeeobelaeGreatDoorHeadsPlainJ
import Derived.Test.YtnnaphfeeobelaeGreatDoorDecPlain
import Derived.Test.YtnnaphfeeobelaeGreatDoorHeadPlainJ
namespace Go.Proofs.YtnnaphfeeobelaeGreatDoor
open Go.RowKit
theorem digF_dig : ∀ (f n : Nat) (s : List UInt8), (∀ b ∈ s, 48 ≤ b.toNat ∧ b.toNat ≤ 57) → ∀ b ∈ digF f n s, 48 ≤ b.toNat ∧ b.toNat ≤ 57
  | 0, n, s, h => by simpa [digF] using h
  | f + 1, n, s, h => by
    by_cases h0 : n = 0
    · subst h0; rw [digF_zero]; exact h
    · rw [digF_on h0]
      refine digF_dig f (n / 10) _ ?_
      intro b hb
      rcases List.mem_cons.1 hb with rfl | hb
      · rw [fig_lo (by omega)]; omega
      · exact h b hb
theorem digF_len : ∀ (k f n : Nat) (s : List UInt8), n < 10 ^ k → (digF f n s).length ≤ k + s.length
  | 0, f, n, s, h => by
    have h0 : n = 0 := by simpa using h
    subst h0
    rw [digF_zero]
    omega
  | k + 1, 0, n, s, h => by
    have : digF 0 n s = s := by simp [digF]
    rw [this]; omega
  | k + 1, f + 1, n, s, h => by
    by_cases h0 : n = 0
    · subst h0; rw [digF_zero]; omega
    · rw [digF_on h0]
      have := digF_len k f (n / 10) (fig (n % 10) :: s) (by rw [Nat.pow_succ] at h; omega)
      rw [List.length_cons] at this
      omega
theorem decOf_small (n : Int) (h0 : 0 ≤ n) (h1 : n < 10000) : (decOf n).length ≤ 4 ∧ ∀ b ∈ decOf n, 48 ≤ b.toNat ∧ b.toNat ≤ 57 := by
  unfold decOf
  by_cases hz : n = 0
  · rw [if_pos hz]
    exact ⟨by simp, by decide⟩
  · rw [if_neg hz, if_neg (by omega)]
    refine ⟨?_, digF_dig 20 _ [] (by simp)⟩
    have := digF_len 4 20 n.natAbs [] (by omega)
    simpa using this
theorem decOf_three (k : Nat) (h0 : 100 ≤ k) (h1 : k ≤ 599) : decOf (k : Int) = [fig (k / 100), fig (k / 10 % 10), fig (k % 10)] := by
  unfold decOf
  rw [if_neg (by omega), if_neg (by omega)]
  show digF 20 k [] = _
  rw [digF_on (by omega), digF_on (by omega), digF_on (by omega), show k / 10 / 10 / 10 = 0 by omega, digF_zero, show k / 10 / 10 % 10 = k / 100 by omega]
theorem targetS_of {line t : ByteArray} (hl : line.data.toList = getL ++ (t.data.toList ++ httpL)) (ht : tgtOk t = true) : targetS line = (t, true) := by
  have hd : line.data.toList.drop 4 = t.data.toList ++ httpL := by rw [hl]; rfl
  have hp : Lib.hasPrefix line.data.toList getL = true := by
    unfold Lib.hasPrefix
    rw [List.isPrefixOf_iff_prefix, hl]
    exact ⟨_, rfl⟩
  have hs : Lib.hasSuffix (line.data.toList.drop 4) httpL = true := by
    unfold Lib.hasSuffix
    rw [List.isSuffixOf_iff_suffix, hd]
    exact ⟨_, rfl⟩
  have ho : tgtOf line = t := by
    unfold tgtOf
    rw [hd]
    have hn : line.data.toList.length - 13 = t.data.toList.length := by
      rw [hl]; simp [getL, httpL]
    rw [hn, List.take_left' rfl]
  rw [targetS_yes (by unfold tgtLine; rw [hp, hs]; rfl) (by rw [ho]; exact ht), ho]
theorem statusS_of {line : ByteArray} {x y z : UInt8} {r : List UInt8} (hl : line.data.toList = stL ++ (x :: y :: z :: 32 :: r)) (hx : 48 ≤ x.toNat ∧ x.toNat ≤ 57) (hy : 48 ≤ y.toNat ∧ y.toNat ≤ 57) (hz : 48 ≤ z.toNat ∧ z.toNat ≤ 57) (k : Nat) (hk : 100 * (x.toNat - 48) + 10 * (y.toNat - 48) + (z.toNat - 48) = k) (h1 : 100 ≤ k) (h2 : k ≤ 599) : statusS line = ((k : Int), true) := by
  have b9 : byteAt line 9 = x.toNat := by unfold byteAt; rw [hl]; rfl
  have b10 : byteAt line 10 = y.toNat := by unfold byteAt; rw [hl]; rfl
  have b11 : byteAt line 11 = z.toNat := by unfold byteAt; rw [hl]; rfl
  have b12 : byteAt line 12 = 32 := by unfold byteAt; rw [hl]; rfl
  have hsz : 13 ≤ line.size := by rw [Lib.size_eq, hl]; simp [stL]
  have hv : stv line 3 = k := by
    show 10 * (10 * (10 * 0 + byteAt line 9 - 48) + byteAt line 10 - 48) + byteAt line 11 - 48 = k
    omega
  rw [statusS_yes ?_ ?_ (by omega), hv]
  · unfold stOk
    have hpp : ((line.extract 0 9).toList == stL) = true := by
      rw [Lib.extract_toList, List.drop_zero, hl]
      rfl
    rw [decide_eq_true hsz, hpp, b12]
    rfl
  · unfold stDig digB
    rw [b9, b10, b11, decide_eq_true hx, decide_eq_true hy, decide_eq_true hz]
    rfl
theorem tgtOk_of {t : ByteArray} {D : List UInt8} (ht : t.data.toList = 47 :: 120 :: D) (h4 : D.length ≤ 4) (hD : ∀ b ∈ D, 48 ≤ b.toNat ∧ b.toNat ≤ 57) : tgtOk t = true := by
  unfold tgtOk allB
  have hs : t.size = D.length + 2 := by rw [Lib.size_eq, ht]; rfl
  rw [decide_eq_true (show 1 ≤ t.size ∧ t.size ≤ 20 by omega), ht]
  have : (47 :: 120 :: D).all (fun b => tgtB b.toNat) = true := by
    rw [List.all_eq_true]
    intro b hb
    unfold tgtB
    rw [decide_eq_true_eq]
    simp only [List.mem_cons] at hb
    rcases hb with rfl | rfl | hb
    · decide
    · decide
    · have := hD b hb; omega
  rw [this]
  rfl
end Go.Proofs.YtnnaphfeeobelaeGreatDoor

namespace Go.Proofs.YtnnaphfeeobelaeGreatDoor
open Go.RowKit
def figsL (n : Nat) : List UInt8 := if n < 16 then [fig n] else [fig (n / 16), fig (n % 16)]
def endL : List UInt8 := [13, 10]
def lastL : List UInt8 := [48, 13, 10, 13, 10]
def partT (p : List UInt8) : List UInt8 := figsL p.length ++ endL ++ p ++ endL
def partsT : List (List UInt8) → List UInt8
  | [] => []
  | p :: r => partT p ++ partsT r
def partsOk (P : List ByteArray) : Bool := decide (P.length ≤ 10) && P.all (fun p => decide (1 ≤ p.size ∧ p.size ≤ 99))
def bysL (P : List ByteArray) : List (List UInt8) := P.map (fun p => p.data.toList)
def chunkS (P : List ByteArray) : ByteArray × Bool := if partsOk P = true then (⟨(partsT (bysL P) ++ lastL).toArray⟩, true) else (⟨#[]⟩, false)
theorem partsT_append (A B : List (List UInt8)) : partsT (A ++ B) = partsT A ++ partsT B := by
  induction A with
  | nil => rfl
  | cons p r ih => simp [partsT, ih]
theorem partsT_snoc (A : List (List UInt8)) (p : List UInt8) : partsT (A ++ [p]) = partsT A ++ partT p := by rw [partsT_append]; simp [partsT]
theorem figsL_len (n : Nat) : (figsL n).length ≤ 2 := by unfold figsL; split <;> simp
theorem partT_len (p : List UInt8) : (partT p).length ≤ p.length + 6 := by
  have := figsL_len p.length
  unfold partT endL
  simp only [List.length_append, List.length_cons, List.length_nil]
  omega
/-- The value of a figure. -/
def hexV (b : UInt8) : Option Nat :=
  if 48 ≤ b.toNat ∧ b.toNat ≤ 57 then some (b.toNat - 48) else if 97 ≤ b.toNat ∧ b.toNat ≤ 102 then some (b.toNat - 87) else if 65 ≤ b.toNat ∧ b.toNat ≤ 70 then some (b.toNat - 55) else none
theorem hexV_lt {b : UInt8} {n : Nat} (h : hexV b = some n) : n < 16 := by
  unfold hexV at h
  split at h
  · simp only [Option.some.injEq] at h; omega
  · split at h
    · simp only [Option.some.injEq] at h; omega
    · split at h
      · simp only [Option.some.injEq] at h; omega
      · cases h
def hexI (b : UInt8) : Int := match hexV b with | some n => (n : Int) | none => -1
/-- A line's end at a place: behind it, 0 (more) or -1 (none). -/
def endS (l : List UInt8) (k : Nat) : Int :=
  match l[k]? with
  | none => 0
  | some b => if b.toNat = 13 then (match l[k + 1]? with | none => 0 | some c => if c.toNat = 10 then (k : Int) + 2 else -1) else -1
/-- The figures from a place on, two at most: how many, and what they tell. -/
def figsAt (l : List UInt8) (k : Nat) : Nat × Nat :=
  match (l[k]?).bind hexV with
  | none => (0, 0)
  | some x => match (l[k + 1]?).bind hexV with | none => (1, x) | some y => (2, 16 * x + y)
/-- The length at a place, and the place behind its line: 0 (more) or -1 (none). -/
def sizeS (l : List UInt8) (k : Nat) : Int × Int :=
  match l[k + (figsAt l k).1]? with
  | none => (0, 0)
  | some b => if (figsAt l k).1 = 0 then (0, -1) else
    if b.toNat = 13 then (match l[k + (figsAt l k).1 + 1]? with | none => (0, 0) | some c => if c.toNat = 10 then (((figsAt l k).2 : Nat), ((k + (figsAt l k).1 + 2 : Nat) : Int)) else (0, -1)) else (0, -1)
theorem figsAt_le (l : List UInt8) (k : Nat) : (figsAt l k).1 ≤ 2 ∧ (figsAt l k).2 ≤ 255 := by
  unfold figsAt
  split
  · simp
  · next x hx =>
    have h1 : x < 16 := by
      cases hb : l[k]? with
      | none => rw [hb] at hx; cases hx
      | some b => rw [hb] at hx; exact hexV_lt hx
    split
    · simp; omega
    · next y hy =>
      have h2 : y < 16 := by
        cases hb : l[k + 1]? with
        | none => rw [hb] at hy; cases hy
        | some b => rw [hb] at hy; exact hexV_lt hy
      simp
      omega
theorem figsAt_in (l : List UInt8) (k : Nat) (hk : k ≤ l.length) : k + (figsAt l k).1 ≤ l.length := by
  unfold figsAt
  split
  · exact hk
  · next x hx =>
    have h1 : k < l.length := by
      cases hb : l[k]? with
      | none => rw [hb] at hx; cases hx
      | some b => exact (List.getElem?_eq_some_iff.1 hb).1
    split
    · show k + 1 ≤ _; omega
    · next y hy =>
      have h2 : k + 1 < l.length := by
        cases hb : l[k + 1]? with
        | none => rw [hb] at hy; cases hy
        | some b => exact (List.getElem?_eq_some_iff.1 hb).1
      show k + 2 ≤ _; omega
/-- What a length's line tells, where there is one: a number below 256, a place further on within the text. -/
theorem sizeS_ok {l : List UInt8} {k : Nat} {n m : Int} (h : sizeS l k = (n, m)) (hm : 0 < m) : 0 ≤ n ∧ n ≤ 255 ∧ (k : Int) + 3 ≤ m ∧ m ≤ (l.length : Int) := by
  unfold sizeS at h
  have hf := figsAt_le l k
  split at h
  · simp only [Prod.mk.injEq] at h; omega
  · next b hb =>
    have h1 := (List.getElem?_eq_some_iff.1 hb).1
    split at h
    · simp only [Prod.mk.injEq] at h; omega
    · next h0 =>
      split at h
      · split at h
        · simp only [Prod.mk.injEq] at h; omega
        · next c hc =>
          have h2 := (List.getElem?_eq_some_iff.1 hc).1
          split at h
          · simp only [Prod.mk.injEq] at h; omega
          · simp only [Prod.mk.injEq] at h; omega
      · simp only [Prod.mk.injEq] at h; omega
theorem sizeS_any (l : List UInt8) (k : Nat) : -1 ≤ (sizeS l k).2 := by
  unfold sizeS
  split
  · simp
  · split
    · simp
    · split
      · split
        · simp
        · split
          · simp only []; omega
          · simp
      · simp
theorem endS_ok {l : List UInt8} {k : Nat} {m : Int} (h : endS l k = m) (hm : 0 < m) : m = (k : Int) + 2 ∧ m ≤ (l.length : Int) := by
  unfold endS at h
  split at h
  · omega
  · split at h
    · split at h
      · omega
      · next c hc =>
        have h2 := (List.getElem?_eq_some_iff.1 hc).1
        split at h <;> omega
    · omega
theorem endS_any (l : List UInt8) (k : Nat) : -1 ≤ endS l k := by
  unfold endS
  split
  · omega
  · split
    · split
      · omega
      · split <;> omega
    · omega
/-- The parts that a text begins with, from a place on, behind what is read. -/
def readS (l : List UInt8) : Nat → List UInt8 → Nat → List UInt8 × Int × Int
  | 0, _, _ => ([], 0, 2)
  | f + 1, body, k =>
    if (sizeS l k).2 < 0 then ([], 0, 2)
    else if (sizeS l k).2 = 0 then ([], 0, 1)
    else if 400 < (body.length : Int) + (sizeS l k).1 then ([], 0, 2)
    else if (l.length : Int) - (sizeS l k).2 < (sizeS l k).1 then ([], 0, 1)
    else if endS l ((sizeS l k).2 + (sizeS l k).1).toNat < 0 then ([], 0, 2)
    else if endS l ((sizeS l k).2 + (sizeS l k).1).toNat = 0 then ([], 0, 1)
    else if (sizeS l k).1 = 0 then (body ++ (l.drop (sizeS l k).2.toNat).take (sizeS l k).1.toNat, endS l ((sizeS l k).2 + (sizeS l k).1).toNat, 0)
    else readS l f (body ++ (l.drop (sizeS l k).2.toNat).take (sizeS l k).1.toNat) (endS l ((sizeS l k).2 + (sizeS l k).1).toNat).toNat
def chunksS (l : List UInt8) : List UInt8 × Int × Int := readS l (l.length + 1) [] 0
end Go.Proofs.YtnnaphfeeobelaeGreatDoor
