/- Texts that stand in one: HeadPlain, LowPlain, TrimPlain, FigPlain, DecPlain. -/
import Derived.Test.YtbcjkinalghokafDoorFieldRows
import Derived.Lib.TrimByte
import Derived.Test.YtbcjkinalghokafDoorSumPlainJ
namespace Go.Proofs.YtbcjkinalghokafDoor
open Go.RowKit

/-- All bytes of a text are such ones. -/
def allB (p : Nat → Bool) (s : ByteArray) : Bool := s.data.toList.all fun b => p b.toNat
theorem allB_go {p : Nat → Bool} {s : ByteArray} (h : ∀ q (hq : q < s.size), p s[q].toNat = true) : allB p s = true := by
  unfold allB
  rw [List.all_eq_true]
  intro b hb
  obtain ⟨j, hj, rfl⟩ := List.getElem_of_mem hb
  exact h j (by simpa using hj)
theorem allB_no {p : Nat → Bool} {s : ByteArray} {k : Nat} (hk : k < s.size) (h : p s[k].toNat = false) : allB p s = false := by
  unfold allB
  rw [Bool.eq_false_iff]
  intro e
  rw [List.all_eq_true] at e
  have := e (s.data.toList[k]'(by simpa using hk)) (List.getElem_mem _)
  have e2 : s.data.toList[k]'(by simpa using hk) = s[k] := by simp; rfl
  rw [e2, h] at this
  cases this
def nameB (b : Nat) : Bool := decide (97 ≤ b ∧ b ≤ 122) || decide (b = 45)
def plainB (b : Nat) : Bool := decide (32 ≤ b ∧ b ≤ 126)
def nameOkS (s : ByteArray) : Bool := allB nameB s && decide (1 ≤ s.size ∧ s.size ≤ 20)
def plainS (s : ByteArray) (most : Int) : Bool := allB plainB s && decide ((s.size : Int) ≤ most)
/-- No blank first or last. -/
def trimS (s : ByteArray) : Bool := decide (s.size = 0) || (!decide ((s.data.toList.getD 0 0).toNat = 32) && !decide ((s.data.toList.getD (s.size - 1) 0).toNat = 32))
def fieldOkS (f : ByteArray × ByteArray) : Bool := nameOkS f.1 && plainS f.2 60 && trimS f.2
end Go.Proofs.YtbcjkinalghokafDoor

namespace Go.Proofs.YtbcjkinalghokafDoor
open Go.RowKit
def lowB (x : UInt8) : UInt8 := if 65 ≤ x.toNat ∧ x.toNat ≤ 90 then UInt8.ofNat (x.toNat + 32) else x
def lowL (l : List UInt8) : List UInt8 := l.map lowB
theorem lowB_great {x : UInt8} (h : 65 ≤ x.toNat ∧ x.toNat ≤ 90) : (lowB x).toNat = x.toNat + 32 := by
  unfold lowB
  rw [if_pos h, UInt8.toNat_ofNat']
  omega
theorem lowB_small {x : UInt8} (h : ¬ (65 ≤ x.toNat ∧ x.toNat ≤ 90)) : lowB x = x := by
  unfold lowB
  rw [if_neg h]
/-- What stands while the first k are taken. -/
def lowTo (l : List UInt8) (k : Nat) : List UInt8 := lowL (l.take k) ++ l.drop k
theorem lowTo_zero (l : List UInt8) : lowTo l 0 = l := by simp [lowTo, lowL]
theorem lowTo_all (l : List UInt8) : lowTo l l.length = lowL l := by simp [lowTo]
theorem lowTo_len (l : List UInt8) (k : Nat) : (lowTo l k).length = l.length := by simp [lowTo, lowL]; omega
theorem lowTo_at (l : List UInt8) (k : Nat) (hk : k < l.length) : (lowTo l k)[k]'(by rw [lowTo_len]; exact hk) = l[k] := by
  unfold lowTo lowL
  rw [List.getElem_append_right (by simp; omega)]
  simp [Nat.min_eq_left (Nat.le_of_lt hk)]
theorem lowTo_succ (l : List UInt8) (k : Nat) (hk : k < l.length) : lowTo l (k + 1) = (lowTo l k).set k (lowB l[k]) := by
  unfold lowTo lowL
  rw [List.set_append_right _ _ (by simp; omega), List.length_map, List.length_take, Nat.min_eq_left (Nat.le_of_lt hk), Nat.sub_self, List.drop_eq_getElem_cons hk, List.set_cons_zero, List.take_succ_eq_append_getElem hk, List.map_append, List.append_assoc]
  rfl
end Go.Proofs.YtbcjkinalghokafDoor

namespace Go.Proofs.YtbcjkinalghokafDoor
open Go.RowKit

/-- What is left of a text without the blanks about it. -/
def trimT (s : ByteArray) : ByteArray := ⟨(Lib.trimB s.data.toList 32).toArray⟩
theorem dropWhile_len (l : List UInt8) (p : UInt8 → Bool) : (l.dropWhile p).length ≤ l.length := (List.dropWhile_sublist p).length_le
theorem trimR_of_last (l : List UInt8) (x : UInt8) (h : ¬ x = 32) : Lib.trimRightB (l ++ [x]) 32 = l ++ [x] := by
  unfold Lib.trimRightB
  rw [List.reverse_append]
  simp [h]
theorem trimR_short (l : List UInt8) : (Lib.trimRightB (l ++ [32]) 32).length < (l ++ [32]).length := by
  unfold Lib.trimRightB
  rw [List.reverse_append]
  have := dropWhile_len l.reverse (· == 32)
  simp at this ⊢
  omega
theorem trimL_le (l : List UInt8) : (Lib.trimLeftB l 32).length ≤ l.length := dropWhile_len l _
theorem trimR_le (l : List UInt8) : (Lib.trimRightB l 32).length ≤ l.length := by
  unfold Lib.trimRightB
  have := dropWhile_len l.reverse (· == 32)
  simpa using this
theorem trimT_le (s : ByteArray) : (trimT s).size ≤ s.size := by
  have h : (trimT s).size = (Lib.trimB s.data.toList 32).length := by show (Lib.trimB s.data.toList 32).toArray.size = _; simp
  rw [h]
  unfold Lib.trimB
  have h1 := trimL_le (Lib.trimRightB s.data.toList 32)
  have h2 := trimR_le s.data.toList
  have h3 : s.data.toList.length = s.size := by simp
  omega
/-- It is the same just when no blank is first or last. -/
theorem trimB_same (l : List UInt8) : (Lib.trimB l 32 = l) ↔ (l = [] ∨ (¬ (l.getD 0 0).toNat = 32 ∧ ¬ (l.getD (l.length - 1) 0).toNat = 32)) := by
  have e32 : ∀ x : UInt8, x.toNat = 32 ↔ x = 32 := fun x => ⟨fun h => UInt8.toNat_inj.1 h, fun h => by rw [h]; rfl⟩
  rcases List.eq_nil_or_concat l with rfl | ⟨m, x, rfl⟩
  · simp [Lib.trimB, Lib.trimLeftB, Lib.trimRightB]
  · rw [List.concat_eq_append]
    have hlast : ((m ++ [x]).getD ((m ++ [x]).length - 1) 0) = x := by simp [List.getD_eq_getElem?_getD]
    rw [hlast, e32, e32]
    unfold Lib.trimB
    by_cases hx : x = 32
    · subst hx
      constructor
      · intro h
        have h1 := congrArg List.length h
        have h2 := trimL_le (Lib.trimRightB (m ++ [32]) 32)
        have h3 := trimR_short m
        omega
      · rintro (h | ⟨_, h⟩)
        · simp at h
        · exact absurd rfl h
    · rw [trimR_of_last m x hx]
      cases m with
      | nil => simp [Lib.trimLeftB, hx]
      | cons y m =>
        simp only [List.cons_append, List.getD_cons_zero]
        by_cases hy : y = 32
        · subst hy
          constructor
          · intro h
            have h1 := congrArg List.length h
            have h2 := trimL_le (m ++ [x])
            simp [Lib.trimLeftB] at h1
            have h3 := dropWhile_len (m ++ [x]) (· == 32)
            simp at h3
            omega
          · rintro (h | ⟨h, _⟩)
            · simp at h
            · exact absurd rfl h
        · simp [Lib.trimLeftB, hy, hx]
theorem trimT_same (s : ByteArray) : (s.toList == (trimT s).toList) = trimS s := by
  rw [ByteArray.toList_eq, ByteArray.toList_eq]
  have h := trimB_same s.data.toList
  have hs : s.data.toList.length = s.size := by simp
  have hd : (trimT s).data.toList = Lib.trimB s.data.toList 32 := by simp [trimT]
  rw [hd]
  rw [hs] at h
  unfold trimS
  by_cases ht : Lib.trimB s.data.toList 32 = s.data.toList
  · rw [ht]
    rcases h.1 ht with h0 | ⟨h1, h2⟩
    · rw [decide_eq_true (show s.size = 0 by rw [← hs, h0]; rfl)]; simp
    · rw [decide_eq_false h1, decide_eq_false h2]; simp
  · have hne : (s.data.toList == Lib.trimB s.data.toList 32) = false := by
      rw [beq_eq_false_iff_ne]; exact fun e => ht e.symm
    rw [hne]
    have hn : ¬ (s.data.toList = [] ∨ _) := fun e => ht (h.2 e)
    rw [not_or] at hn
    have h0 : ¬ s.size = 0 := fun e => hn.1 (List.length_eq_zero_iff.1 (by rw [hs]; exact e))
    rw [decide_eq_false h0]
    by_cases h1 : (s.data.toList.getD 0 0).toNat = 32
    · rw [decide_eq_true h1]; rfl
    · have h2 : (s.data.toList.getD (s.size - 1) 0).toNat = 32 := by
        rcases Nat.decEq (s.data.toList.getD (s.size - 1) 0).toNat 32 with e | e
        · exact absurd ⟨h1, e⟩ hn.2
        · exact e
      rw [decide_eq_false h1, decide_eq_true h2]; rfl
end Go.Proofs.YtbcjkinalghokafDoor

namespace Go.Proofs.YtbcjkinalghokafDoor
open Go.RowKit

/-- A figure. -/
def fig (x : Nat) : UInt8 := if x < 10 then UInt8.ofNat (48 + x) else UInt8.ofNat (87 + x)

theorem fig_lo {x : Nat} (h : x < 10) : (fig x).toNat = 48 + x := by simp [fig, h]; omega

theorem fig_hi {x : Nat} (h : ¬ x < 10) (h2 : x < 16) : (fig x).toNat = 87 + x := by simp [fig, h]; omega
end Go.Proofs.YtbcjkinalghokafDoor

namespace Go.Proofs.YtbcjkinalghokafDoor
open Go.RowKit

/-- The figures of n ahead of those in s. -/
def digF : Nat → Nat → List UInt8 → List UInt8
  | 0, _, s => s
  | f + 1, n, s => if n = 0 then s else digF f (n / 10) (fig (n % 10) :: s)

/-- What Decimal answers. -/
def decOf (n : Int) : List UInt8 := if n = 0 then [48] else if n < 0 then 45 :: digF 20 n.natAbs [] else digF 20 n.natAbs []

theorem digF_on {f n : Nat} {s : List UInt8} (h : n ≠ 0) : digF (f + 1) n s = digF f (n / 10) (fig (n % 10) :: s) := by simp [digF, h]
theorem digF_zero {f : Nat} {s : List UInt8} : digF f 0 s = s := by cases f <;> simp [digF]

abbrev isDig (b : UInt8) : Prop := 48 ≤ b.toNat ∧ b.toNat ≤ 57
def dOf (b : UInt8) : Nat := b.toNat - 48

theorem fig_dOf {b : UInt8} (h : isDig b) : fig (dOf b) = b := by
  apply UInt8.toNat_inj.1
  unfold isDig at h
  rw [fig_lo (by unfold dOf; omega)]
  unfold dOf
  omega

/-- The number that figures tell behind n. -/
def valF (n : Nat) (t : List UInt8) : Nat := t.foldl (fun m b => m * 10 + dOf b) n

theorem valF_nil (n : Nat) : valF n [] = n := rfl
theorem valF_cons (n : Nat) (b : UInt8) (r : List UInt8) : valF n (b :: r) = valF (n * 10 + dOf b) r := by unfold valF; rw [List.foldl_cons]
theorem valF_ge (t : List UInt8) : ∀ n : Nat, n ≤ valF n t := by
  induction t with
  | nil => intro n; rw [valF_nil]; exact Nat.le_refl n
  | cons b r ih => intro n; have h := ih (n * 10 + dOf b); rw [valF_cons]; omega
theorem valF_snoc (t : List UInt8) : ∀ (n : Nat) (b : UInt8), valF n (t ++ [b]) = valF n t * 10 + dOf b := by
  induction t with
  | nil => intro n b; rfl
  | cons c t ih => intro n b; rw [List.cons_append, valF_cons, valF_cons]; exact ih _ b

/-- The figures of a number that figures tell: the same, where the first is not 0. -/
theorem digF_val (b : UInt8) (hb : isDig b) (h0 : dOf b ≠ 0) (r : List UInt8) : ∀ (n : Nat), n = r.length → (∀ c ∈ r, isDig c) → ∀ (f : Nat) (s : List UInt8), n + 1 ≤ f → digF f (valF 0 (b :: r)) s = b :: r ++ s := by
  intro n
  induction n generalizing r with
  | zero =>
    intro hn _ f s hf
    have hr : r = [] := List.length_eq_zero_iff.1 hn.symm
    subst hr
    obtain ⟨f, rfl⟩ : ∃ g, f = g + 1 := ⟨f - 1, by omega⟩
    have hv : valF 0 [b] = dOf b := by rw [valF_cons, valF_nil]; omega
    have hl : dOf b < 10 := by unfold dOf; unfold isDig at hb; omega
    rw [hv, digF_on h0, show dOf b / 10 = 0 by omega, show dOf b % 10 = dOf b by omega, digF_zero, fig_dOf hb]
    rfl
  | succ n ih =>
    intro hn hr f s hf
    have hne : r ≠ [] := fun h => by subst h; simp at hn
    obtain ⟨p, c, rfl⟩ : ∃ p c, r = p ++ [c] := ⟨r.dropLast, r.getLast hne, (List.dropLast_concat_getLast hne).symm⟩
    have hc := hr c (by simp)
    have hl : dOf c < 10 := by unfold dOf; unfold isDig at hc; omega
    obtain ⟨f, rfl⟩ : ∃ g, f = g + 1 := ⟨f - 1, by omega⟩
    have hv : valF 0 (b :: (p ++ [c])) = valF 0 (b :: p) * 10 + dOf c := valF_snoc (b :: p) 0 c
    have hg : dOf b ≤ valF 0 (b :: p) := by have := valF_ge p (0 * 10 + dOf b); rw [valF_cons]; omega
    rw [hv, digF_on (by omega), show (valF 0 (b :: p) * 10 + dOf c) / 10 = valF 0 (b :: p) by omega, show (valF 0 (b :: p) * 10 + dOf c) % 10 = dOf c by omega, fig_dOf hc,
      ih p (by simp at hn; omega) (fun x hx => hr x (by simp [hx])) f (c :: s) (by omega)]
    simp

/-- No figure 0 stands first in the figures of a number above 0. -/
theorem digF_head : ∀ (f n : Nat) (s : List UInt8), 0 < n → n < 10 ^ f → ∃ b r, digF f n s = b :: r ∧ b ≠ 48
  | 0, n, s, h0, h1 => by simp at h1; omega
  | f + 1, n, s, h0, h1 => by
    rw [digF_on (by omega)]
    by_cases h : n / 10 = 0
    · rw [h, digF_zero]
      refine ⟨_, _, rfl, fun hb => ?_⟩
      have := congrArg UInt8.toNat hb
      rw [fig_lo (by omega)] at this
      simp at this
      omega
    · exact digF_head f (n / 10) _ (by omega) (by rw [Nat.pow_succ] at h1; omega)

/-- What ReadDecimal finds: n is read of k figures. -/
def rdF : Nat → Nat → List UInt8 → Option Nat
  | n, k, [] => if k = 0 ∨ 1000000000 < n then none else some n
  | n, k, b :: r => if 1000000000 < n then none else if b.toNat < 48 ∨ 57 < b.toNat then none else if k = 1 ∧ n = 0 then none else rdF (n * 10 + dOf b) (k + 1) r

theorem rdF_tail : ∀ (t : List UInt8) (n k : Nat), 1 ≤ k → ¬ (k = 1 ∧ n = 0) → rdF n k t = if (∀ b ∈ t, isDig b) ∧ valF n t ≤ 1000000000 then some (valF n t) else none
  | [], n, k, hk, _ => by
    rw [valF_nil]
    unfold rdF
    by_cases h : n ≤ 1000000000
    · rw [if_neg (by omega), if_pos ⟨by simp, h⟩]
    · rw [if_pos (by omega), if_neg (fun hh => h hh.2)]
  | b :: r, n, k, hk, hz => by
    unfold rdF
    by_cases h : 1000000000 < n
    · rw [if_pos h, if_neg]
      intro hh
      have := valF_ge (b :: r) n
      omega
    · rw [if_neg h]
      by_cases hd : b.toNat < 48 ∨ 57 < b.toNat
      · rw [if_pos hd, if_neg]
        intro hh
        have := hh.1 b (by simp)
        unfold isDig at this
        omega
      · rw [if_neg hd, if_neg hz, rdF_tail r _ (k + 1) (by omega) (by omega)]
        have hb : 48 ≤ b.toNat ∧ b.toNat ≤ 57 := by omega
        rw [valF_cons]
        have hiff : ((∀ c ∈ r, isDig c) ∧ valF (n * 10 + dOf b) r ≤ 1000000000) ↔ ((∀ c ∈ b :: r, isDig c) ∧ valF (n * 10 + dOf b) r ≤ 1000000000) := by
          constructor
          · rintro ⟨h1, h2⟩
            refine ⟨fun c hc => ?_, h2⟩
            rcases List.mem_cons.1 hc with rfl | hc
            · exact hb
            · exact h1 c hc
          · rintro ⟨h1, h2⟩
            exact ⟨fun c hc => h1 c (List.mem_cons_of_mem _ hc), h2⟩
        by_cases hx : (∀ c ∈ r, isDig c) ∧ valF (n * 10 + dOf b) r ≤ 1000000000
        · rw [if_pos hx, if_pos (hiff.1 hx)]
        · rw [if_neg hx, if_neg (fun hh => hx (hiff.2 hh))]

/-- What the other text says: at most ten figures, whose number has just them for its Decimal. -/
def sdF (t : List UInt8) : Option Nat :=
  if t.length ≤ 10 ∧ (∀ b ∈ t, isDig b) ∧ valF 0 t ≤ 1000000000 ∧ decOf (valF 0 t : Nat) = t then some (valF 0 t) else none

theorem valF_pow (t : List UInt8) : ∀ n : Nat, n * 10 ^ t.length ≤ valF n t := by
  induction t with
  | nil => intro n; rw [valF_nil]; simp
  | cons b r ih =>
    intro n
    have h := ih (n * 10 + dOf b)
    rw [valF_cons, List.length_cons, Nat.pow_succ]
    refine Nat.le_trans ?_ h
    rw [show n * (10 ^ r.length * 10) = (n * 10) * 10 ^ r.length by rw [Nat.mul_comm (10 ^ r.length) 10, Nat.mul_assoc]]
    exact Nat.mul_le_mul_right _ (by omega)

theorem sdF_eq (t : List UInt8) : sdF t = rdF 0 0 t := by
  match t with
  | [] => rfl
  | b :: r =>
    by_cases hd : b.toNat < 48 ∨ 57 < b.toNat
    · have h1 : rdF 0 0 (b :: r) = none := by simp [rdF, hd]
      rw [h1]
      unfold sdF
      rw [if_neg]
      intro hh
      have := hh.2.1 b (by simp)
      unfold isDig at this
      omega
    · have hb : isDig b := by unfold isDig; omega
      by_cases h0 : dOf b = 0
      · have hb48 : b = 48 := by
          apply UInt8.toNat_inj.1
          unfold dOf at h0
          unfold isDig at hb
          show b.toNat = 48
          omega
        match r with
        | [] => subst hb48; decide
        | c :: r =>
          have h1 : rdF 0 0 (b :: c :: r) = none := by
            simp only [rdF, h0]
            rw [if_neg (by omega), if_neg hd, if_neg (by omega), if_neg (by omega)]
            by_cases hc : c.toNat < 48 ∨ 57 < c.toNat
            · rw [if_pos hc]
            · rw [if_neg hc, if_pos (by simp)]
          rw [h1]
          unfold sdF
          rw [if_neg]
          rintro ⟨_, _, hv, he⟩
          unfold decOf at he
          by_cases hz : valF 0 (b :: c :: r) = 0
          · rw [if_pos (by omega)] at he
            simp at he
          · rw [if_neg (by omega), if_neg (by omega)] at he
            obtain ⟨x, y, hxy, hx⟩ := digF_head 20 (valF 0 (b :: c :: r)) [] (by omega) (by omega)
            rw [show ((valF 0 (b :: c :: r) : Nat) : Int).natAbs = valF 0 (b :: c :: r) by omega, hxy] at he
            rw [hb48] at he
            simp at he
            exact hx he.1
      · have h1 : rdF 0 0 (b :: r) = rdF (dOf b) 1 r := by
          simp only [rdF]
          rw [if_neg (by omega), if_neg hd, if_neg (by omega)]
          simp
        have hv : valF 0 (b :: r) = valF (dOf b) r := by rw [valF_cons]; congr 1; omega
        rw [h1, rdF_tail r (dOf b) 1 (by omega) (by omega)]
        unfold sdF
        rw [hv]
        by_cases hall : (∀ x ∈ r, isDig x) ∧ valF (dOf b) r ≤ 1000000000
        · have hlen : r.length ≤ 9 := by
            refine Classical.byContradiction fun hl => ?_
            have h2 := valF_pow r (dOf b)
            have h3 : 10 ^ 10 ≤ 10 ^ r.length := Nat.pow_le_pow_right (by decide) (by omega)
            have h4 : 1 * 10 ^ r.length ≤ dOf b * 10 ^ r.length := Nat.mul_le_mul_right _ (by omega)
            omega
          have hge := valF_ge r (dOf b)
          have hdec : decOf (valF (dOf b) r : Nat) = b :: r := by
            unfold decOf
            rw [if_neg (by omega), if_neg (by omega), show ((valF (dOf b) r : Nat) : Int).natAbs = valF (dOf b) r by omega, ← hv, digF_val b hb h0 r _ rfl hall.1 20 [] (by omega)]
            simp
          rw [if_pos hall, if_pos ⟨by simp; omega, fun c hc => (List.mem_cons.1 hc).elim (fun h => h ▸ hb) (hall.1 c), hall.2, hdec⟩]
        · rw [if_neg hall, if_neg]
          rintro ⟨_, h3, h4, _⟩
          exact hall ⟨fun x hx => h3 x (by simp [hx]), h4⟩
end Go.Proofs.YtbcjkinalghokafDoor
