/- Decimal figures, the plain reckoning: no program. -/
import Derived.Test.YtpgcfgbhkodmeaaSkLaw3J
namespace Go.Proofs.Ytpgcfgbhkodmeaa
open Go.RowKit

/-- The figures of n ahead of those in s. -/
def digF : Nat → Nat → List UInt8 → List UInt8
  | 0, _, s => s
  | f + 1, n, s => if n = 0 then s else digF f (n / 10) (fig (n % 10) :: s)

/-- What Decimal answers. -/
def decOf (n : Int) : List UInt8 := if n = 0 then [48] else if n < 0 then 45 :: digF 20 n.natAbs [] else digF 20 n.natAbs []

theorem digF_on {f n : Nat} {s : List UInt8} (h : n ≠ 0) : digF (f + 1) n s = digF f (n / 10) (fig (n % 10) :: s) := by simp [digF, h]
theorem digF_zero {f : Nat} {s : List UInt8} : digF f 0 s = s := by cases f <;> simp [digF]

abbrev isDig (b : UInt8) : Prop := 48 ≤ b.toNat ∧ b.toNat ≤ 57
def dOf (b : UInt8) : Nat := b.toNat - 48

theorem fig_dOf {b : UInt8} (h : isDig b) : fig (dOf b) = b := by
  apply UInt8.toNat_inj.1
  unfold isDig at h
  rw [fig_lo (by unfold dOf; omega)]
  unfold dOf
  omega

/-- The number that figures tell behind n. -/
def valF (n : Nat) (t : List UInt8) : Nat := t.foldl (fun m b => m * 10 + dOf b) n

theorem valF_nil (n : Nat) : valF n [] = n := rfl
theorem valF_cons (n : Nat) (b : UInt8) (r : List UInt8) : valF n (b :: r) = valF (n * 10 + dOf b) r := by unfold valF; rw [List.foldl_cons]
theorem valF_ge (t : List UInt8) : ∀ n : Nat, n ≤ valF n t := by
  induction t with
  | nil => intro n; rw [valF_nil]; exact Nat.le_refl n
  | cons b r ih => intro n; have h := ih (n * 10 + dOf b); rw [valF_cons]; omega
theorem valF_snoc (t : List UInt8) : ∀ (n : Nat) (b : UInt8), valF n (t ++ [b]) = valF n t * 10 + dOf b := by
  induction t with
  | nil => intro n b; rfl
  | cons c t ih => intro n b; rw [List.cons_append, valF_cons, valF_cons]; exact ih _ b

/-- The figures of a number that figures tell: the same, where the first is not 0. -/
theorem digF_val (b : UInt8) (hb : isDig b) (h0 : dOf b ≠ 0) (r : List UInt8) : ∀ (n : Nat), n = r.length → (∀ c ∈ r, isDig c) → ∀ (f : Nat) (s : List UInt8), n + 1 ≤ f → digF f (valF 0 (b :: r)) s = b :: r ++ s := by
  intro n
  induction n generalizing r with
  | zero =>
    intro hn _ f s hf
    have hr : r = [] := List.length_eq_zero_iff.1 hn.symm
    subst hr
    obtain ⟨f, rfl⟩ : ∃ g, f = g + 1 := ⟨f - 1, by omega⟩
    have hv : valF 0 [b] = dOf b := by rw [valF_cons, valF_nil]; omega
    have hl : dOf b < 10 := by unfold dOf; unfold isDig at hb; omega
    rw [hv, digF_on h0, show dOf b / 10 = 0 by omega, show dOf b % 10 = dOf b by omega, digF_zero, fig_dOf hb]
    rfl
  | succ n ih =>
    intro hn hr f s hf
    have hne : r ≠ [] := fun h => by subst h; simp at hn
    obtain ⟨p, c, rfl⟩ : ∃ p c, r = p ++ [c] := ⟨r.dropLast, r.getLast hne, (List.dropLast_concat_getLast hne).symm⟩
    have hc := hr c (by simp)
    have hl : dOf c < 10 := by unfold dOf; unfold isDig at hc; omega
    obtain ⟨f, rfl⟩ : ∃ g, f = g + 1 := ⟨f - 1, by omega⟩
    have hv : valF 0 (b :: (p ++ [c])) = valF 0 (b :: p) * 10 + dOf c := valF_snoc (b :: p) 0 c
    have hg : dOf b ≤ valF 0 (b :: p) := by have := valF_ge p (0 * 10 + dOf b); rw [valF_cons]; omega
    rw [hv, digF_on (by omega), show (valF 0 (b :: p) * 10 + dOf c) / 10 = valF 0 (b :: p) by omega, show (valF 0 (b :: p) * 10 + dOf c) % 10 = dOf c by omega, fig_dOf hc,
      ih p (by simp at hn; omega) (fun x hx => hr x (by simp [hx])) f (c :: s) (by omega)]
    simp

/-- No figure 0 stands first in the figures of a number above 0. -/
theorem digF_head : ∀ (f n : Nat) (s : List UInt8), 0 < n → n < 10 ^ f → ∃ b r, digF f n s = b :: r ∧ b ≠ 48
  | 0, n, s, h0, h1 => by simp at h1; omega
  | f + 1, n, s, h0, h1 => by
    rw [digF_on (by omega)]
    by_cases h : n / 10 = 0
    · rw [h, digF_zero]
      refine ⟨_, _, rfl, fun hb => ?_⟩
      have := congrArg UInt8.toNat hb
      rw [fig_lo (by omega)] at this
      simp at this
      omega
    · exact digF_head f (n / 10) _ (by omega) (by rw [Nat.pow_succ] at h1; omega)

/-- What ReadDecimal finds: n is read of k figures. -/
def rdF : Nat → Nat → List UInt8 → Option Nat
  | n, k, [] => if k = 0 ∨ 1000000000 < n then none else some n
  | n, k, b :: r => if 1000000000 < n then none else if b.toNat < 48 ∨ 57 < b.toNat then none else if k = 1 ∧ n = 0 then none else rdF (n * 10 + dOf b) (k + 1) r

theorem rdF_tail : ∀ (t : List UInt8) (n k : Nat), 1 ≤ k → ¬ (k = 1 ∧ n = 0) → rdF n k t = if (∀ b ∈ t, isDig b) ∧ valF n t ≤ 1000000000 then some (valF n t) else none
  | [], n, k, hk, _ => by
    rw [valF_nil]
    unfold rdF
    by_cases h : n ≤ 1000000000
    · rw [if_neg (by omega), if_pos ⟨by simp, h⟩]
    · rw [if_pos (by omega), if_neg (fun hh => h hh.2)]
  | b :: r, n, k, hk, hz => by
    unfold rdF
    by_cases h : 1000000000 < n
    · rw [if_pos h, if_neg]
      intro hh
      have := valF_ge (b :: r) n
      omega
    · rw [if_neg h]
      by_cases hd : b.toNat < 48 ∨ 57 < b.toNat
      · rw [if_pos hd, if_neg]
        intro hh
        have := hh.1 b (by simp)
        unfold isDig at this
        omega
      · rw [if_neg hd, if_neg hz, rdF_tail r _ (k + 1) (by omega) (by omega)]
        have hb : 48 ≤ b.toNat ∧ b.toNat ≤ 57 := by omega
        rw [valF_cons]
        have hiff : ((∀ c ∈ r, isDig c) ∧ valF (n * 10 + dOf b) r ≤ 1000000000) ↔ ((∀ c ∈ b :: r, isDig c) ∧ valF (n * 10 + dOf b) r ≤ 1000000000) := by
          constructor
          · rintro ⟨h1, h2⟩
            refine ⟨fun c hc => ?_, h2⟩
            rcases List.mem_cons.1 hc with rfl | hc
            · exact hb
            · exact h1 c hc
          · rintro ⟨h1, h2⟩
            exact ⟨fun c hc => h1 c (List.mem_cons_of_mem _ hc), h2⟩
        by_cases hx : (∀ c ∈ r, isDig c) ∧ valF (n * 10 + dOf b) r ≤ 1000000000
        · rw [if_pos hx, if_pos (hiff.1 hx)]
        · rw [if_neg hx, if_neg (fun hh => hx (hiff.2 hh))]

/-- What the other text says: at most ten figures, whose number has just them for its Decimal. -/
def sdF (t : List UInt8) : Option Nat :=
  if t.length ≤ 10 ∧ (∀ b ∈ t, isDig b) ∧ valF 0 t ≤ 1000000000 ∧ decOf (valF 0 t : Nat) = t then some (valF 0 t) else none

theorem valF_pow (t : List UInt8) : ∀ n : Nat, n * 10 ^ t.length ≤ valF n t := by
  induction t with
  | nil => intro n; rw [valF_nil]; simp
  | cons b r ih =>
    intro n
    have h := ih (n * 10 + dOf b)
    rw [valF_cons, List.length_cons, Nat.pow_succ]
    refine Nat.le_trans ?_ h
    rw [show n * (10 ^ r.length * 10) = (n * 10) * 10 ^ r.length by rw [Nat.mul_comm (10 ^ r.length) 10, Nat.mul_assoc]]
    exact Nat.mul_le_mul_right _ (by omega)

theorem sdF_eq (t : List UInt8) : sdF t = rdF 0 0 t := by
  match t with
  | [] => rfl
  | b :: r =>
    by_cases hd : b.toNat < 48 ∨ 57 < b.toNat
    · have h1 : rdF 0 0 (b :: r) = none := by simp [rdF, hd]
      rw [h1]
      unfold sdF
      rw [if_neg]
      intro hh
      have := hh.2.1 b (by simp)
      unfold isDig at this
      omega
    · have hb : isDig b := by unfold isDig; omega
      by_cases h0 : dOf b = 0
      · have hb48 : b = 48 := by
          apply UInt8.toNat_inj.1
          unfold dOf at h0
          unfold isDig at hb
          show b.toNat = 48
          omega
        match r with
        | [] => subst hb48; decide
        | c :: r =>
          have h1 : rdF 0 0 (b :: c :: r) = none := by
            simp only [rdF, h0]
            rw [if_neg (by omega), if_neg hd, if_neg (by omega), if_neg (by omega)]
            by_cases hc : c.toNat < 48 ∨ 57 < c.toNat
            · rw [if_pos hc]
            · rw [if_neg hc, if_pos (by simp)]
          rw [h1]
          unfold sdF
          rw [if_neg]
          rintro ⟨_, _, hv, he⟩
          unfold decOf at he
          by_cases hz : valF 0 (b :: c :: r) = 0
          · rw [if_pos (by omega)] at he
            simp at he
          · rw [if_neg (by omega), if_neg (by omega)] at he
            obtain ⟨x, y, hxy, hx⟩ := digF_head 20 (valF 0 (b :: c :: r)) [] (by omega) (by omega)
            rw [show ((valF 0 (b :: c :: r) : Nat) : Int).natAbs = valF 0 (b :: c :: r) by omega, hxy] at he
            rw [hb48] at he
            simp at he
            exact hx he.1
      · have h1 : rdF 0 0 (b :: r) = rdF (dOf b) 1 r := by
          simp only [rdF]
          rw [if_neg (by omega), if_neg hd, if_neg (by omega)]
          simp
        have hv : valF 0 (b :: r) = valF (dOf b) r := by rw [valF_cons]; congr 1; omega
        rw [h1, rdF_tail r (dOf b) 1 (by omega) (by omega)]
        unfold sdF
        rw [hv]
        by_cases hall : (∀ x ∈ r, isDig x) ∧ valF (dOf b) r ≤ 1000000000
        · have hlen : r.length ≤ 9 := by
            refine Classical.byContradiction fun hl => ?_
            have h2 := valF_pow r (dOf b)
            have h3 : 10 ^ 10 ≤ 10 ^ r.length := Nat.pow_le_pow_right (by decide) (by omega)
            have h4 : 1 * 10 ^ r.length ≤ dOf b * 10 ^ r.length := Nat.mul_le_mul_right _ (by omega)
            omega
          have hge := valF_ge r (dOf b)
          have hdec : decOf (valF (dOf b) r : Nat) = b :: r := by
            unfold decOf
            rw [if_neg (by omega), if_neg (by omega), show ((valF (dOf b) r : Nat) : Int).natAbs = valF (dOf b) r by omega, ← hv, digF_val b hb h0 r _ rfl hall.1 20 [] (by omega)]
            simp
          rw [if_pos hall, if_pos ⟨by simp; omega, fun c hc => (List.mem_cons.1 hc).elim (fun h => h ▸ hb) (hall.1 c), hall.2, hdec⟩]
        · rw [if_neg hall, if_neg]
          rintro ⟨_, h3, h4, _⟩
          exact hall ⟨fun x hx => h3 x (by simp [hx]), h4⟩
end Go.Proofs.Ytpgcfgbhkodmeaa
