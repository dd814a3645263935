/- The plain reckoning of ReadVar: what a number's bytes tell; no program. -/
import Derived.Test.YtednbcdomkhhmajVar
namespace Go.Proofs.Ytednbcdomkhhmaj
open Go.RowKit

/-- The number that bytes tell, the lowest seven bits first. -/
def dec : List UInt8 → Nat
  | [] => 0
  | b :: r => b.toNat % 128 + 128 * dec r

theorem dec_snoc : ∀ (l : List UInt8) (b : UInt8), dec (l ++ [b]) = dec l + b.toNat % 128 * 128 ^ l.length
  | [], b => by simp [dec]
  | c :: l, b => by
    simp only [List.cons_append, dec, List.length_cons, Nat.pow_succ]
    rw [dec_snoc l b, Nat.mul_add]
    rw [show 128 * (b.toNat % 128 * 128 ^ l.length) = b.toNat % 128 * (128 ^ l.length * 128) by
      rw [Nat.mul_comm (128 ^ l.length) 128, Nat.mul_left_comm]]
    omega

theorem dec_lt : ∀ l : List UInt8, dec l < 128 ^ l.length
  | [] => by simp [dec]
  | c :: l => by
    have := dec_lt l
    simp only [dec, List.length_cons, Nat.pow_succ]
    omega

theorem ofNat_toNat (c : UInt8) : UInt8.ofNat c.toNat = c := by simp

/-- The last byte of a number above 0 is not 0. -/
theorem varF_last : ∀ (f n : Nat) (p : List UInt8), 0 < n → n < 128 * 128 ^ f → varF f n ≠ p ++ [0]
  | 0, n, p, h0, h1, h => by
    have h2 : varF 0 n = [UInt8.ofNat n] := rfl
    rw [h2] at h
    have h3 := congrArg List.getLast? h
    simp at h3
    have h4 := congrArg UInt8.toNat h3
    simp at h4
    omega
  | f + 1, n, p, h0, h1, h => by
    by_cases hlt : 127 < n
    · rw [varF_step hlt] at h
      match p, h with
      | [], h =>
        have h3 := congrArg List.length h
        simp at h3
        cases f <;> simp [varF] at h3
        split at h3 <;> simp at h3
      | c :: p, h =>
        simp only [List.cons_append, List.cons.injEq] at h
        exact varF_last f (n / 128) p (by omega) (pow_down h1) h.2
    · rw [varF_end hlt] at h
      have h3 := congrArg List.getLast? h
      simp at h3
      have h4 := congrArg UInt8.toNat h3
      simp at h4
      omega

theorem varF_dec : ∀ (p : List UInt8) (b : UInt8) (f : Nat), (∀ c ∈ p, 128 ≤ c.toNat) → b.toNat < 128 → b ≠ 0 → p.length ≤ f → varF f (dec (p ++ [b])) = p ++ [b]
  | [], b, f, _, hb, _, _ => by
    have h : dec ([] ++ [b]) = b.toNat := by simp [dec]; omega
    rw [h, varF_end (by omega)]
    simp
  | c :: p, b, 0, _, _, _, hf => by simp at hf
  | c :: p, b, f + 1, hc, hb, hne, hf => by
    have hc0 := hc c (by simp)
    have hcl := c.toNat_lt
    have hpos : 0 < dec (p ++ [b]) := by
      rw [dec_snoc]
      have : 0 < b.toNat := by
        rcases Nat.eq_zero_or_pos b.toNat with h | h
        · exact absurd (UInt8.toNat_inj.1 (by simpa using h)) hne
        · exact h
      have h2 : 0 < b.toNat % 128 * 128 ^ p.length := Nat.mul_pos (by omega) (Nat.pow_pos (by decide))
      omega
    have ih := varF_dec p b f (fun x hx => hc x (by simp [hx])) hb hne (by simpa using hf)
    simp only [List.cons_append, dec]
    rw [varF_step (by omega), show (c.toNat % 128 + 128 * dec (p ++ [b])) % 128 + 128 = c.toNat by omega, show (c.toNat % 128 + 128 * dec (p ++ [b])) / 128 = dec (p ++ [b]) by omega, ih, ofNat_toNat]

/-- The bytes p and b (b the first below 128) are the bytes of the number that they tell, just where b is not 0 or stands alone. -/
theorem varF_iff (p : List UInt8) (b : UInt8) (f : Nat) (hp : ∀ c ∈ p, 128 ≤ c.toNat) (hb : b.toNat < 128) (hf : p.length ≤ f) :
    varF f (dec (p ++ [b])) = p ++ [b] ↔ ¬ (b = 0 ∧ p ≠ []) := by
  constructor
  · rintro h ⟨rfl, hne⟩
    have hl := dec_lt (p ++ [0])
    rcases Nat.eq_zero_or_pos (dec (p ++ [0])) with h0 | h0
    · rw [h0, varF_end (by omega)] at h
      match p, hne, h with
      | c :: p, _, h => simp at h
    · refine varF_last f _ p h0 ?_ h
      refine Nat.lt_of_lt_of_le hl ?_
      simp only [List.length_append, List.length_singleton, Nat.pow_succ]
      have := Nat.pow_le_pow_right (n := 128) (by decide) hf
      omega
  · intro h
    by_cases hb0 : b = 0
    · have hpn : p = [] := Classical.byContradiction fun hne => h ⟨hb0, hne⟩
      subst hpn
      subst hb0
      have : dec ([] ++ [(0 : UInt8)]) = 0 := rfl
      rw [this, varF_end (by omega)]
      rfl
    · exact varF_dec p b f hp hb hb0 hf

/-- What ReadVar finds in t from the place a on: f rounds are left, k bytes are read. -/
def rvF (t : List UInt8) (a : Nat) : Nat → Nat → Option (Nat × Nat)
  | 0, _ => none
  | f + 1, k =>
    match t[a + k]? with
    | none => none
    | some b =>
      if b.toNat < 128 then
        if 1000000000 < dec ((t.drop a).take (k + 1)) ∨ (b = 0 ∧ 0 < k) then none
        else some (dec ((t.drop a).take (k + 1)), a + k + 1)
      else rvF t a f (k + 1)

/-- What ReadVar answers. -/
def rv (t : List UInt8) (a : Int) : Option (Nat × Nat) := if inB a 0 t.length = true then rvF t a.toNat 5 0 else none
def rvN (t : List UInt8) (a : Int) : Nat := ((rv t a).getD (0, 0)).1
def rvE (t : List UInt8) (a : Int) : Nat := ((rv t a).getD (0, 0)).2
def rvOk (t : List UInt8) (a : Int) : Bool := (rv t a).isSome

theorem rvF_end {t : List UInt8} {a f k : Nat} (h : t.length ≤ a + k ∨ f = 0) : rvF t a f k = none := by
  rcases h with h | rfl
  · match f with
    | 0 => rfl
    | f + 1 => simp [rvF, h]
  · rfl

theorem rvF_on {t : List UInt8} {a f k : Nat} (h : a + k < t.length) (hb : 128 ≤ t[a + k].toNat) : rvF t a (f + 1) k = rvF t a f (k + 1) := by
  have h2 : ¬ t[a + k].toNat < 128 := by omega
  simp [rvF, h, h2]

theorem rvF_no {t : List UInt8} {a f k : Nat} (h : a + k < t.length) (hb : t[a + k].toNat < 128) (hn : 1000000000 < dec ((t.drop a).take (k + 1)) ∨ (t[a + k] = 0 ∧ 0 < k)) : rvF t a (f + 1) k = none := by
  simp [rvF, h, hb, hn]

theorem rvF_yes {t : List UInt8} {a f k : Nat} (h : a + k < t.length) (hb : t[a + k].toNat < 128) (hn : ¬ (1000000000 < dec ((t.drop a).take (k + 1)) ∨ (t[a + k] = 0 ∧ 0 < k))) : rvF t a (f + 1) k = some (dec ((t.drop a).take (k + 1)), a + k + 1) := by
  simp only [rvF, List.getElem?_eq_getElem h, hb, if_true, if_neg hn]

theorem take_more {t : List UInt8} {a k : Nat} (h : a + k < t.length) : (t.drop a).take (k + 1) = (t.drop a).take k ++ [t[a + k]] := by
  rw [List.take_succ_eq_append_getElem (by simp; omega)]
  simp
end Go.Proofs.Ytednbcdomkhhmaj
