/- The plain reckoning of ReadVar: what a number's bytes tell; no program. -/
import Derived.Test.YtpgcfgbhkodmeaaPolMark2J
namespace Go.Proofs.Ytpgcfgbhkodmeaa
open Go.RowKit

/-- The number that bytes tell, the lowest seven bits first. -/
def dec : List UInt8 → Nat
  | [] => 0
  | b :: r => b.toNat % 128 + 128 * dec r

theorem dec_snoc : ∀ (l : List UInt8) (b : UInt8), dec (l ++ [b]) = dec l + b.toNat % 128 * 128 ^ l.length
  | [], b => by simp [dec]
  | c :: l, b => by
    simp only [List.cons_append, dec, List.length_cons, Nat.pow_succ]
    rw [dec_snoc l b, Nat.mul_add]
    rw [show 128 * (b.toNat % 128 * 128 ^ l.length) = b.toNat % 128 * (128 ^ l.length * 128) by
      rw [Nat.mul_comm (128 ^ l.length) 128, Nat.mul_left_comm]]
    omega

theorem dec_lt : ∀ l : List UInt8, dec l < 128 ^ l.length
  | [] => by simp [dec]
  | c :: l => by
    have := dec_lt l
    simp only [dec, List.length_cons, Nat.pow_succ]
    omega

theorem ofNat_toNat (c : UInt8) : UInt8.ofNat c.toNat = c := by simp

/-- The last byte of a number above 0 is not 0. -/
theorem varF_last : ∀ (f n : Nat) (p : List UInt8), 0 < n → n < 128 * 128 ^ f → varF f n ≠ p ++ [0]
  | 0, n, p, h0, h1, h => by
    have h2 : varF 0 n = [UInt8.ofNat n] := rfl
    rw [h2] at h
    have h3 := congrArg List.getLast? h
    simp at h3
    have h4 := congrArg UInt8.toNat h3
    simp at h4
    omega
  | f + 1, n, p, h0, h1, h => by
    by_cases hlt : 127 < n
    · rw [varF_step hlt] at h
      match p, h with
      | [], h =>
        have h3 := congrArg List.length h
        simp at h3
        cases f <;> simp [varF] at h3
        split at h3 <;> simp at h3
      | c :: p, h =>
        simp only [List.cons_append, List.cons.injEq] at h
        exact varF_last f (n / 128) p (by omega) (pow_down h1) h.2
    · rw [varF_end hlt] at h
      have h3 := congrArg List.getLast? h
      simp at h3
      have h4 := congrArg UInt8.toNat h3
      simp at h4
      omega

theorem varF_dec : ∀ (p : List UInt8) (b : UInt8) (f : Nat), (∀ c ∈ p, 128 ≤ c.toNat) → b.toNat < 128 → b ≠ 0 → p.length ≤ f → varF f (dec (p ++ [b])) = p ++ [b]
  | [], b, f, _, hb, _, _ => by
    have h : dec ([] ++ [b]) = b.toNat := by simp [dec]; omega
    rw [h, varF_end (by omega)]
    simp
  | c :: p, b, 0, _, _, _, hf => by simp at hf
  | c :: p, b, f + 1, hc, hb, hne, hf => by
    have hc0 := hc c (by simp)
    have hcl := c.toNat_lt
    have hpos : 0 < dec (p ++ [b]) := by
      rw [dec_snoc]
      have : 0 < b.toNat := by
        rcases Nat.eq_zero_or_pos b.toNat with h | h
        · exact absurd (UInt8.toNat_inj.1 (by simpa using h)) hne
        · exact h
      have h2 : 0 < b.toNat % 128 * 128 ^ p.length := Nat.mul_pos (by omega) (Nat.pow_pos (by decide))
      omega
    have ih := varF_dec p b f (fun x hx => hc x (by simp [hx])) hb hne (by simpa using hf)
    simp only [List.cons_append, dec]
    rw [varF_step (by omega), show (c.toNat % 128 + 128 * dec (p ++ [b])) % 128 + 128 = c.toNat by omega, show (c.toNat % 128 + 128 * dec (p ++ [b])) / 128 = dec (p ++ [b]) by omega, ih, ofNat_toNat]

/-- The bytes p and b (b the first below 128) are the bytes of the number that they tell, just where b is not 0 or stands alone. -/
theorem varF_iff (p : List UInt8) (b : UInt8) (f : Nat) (hp : ∀ c ∈ p, 128 ≤ c.toNat) (hb : b.toNat < 128) (hf : p.length ≤ f) :
    varF f (dec (p ++ [b])) = p ++ [b] ↔ ¬ (b = 0 ∧ p ≠ []) := by
  constructor
  · rintro h ⟨rfl, hne⟩
    have hl := dec_lt (p ++ [0])
    rcases Nat.eq_zero_or_pos (dec (p ++ [0])) with h0 | h0
    · rw [h0, varF_end (by omega)] at h
      match p, hne, h with
      | c :: p, _, h => simp at h
    · refine varF_last f _ p h0 ?_ h
      refine Nat.lt_of_lt_of_le hl ?_
      simp only [List.length_append, List.length_singleton, Nat.pow_succ]
      have := Nat.pow_le_pow_right (n := 128) (by decide) hf
      omega
  · intro h
    by_cases hb0 : b = 0
    · have hpn : p = [] := Classical.byContradiction fun hne => h ⟨hb0, hne⟩
      subst hpn
      subst hb0
      have : dec ([] ++ [(0 : UInt8)]) = 0 := rfl
      rw [this, varF_end (by omega)]
      rfl
    · exact varF_dec p b f hp hb hb0 hf

/-- What ReadVar finds in t from the place a on: f rounds are left, k bytes are read. -/
def rvF (t : List UInt8) (a : Nat) : Nat → Nat → Option (Nat × Nat)
  | 0, _ => none
  | f + 1, k =>
    match t[a + k]? with
    | none => none
    | some b =>
      if b.toNat < 128 then
        if 1000000000 < dec ((t.drop a).take (k + 1)) ∨ (b = 0 ∧ 0 < k) then none
        else some (dec ((t.drop a).take (k + 1)), a + k + 1)
      else rvF t a f (k + 1)

/-- What ReadVar answers. -/
def rv (t : List UInt8) (a : Int) : Option (Nat × Nat) := if inB a 0 t.length = true then rvF t a.toNat 5 0 else none

def rvN (t : List UInt8) (a : Int) : Nat := ((rv t a).getD (0, 0)).1

def rvE (t : List UInt8) (a : Int) : Nat := ((rv t a).getD (0, 0)).2

def rvOk (t : List UInt8) (a : Int) : Bool := (rv t a).isSome

theorem rvF_end {t : List UInt8} {a f k : Nat} (h : t.length ≤ a + k ∨ f = 0) : rvF t a f k = none := by
  rcases h with h | rfl
  · match f with
    | 0 => rfl
    | f + 1 => simp [rvF, h]
  · rfl

theorem rvF_on {t : List UInt8} {a f k : Nat} (h : a + k < t.length) (hb : 128 ≤ t[a + k].toNat) : rvF t a (f + 1) k = rvF t a f (k + 1) := by
  have h2 : ¬ t[a + k].toNat < 128 := by omega
  simp [rvF, h, h2]

theorem rvF_no {t : List UInt8} {a f k : Nat} (h : a + k < t.length) (hb : t[a + k].toNat < 128) (hn : 1000000000 < dec ((t.drop a).take (k + 1)) ∨ (t[a + k] = 0 ∧ 0 < k)) : rvF t a (f + 1) k = none := by
  simp [rvF, h, hb, hn]

theorem rvF_yes {t : List UInt8} {a f k : Nat} (h : a + k < t.length) (hb : t[a + k].toNat < 128) (hn : ¬ (1000000000 < dec ((t.drop a).take (k + 1)) ∨ (t[a + k] = 0 ∧ 0 < k))) : rvF t a (f + 1) k = some (dec ((t.drop a).take (k + 1)), a + k + 1) := by
  simp only [rvF, List.getElem?_eq_getElem h, hb, if_true, if_neg hn]

theorem take_more {t : List UInt8} {a k : Nat} (h : a + k < t.length) : (t.drop a).take (k + 1) = (t.drop a).take k ++ [t[a + k]] := by
  rw [List.take_succ_eq_append_getElem (by simp; omega)]
  simp

theorem rv_in {s : ByteArray} {a : Nat} (h : a ≤ s.size) : rv s.data.toList (a : Int) = rvF s.data.toList a 5 0 := by
  have : inB (a : Int) 0 (s.data.toList.length : Nat) = true := inB_yes (by omega) (by simp; omega)
  unfold rv
  rw [if_pos this]
  simp

theorem rv_out {s : ByteArray} {a : Int} (h : ¬ (0 ≤ a ∧ a ≤ s.size)) : rv s.data.toList a = none := by
  have : inB a 0 (s.data.toList.length : Nat) = false := inB_no (by simp; simp at h; omega)
  unfold rv
  rw [if_neg (by rw [this]; decide)]

theorem byte_at (s : ByteArray) (i : Nat) (h : i < s.size) : s[i] = s.data.toList[i]'(by simpa using h) := by simp; rfl

theorem byte_of {s : ByteArray} {i : Nat} {b : UInt8} (h : i < s.size) (hb : s[i] = b) : ∃ h' : i < s.data.toList.length, s.data.toList[i] = b := ⟨by simpa using h, by rw [← hb, byte_at s i h]⟩

theorem mul_le (b sc : Nat) (h : sc ≤ 268435456) : ((b : Int) % 128 * (sc : Int)) ≤ 34091302912 ∧ 0 ≤ ((b : Int) % 128 * (sc : Int)) := by
  have h1 : (b : Int) % 128 * (sc : Int) = ((b % 128 * sc : Nat) : Int) := by simp
  rw [h1]
  have h2 : b % 128 * sc ≤ 127 * 268435456 := Nat.mul_le_mul (by omega) h
  omega

theorem sc_le {k sc : Nat} (hk : k < 5) (h : sc = 128 ^ k) : sc ≤ 268435456 := by
  subst h
  exact Nat.pow_le_pow_right (n := 128) (j := 4) (by decide) (by omega)

theorem n_lt {t : List UInt8} {a k n : Nat} (hk : k ≤ 5) (h : n = dec ((t.drop a).take k)) : n < 34359738368 := by
  subst h
  refine Nat.lt_of_lt_of_le (dec_lt _) (Nat.le_trans (Nat.pow_le_pow_right (n := 128) (by decide) (List.length_take_le _ _)) ?_)
  exact Nat.pow_le_pow_right (n := 128) (j := 5) (by decide) hk

theorem dec_more {t : List UInt8} {a k n sc : Nat} {b : UInt8} (hn : n = dec ((t.drop a).take k)) (hsc : sc = 128 ^ k) (h : a + k < t.length) (hb : t[a + k] = b) :
    dec ((t.drop a).take (k + 1)) = n + b.toNat % 128 * sc := by
  rw [take_more h, dec_snoc, ← hn, hb, hsc]
  congr 3
  simp
  omega

theorem ret_none {r : Option (Nat × Nat)} (h : r = none) : Ending.returned (.tuple #[.int .i64 0, .int .i64 0, .bool false]) = .returned (.tuple #[.int .i64 ((r.getD (0, 0)).1 : Nat), .int .i64 ((r.getD (0, 0)).2 : Nat), .bool r.isSome]) := by
  subst h; rfl

theorem ret_some {r : Option (Nat × Nat)} {n e : Nat} {x y : Int} (h : r = some (n, e)) (hx : x = n) (hy : y = e) : Ending.returned (.tuple #[.int .i64 x, .int .i64 y, .bool true]) = .returned (.tuple #[.int .i64 ((r.getD (0, 0)).1 : Nat), .int .i64 ((r.getD (0, 0)).2 : Nat), .bool r.isSome]) := by
  subst h hx hy; rfl

theorem extract_list (s : ByteArray) (i j : Nat) : (s.extract i j).toList = (s.data.toList.drop i).take (j - i) := by
  rw [ByteArray.toList_eq, ByteArray.data_extract]
  simp [List.extract]

theorem rvF_bound {t : List UInt8} {a : Nat} : ∀ {f k n e : Nat}, rvF t a f k = some (n, e) → e ≤ t.length ∧ n ≤ 1000000000
  | 0, k, n, e, h => by simp [rvF] at h
  | f + 1, k, n, e, h => by
    by_cases hl : a + k < t.length
    · by_cases hb : t[a + k].toNat < 128
      · by_cases hn : 1000000000 < dec ((t.drop a).take (k + 1)) ∨ (t[a + k] = 0 ∧ 0 < k)
        · rw [rvF_no hl hb hn] at h; cases h
        · rw [rvF_yes hl hb hn] at h
          cases h
          omega
      · rw [rvF_on hl (by omega)] at h
        exact rvF_bound h
    · rw [rvF_end (.inl (by omega))] at h; cases h

theorem rv_bound (t : List UInt8) (a : Int) : rvE t a ≤ t.length ∧ rvN t a ≤ 1000000000 := by
  unfold rvE rvN
  cases h : rv t a with
  | none => simp
  | some p =>
    obtain ⟨n, e⟩ := p
    unfold rv at h
    split at h
    · simpa using rvF_bound h
    · cases h

/-- What ReadShort answers. -/
def rsOk (s : ByteArray) (a : Int) : Bool := rvOk s.data.toList a && decide (rvN s.data.toList a ≤ 20000) && decide (rvN s.data.toList a + rvE s.data.toList a ≤ s.size)

def rsText (s : ByteArray) (a : Int) : ByteArray := if rsOk s a = true then s.extract (rvE s.data.toList a) (rvE s.data.toList a + rvN s.data.toList a) else ⟨#[]⟩

def rsE (s : ByteArray) (a : Int) : Nat := if rsOk s a = true then rvE s.data.toList a + rvN s.data.toList a else 0

theorem rs_cases (s : ByteArray) (a : Int) : ∃ (n e : Nat) (b : Bool), rvN s.data.toList a = n ∧ rvE s.data.toList a = e ∧ rvOk s.data.toList a = b ∧ e ≤ s.size ∧ n ≤ 1000000000 ∧
    ((b = true ∧ n ≤ 20000 ∧ n + e ≤ s.size ∧ rsOk s a = true ∧ rsText s a = s.extract e (e + n) ∧ rsE s a = e + n) ∨
     ((b = false ∨ b = true ∧ (20000 < n ∨ n ≤ 20000 ∧ s.size < n + e)) ∧ rsOk s a = false ∧ rsText s a = ⟨#[]⟩ ∧ rsE s a = 0)) := by
  have hb := rv_bound s.data.toList a
  have hl : s.data.toList.length = s.size := by simp
  refine ⟨_, _, _, rfl, rfl, rfl, by omega, hb.2, ?_⟩
  cases h : rsOk s a with
  | true =>
    have h2 := h
    simp only [rsOk, Bool.and_eq_true, decide_eq_true_eq] at h2
    exact .inl ⟨h2.1.1, h2.1.2, h2.2, rfl, by simp [rsText, h], by simp [rsE, h]⟩
  | false =>
    refine .inr ⟨?_, rfl, by simp [rsText, h], by simp [rsE, h]⟩
    cases hb : rvOk s.data.toList a with
    | false => exact .inl rfl
    | true =>
      refine .inr ⟨rfl, ?_⟩
      have h2 : ¬ (rvN s.data.toList a ≤ 20000 ∧ rvN s.data.toList a + rvE s.data.toList a ≤ s.size) := fun hh => by simp [rsOk, hb, hh] at h
      omega
end Go.Proofs.Ytpgcfgbhkodmeaa
