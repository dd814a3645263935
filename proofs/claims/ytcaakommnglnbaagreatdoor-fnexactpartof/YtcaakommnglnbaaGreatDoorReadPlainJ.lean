/- Texts that stand in one: ReadPlain, HexPlain, UnhexPlain, Trip. -/
import Derived.Test.YtcaakommnglnbaaGreatDoorPolLaw2J
import Derived.Test.YtcaakommnglnbaaGreatDoorSkLaw2J
import Derived.Lib.Bytealg
namespace Go.Proofs.YtcaakommnglnbaaGreatDoor
open Go.RowKit

/-- The number that bytes tell, the lowest seven bits first. -/
def dec : List UInt8 → Nat
  | [] => 0
  | b :: r => b.toNat % 128 + 128 * dec r

theorem dec_snoc : ∀ (l : List UInt8) (b : UInt8), dec (l ++ [b]) = dec l + b.toNat % 128 * 128 ^ l.length
  | [], b => by simp [dec]
  | c :: l, b => by
    simp only [List.cons_append, dec, List.length_cons, Nat.pow_succ]
    rw [dec_snoc l b, Nat.mul_add]
    rw [show 128 * (b.toNat % 128 * 128 ^ l.length) = b.toNat % 128 * (128 ^ l.length * 128) by
      rw [Nat.mul_comm (128 ^ l.length) 128, Nat.mul_left_comm]]
    omega

theorem dec_lt : ∀ l : List UInt8, dec l < 128 ^ l.length
  | [] => by simp [dec]
  | c :: l => by
    have := dec_lt l
    simp only [dec, List.length_cons, Nat.pow_succ]
    omega

theorem ofNat_toNat (c : UInt8) : UInt8.ofNat c.toNat = c := by simp

/-- The last byte of a number above 0 is not 0. -/
theorem varF_last : ∀ (f n : Nat) (p : List UInt8), 0 < n → n < 128 * 128 ^ f → varF f n ≠ p ++ [0]
  | 0, n, p, h0, h1, h => by
    have h2 : varF 0 n = [UInt8.ofNat n] := rfl
    rw [h2] at h
    have h3 := congrArg List.getLast? h
    simp at h3
    have h4 := congrArg UInt8.toNat h3
    simp at h4
    omega
  | f + 1, n, p, h0, h1, h => by
    by_cases hlt : 127 < n
    · rw [varF_step hlt] at h
      match p, h with
      | [], h =>
        have h3 := congrArg List.length h
        simp at h3
        cases f <;> simp [varF] at h3
        split at h3 <;> simp at h3
      | c :: p, h =>
        simp only [List.cons_append, List.cons.injEq] at h
        exact varF_last f (n / 128) p (by omega) (pow_down h1) h.2
    · rw [varF_end hlt] at h
      have h3 := congrArg List.getLast? h
      simp at h3
      have h4 := congrArg UInt8.toNat h3
      simp at h4
      omega

theorem varF_dec : ∀ (p : List UInt8) (b : UInt8) (f : Nat), (∀ c ∈ p, 128 ≤ c.toNat) → b.toNat < 128 → b ≠ 0 → p.length ≤ f → varF f (dec (p ++ [b])) = p ++ [b]
  | [], b, f, _, hb, _, _ => by
    have h : dec ([] ++ [b]) = b.toNat := by simp [dec]; omega
    rw [h, varF_end (by omega)]
    simp
  | c :: p, b, 0, _, _, _, hf => by simp at hf
  | c :: p, b, f + 1, hc, hb, hne, hf => by
    have hc0 := hc c (by simp)
    have hcl := c.toNat_lt
    have hpos : 0 < dec (p ++ [b]) := by
      rw [dec_snoc]
      have : 0 < b.toNat := by
        rcases Nat.eq_zero_or_pos b.toNat with h | h
        · exact absurd (UInt8.toNat_inj.1 (by simpa using h)) hne
        · exact h
      have h2 : 0 < b.toNat % 128 * 128 ^ p.length := Nat.mul_pos (by omega) (Nat.pow_pos (by decide))
      omega
    have ih := varF_dec p b f (fun x hx => hc x (by simp [hx])) hb hne (by simpa using hf)
    simp only [List.cons_append, dec]
    rw [varF_step (by omega), show (c.toNat % 128 + 128 * dec (p ++ [b])) % 128 + 128 = c.toNat by omega, show (c.toNat % 128 + 128 * dec (p ++ [b])) / 128 = dec (p ++ [b]) by omega, ih, ofNat_toNat]

/-- The bytes p and b (b the first below 128) are the bytes of the number that they tell, just where b is not 0 or stands alone. -/
theorem varF_iff (p : List UInt8) (b : UInt8) (f : Nat) (hp : ∀ c ∈ p, 128 ≤ c.toNat) (hb : b.toNat < 128) (hf : p.length ≤ f) :
    varF f (dec (p ++ [b])) = p ++ [b] ↔ ¬ (b = 0 ∧ p ≠ []) := by
  constructor
  · rintro h ⟨rfl, hne⟩
    have hl := dec_lt (p ++ [0])
    rcases Nat.eq_zero_or_pos (dec (p ++ [0])) with h0 | h0
    · rw [h0, varF_end (by omega)] at h
      match p, hne, h with
      | c :: p, _, h => simp at h
    · refine varF_last f _ p h0 ?_ h
      refine Nat.lt_of_lt_of_le hl ?_
      simp only [List.length_append, List.length_singleton, Nat.pow_succ]
      have := Nat.pow_le_pow_right (n := 128) (by decide) hf
      omega
  · intro h
    by_cases hb0 : b = 0
    · have hpn : p = [] := Classical.byContradiction fun hne => h ⟨hb0, hne⟩
      subst hpn
      subst hb0
      have : dec ([] ++ [(0 : UInt8)]) = 0 := rfl
      rw [this, varF_end (by omega)]
      rfl
    · exact varF_dec p b f hp hb hb0 hf

/-- What ReadVar finds in t from the place a on: f rounds are left, k bytes are read. -/
def rvF (t : List UInt8) (a : Nat) : Nat → Nat → Option (Nat × Nat)
  | 0, _ => none
  | f + 1, k =>
    match t[a + k]? with
    | none => none
    | some b =>
      if b.toNat < 128 then
        if 1000000000 < dec ((t.drop a).take (k + 1)) ∨ (b = 0 ∧ 0 < k) then none
        else some (dec ((t.drop a).take (k + 1)), a + k + 1)
      else rvF t a f (k + 1)

/-- What ReadVar answers. -/
def rv (t : List UInt8) (a : Int) : Option (Nat × Nat) := if inB a 0 t.length = true then rvF t a.toNat 5 0 else none

def rvN (t : List UInt8) (a : Int) : Nat := ((rv t a).getD (0, 0)).1

def rvE (t : List UInt8) (a : Int) : Nat := ((rv t a).getD (0, 0)).2

def rvOk (t : List UInt8) (a : Int) : Bool := (rv t a).isSome

theorem rvF_end {t : List UInt8} {a f k : Nat} (h : t.length ≤ a + k ∨ f = 0) : rvF t a f k = none := by
  rcases h with h | rfl
  · match f with
    | 0 => rfl
    | f + 1 => simp [rvF, h]
  · rfl

theorem rvF_on {t : List UInt8} {a f k : Nat} (h : a + k < t.length) (hb : 128 ≤ t[a + k].toNat) : rvF t a (f + 1) k = rvF t a f (k + 1) := by
  have h2 : ¬ t[a + k].toNat < 128 := by omega
  simp [rvF, h, h2]

theorem rvF_no {t : List UInt8} {a f k : Nat} (h : a + k < t.length) (hb : t[a + k].toNat < 128) (hn : 1000000000 < dec ((t.drop a).take (k + 1)) ∨ (t[a + k] = 0 ∧ 0 < k)) : rvF t a (f + 1) k = none := by
  simp [rvF, h, hb, hn]

theorem rvF_yes {t : List UInt8} {a f k : Nat} (h : a + k < t.length) (hb : t[a + k].toNat < 128) (hn : ¬ (1000000000 < dec ((t.drop a).take (k + 1)) ∨ (t[a + k] = 0 ∧ 0 < k))) : rvF t a (f + 1) k = some (dec ((t.drop a).take (k + 1)), a + k + 1) := by
  simp only [rvF, List.getElem?_eq_getElem h, hb, if_true, if_neg hn]

theorem take_more {t : List UInt8} {a k : Nat} (h : a + k < t.length) : (t.drop a).take (k + 1) = (t.drop a).take k ++ [t[a + k]] := by
  rw [List.take_succ_eq_append_getElem (by simp; omega)]
  simp

theorem rv_in {s : ByteArray} {a : Nat} (h : a ≤ s.size) : rv s.data.toList (a : Int) = rvF s.data.toList a 5 0 := by
  have : inB (a : Int) 0 (s.data.toList.length : Nat) = true := inB_yes (by omega) (by simp; omega)
  unfold rv
  rw [if_pos this]
  simp

theorem rv_out {s : ByteArray} {a : Int} (h : ¬ (0 ≤ a ∧ a ≤ s.size)) : rv s.data.toList a = none := by
  have : inB a 0 (s.data.toList.length : Nat) = false := inB_no (by simp; simp at h; omega)
  unfold rv
  rw [if_neg (by rw [this]; decide)]

theorem byte_at (s : ByteArray) (i : Nat) (h : i < s.size) : s[i] = s.data.toList[i]'(by simpa using h) := by simp; rfl

theorem byte_of {s : ByteArray} {i : Nat} {b : UInt8} (h : i < s.size) (hb : s[i] = b) : ∃ h' : i < s.data.toList.length, s.data.toList[i] = b := ⟨by simpa using h, by rw [← hb, byte_at s i h]⟩

theorem mul_le (b sc : Nat) (h : sc ≤ 268435456) : ((b : Int) % 128 * (sc : Int)) ≤ 34091302912 ∧ 0 ≤ ((b : Int) % 128 * (sc : Int)) := by
  have h1 : (b : Int) % 128 * (sc : Int) = ((b % 128 * sc : Nat) : Int) := by simp
  rw [h1]
  have h2 : b % 128 * sc ≤ 127 * 268435456 := Nat.mul_le_mul (by omega) h
  omega

theorem sc_le {k sc : Nat} (hk : k < 5) (h : sc = 128 ^ k) : sc ≤ 268435456 := by
  subst h
  exact Nat.pow_le_pow_right (n := 128) (j := 4) (by decide) (by omega)

theorem n_lt {t : List UInt8} {a k n : Nat} (hk : k ≤ 5) (h : n = dec ((t.drop a).take k)) : n < 34359738368 := by
  subst h
  refine Nat.lt_of_lt_of_le (dec_lt _) (Nat.le_trans (Nat.pow_le_pow_right (n := 128) (by decide) (List.length_take_le _ _)) ?_)
  exact Nat.pow_le_pow_right (n := 128) (j := 5) (by decide) hk

theorem dec_more {t : List UInt8} {a k n sc : Nat} {b : UInt8} (hn : n = dec ((t.drop a).take k)) (hsc : sc = 128 ^ k) (h : a + k < t.length) (hb : t[a + k] = b) :
    dec ((t.drop a).take (k + 1)) = n + b.toNat % 128 * sc := by
  rw [take_more h, dec_snoc, ← hn, hb, hsc]
  congr 3
  simp
  omega

theorem ret_none {r : Option (Nat × Nat)} (h : r = none) : Ending.returned (.tuple #[.int .i64 0, .int .i64 0, .bool false]) = .returned (.tuple #[.int .i64 ((r.getD (0, 0)).1 : Nat), .int .i64 ((r.getD (0, 0)).2 : Nat), .bool r.isSome]) := by
  subst h; rfl

theorem ret_some {r : Option (Nat × Nat)} {n e : Nat} {x y : Int} (h : r = some (n, e)) (hx : x = n) (hy : y = e) : Ending.returned (.tuple #[.int .i64 x, .int .i64 y, .bool true]) = .returned (.tuple #[.int .i64 ((r.getD (0, 0)).1 : Nat), .int .i64 ((r.getD (0, 0)).2 : Nat), .bool r.isSome]) := by
  subst h hx hy; rfl

theorem extract_list (s : ByteArray) (i j : Nat) : (s.extract i j).toList = (s.data.toList.drop i).take (j - i) := by
  rw [ByteArray.toList_eq, ByteArray.data_extract]
  simp [List.extract]

theorem rvF_bound {t : List UInt8} {a : Nat} : ∀ {f k n e : Nat}, rvF t a f k = some (n, e) → e ≤ t.length ∧ n ≤ 1000000000
  | 0, k, n, e, h => by simp [rvF] at h
  | f + 1, k, n, e, h => by
    by_cases hl : a + k < t.length
    · by_cases hb : t[a + k].toNat < 128
      · by_cases hn : 1000000000 < dec ((t.drop a).take (k + 1)) ∨ (t[a + k] = 0 ∧ 0 < k)
        · rw [rvF_no hl hb hn] at h; cases h
        · rw [rvF_yes hl hb hn] at h
          cases h
          omega
      · rw [rvF_on hl (by omega)] at h
        exact rvF_bound h
    · rw [rvF_end (.inl (by omega))] at h; cases h

theorem rv_bound (t : List UInt8) (a : Int) : rvE t a ≤ t.length ∧ rvN t a ≤ 1000000000 := by
  unfold rvE rvN
  cases h : rv t a with
  | none => simp
  | some p =>
    obtain ⟨n, e⟩ := p
    unfold rv at h
    split at h
    · simpa using rvF_bound h
    · cases h

/-- What ReadShort answers. -/
def rsOk (s : ByteArray) (a : Int) : Bool := rvOk s.data.toList a && decide (rvN s.data.toList a ≤ 20000) && decide (rvN s.data.toList a + rvE s.data.toList a ≤ s.size)

def rsText (s : ByteArray) (a : Int) : ByteArray := if rsOk s a = true then s.extract (rvE s.data.toList a) (rvE s.data.toList a + rvN s.data.toList a) else ⟨#[]⟩

def rsE (s : ByteArray) (a : Int) : Nat := if rsOk s a = true then rvE s.data.toList a + rvN s.data.toList a else 0

theorem rs_cases (s : ByteArray) (a : Int) : ∃ (n e : Nat) (b : Bool), rvN s.data.toList a = n ∧ rvE s.data.toList a = e ∧ rvOk s.data.toList a = b ∧ e ≤ s.size ∧ n ≤ 1000000000 ∧
    ((b = true ∧ n ≤ 20000 ∧ n + e ≤ s.size ∧ rsOk s a = true ∧ rsText s a = s.extract e (e + n) ∧ rsE s a = e + n) ∨
     ((b = false ∨ b = true ∧ (20000 < n ∨ n ≤ 20000 ∧ s.size < n + e)) ∧ rsOk s a = false ∧ rsText s a = ⟨#[]⟩ ∧ rsE s a = 0)) := by
  have hb := rv_bound s.data.toList a
  have hl : s.data.toList.length = s.size := by simp
  refine ⟨_, _, _, rfl, rfl, rfl, by omega, hb.2, ?_⟩
  cases h : rsOk s a with
  | true =>
    have h2 := h
    simp only [rsOk, Bool.and_eq_true, decide_eq_true_eq] at h2
    exact .inl ⟨h2.1.1, h2.1.2, h2.2, rfl, by simp [rsText, h], by simp [rsE, h]⟩
  | false =>
    refine .inr ⟨?_, rfl, by simp [rsText, h], by simp [rsE, h]⟩
    cases hb : rvOk s.data.toList a with
    | false => exact .inl rfl
    | true =>
      refine .inr ⟨rfl, ?_⟩
      have h2 : ¬ (rvN s.data.toList a ≤ 20000 ∧ rvN s.data.toList a + rvE s.data.toList a ≤ s.size) := fun hh => by simp [rsOk, hb, hh] at h
      omega
end Go.Proofs.YtcaakommnglnbaaGreatDoor

namespace Go.Proofs.YtcaakommnglnbaaGreatDoor
open Go.RowKit

/-- The figures of bytes. -/
def figs (l : List UInt8) : List UInt8 := l.flatMap fun b => [fig (b.toNat / 16), fig (b.toNat % 16)]

theorem figs_snoc (l : List UInt8) (b : UInt8) : figs (l ++ [b]) = figs l ++ [fig (b.toNat / 16), fig (b.toNat % 16)] := by simp [figs]

theorem figs_length (l : List UInt8) : (figs l).length = 2 * l.length := by
  induction l with
  | nil => rfl
  | cons b l ih => simp only [figs, List.flatMap_cons, List.length_append, List.length_cons, List.length_nil] at *; omega

theorem take_snoc (s : ByteArray) (k : Nat) (h : k < s.size) : s.data.toList.take (k + 1) = s.data.toList.take k ++ [s[k]] := by
  rw [List.take_succ_eq_append_getElem (by simpa using h)]; rfl

theorem wrap_small (x : Int) (h1 : -9223372036854775808 ≤ x) (h2 : x < 9223372036854775808) : IntKind.i64.wrap x = x := by
  simp only [IntKind.wrap_i64]; omega

/-- The text of all figures. -/
def allFigs : ByteArray := ⟨#[48, 49, 50, 51, 52, 53, 54, 55, 56, 57, 97, 98, 99, 100, 101, 102]⟩

theorem allFigs_at : ∀ q, (h : q < 16) → allFigs[q]'h = fig q := by
  intro q h
  rcases (show q = 0 ∨ q = 1 ∨ q = 2 ∨ q = 3 ∨ q = 4 ∨ q = 5 ∨ q = 6 ∨ q = 7 ∨ q = 8 ∨ q = 9 ∨ q = 10 ∨ q = 11 ∨ q = 12 ∨ q = 13 ∨ q = 14 ∨ q = 15 by omega) with rfl | rfl | rfl | rfl | rfl | rfl | rfl | rfl | rfl | rfl | rfl | rfl | rfl | rfl | rfl | rfl <;> rfl

/-- What Hex answers. -/
def hxOk (s : ByteArray) : Bool := decide (s.size ≤ 20000)

def hxText (s : ByteArray) : ByteArray := if s.size ≤ 20000 then ⟨(figs s.data.toList).toArray⟩ else ⟨#[]⟩
end Go.Proofs.YtcaakommnglnbaaGreatDoor

namespace Go.Proofs.YtcaakommnglnbaaGreatDoor
open Go.RowKit

/-- What a figure tells, -1 where it is none. -/
def uv (b : UInt8) : Int := if 48 ≤ b.toNat ∧ b.toNat ≤ 57 then b.toNat - 48 else if 97 ≤ b.toNat ∧ b.toNat ≤ 102 then b.toNat - 87 else -1

theorem uv_bd (b : UInt8) : -1 ≤ uv b ∧ uv b < 16 := by
  unfold uv
  split
  · omega
  · split <;> omega

theorem index_uv (b : UInt8) : Lib.indexByte [48, 49, 50, 51, 52, 53, 54, 55, 56, 57, 97, 98, 99, 100, 101, 102] b = uv b := by
  have h : ∀ n : Fin 256, Lib.indexByte [48, 49, 50, 51, 52, 53, 54, 55, 56, 57, 97, 98, 99, 100, 101, 102] (UInt8.ofNat n.val) = uv (UInt8.ofNat n.val) := by decide +kernel
  have := h ⟨b.toNat, b.toNat_lt⟩
  simpa using this

/-- The text that figures tell, if all are figures. -/
def unF : List UInt8 → Option (List UInt8)
  | a :: b :: r => if 0 ≤ uv a ∧ 0 ≤ uv b then (unF r).map (fun l => UInt8.ofNat (16 * uv a + uv b).toNat :: l) else none
  | _ => some []

theorem drop_two {t : List UInt8} {i : Nat} (h : i + 1 < t.length) : t.drop i = t[i] :: t[i + 1] :: t.drop (i + 2) := by
  rw [List.drop_eq_getElem_cons (by omega), List.drop_eq_getElem_cons h]

/-- Where the reading stands: the bytes l are read, the rest stands from the place i on. -/
def unAt (t : List UInt8) (i : Nat) (l : List UInt8) : Prop := unF t = (unF (t.drop i)).map (fun r => l ++ r)

theorem unAt_start (t : List UInt8) : unAt t 0 [] := by simp [unAt]

theorem unAt_on {t : List UInt8} {i : Nat} {l : List UInt8} (h : unAt t i l) (hi : i + 1 < t.length) {x y : Int} (hx : uv t[i] = x) (hy : uv t[i + 1] = y) (h1 : 0 ≤ x) (h2 : 0 ≤ y) : unAt t (i + 2) (l ++ [UInt8.ofNat (16 * x + y).toNat]) := by
  unfold unAt at *
  rw [h, drop_two hi, unF, hx, hy, if_pos ⟨h1, h2⟩, Option.map_map]
  congr 1
  funext r
  simp

theorem unAt_no {t : List UInt8} {i : Nat} {l : List UInt8} (h : unAt t i l) (hi : i + 1 < t.length) {x y : Int} (hx : uv t[i] = x) (hy : uv t[i + 1] = y) (h1 : x < 0 ∨ y < 0) : unF t = none := by
  unfold unAt at h
  rw [h, drop_two hi, unF, hx, hy, if_neg (by omega)]
  rfl

theorem unAt_end {t : List UInt8} {i : Nat} {l : List UInt8} (h : unAt t i l) (hi : t.length ≤ i) : unF t = some l := by
  unfold unAt at h
  rw [h, List.drop_of_length_le hi]
  simp [unF]

/-- What Unhex answers. -/
def uhR (s : ByteArray) : Option (List UInt8) := if s.size ≤ 40000 ∧ s.size % 2 = 0 then unF s.data.toList else none

def uhOk (s : ByteArray) : Bool := (uhR s).isSome

def uhText (s : ByteArray) : ByteArray := ⟨((uhR s).getD []).toArray⟩

theorem ret_uh_none {r : Option (List UInt8)} (h : r = none) : Ending.returned (.tuple #[.string ⟨#[]⟩, .bool false]) = .returned (.tuple #[.string ⟨(r.getD []).toArray⟩, .bool r.isSome]) := by subst h; rfl

theorem ret_uh_some {r : Option (List UInt8)} {l : List UInt8} (h : r = some l) : Ending.returned (.tuple #[.string ⟨l.toArray⟩, .bool true]) = .returned (.tuple #[.string ⟨(r.getD []).toArray⟩, .bool r.isSome]) := by subst h; rfl

theorem byte_list {s : ByteArray} {i : Nat} {b : UInt8} (h : i < s.size) (hb : s[i] = b) : s.data.toList[i]'(by simpa using h) = b := by rw [← hb]; simp; rfl

theorem uhR_in {s : ByteArray} (h1 : s.size ≤ 40000) (h2 : s.size % 2 = 0) : uhR s = unF s.data.toList := by unfold uhR; rw [if_pos ⟨h1, h2⟩]

theorem uhR_out {s : ByteArray} (h : ¬ (s.size ≤ 40000 ∧ s.size % 2 = 0)) : uhR s = none := by unfold uhR; rw [if_neg h]
end Go.Proofs.YtcaakommnglnbaaGreatDoor

namespace Go.Proofs.YtcaakommnglnbaaGreatDoor
open Go.RowKit

theorem varF_form : ∀ (f n : Nat), n < 128 * 128 ^ f → ∃ p b, varF f n = p ++ [b] ∧ (∀ c ∈ p, 128 ≤ c.toNat) ∧ b.toNat < 128 ∧ dec (p ++ [b]) = n ∧ (b = 0 → p = []) ∧ ∀ j, n < 128 * 128 ^ j → p.length ≤ j
  | f, n, h => by
    by_cases hlt : 127 < n
    · match f, h with
      | 0, h => simp at h; omega
      | f + 1, h =>
        obtain ⟨p, b, h1, h2, h3, h4, h5, h6⟩ := varF_form f (n / 128) (pow_down h)
        have hc : (UInt8.ofNat (n % 128 + 128)).toNat = n % 128 + 128 := by simp; omega
        refine ⟨UInt8.ofNat (n % 128 + 128) :: p, b, by rw [varF_step hlt, h1]; rfl, ?_, h3, ?_, ?_, ?_⟩
        · intro c hcm
          rcases List.mem_cons.1 hcm with rfl | hcm
          · rw [hc]; omega
          · exact h2 c hcm
        · show (UInt8.ofNat (n % 128 + 128)).toNat % 128 + 128 * dec (p ++ [b]) = n
          rw [hc, h4]
          omega
        · intro hb
          have hp := h5 hb
          subst hp
          subst hb
          have : dec ([] ++ [(0 : UInt8)]) = 0 := rfl
          omega
        · intro j hj
          match j, hj with
          | 0, hj => simp at hj; omega
          | j + 1, hj =>
            have := h6 j (pow_down hj)
            simp
            omega
    · refine ⟨[], UInt8.ofNat n, varF_end hlt, by simp, by simp; omega, ?_, fun _ => rfl, fun j _ => by simp⟩
      simp [dec]
      omega

theorem drop_at {t r : List UInt8} {a k : Nat} (p : List UInt8) (c : UInt8) (h : t.drop a = p ++ c :: r) (hk : k = p.length) : ∃ h' : a + k < t.length, t[a + k] = c := by
  subst hk
  have hl := congrArg List.length h
  simp at hl
  have h1 : a + p.length < t.length := by omega
  refine ⟨h1, ?_⟩
  have h2 : (t.drop a)[p.length]? = some c := by rw [h]; simp
  rw [List.getElem?_drop, List.getElem?_eq_getElem h1] at h2
  exact Option.some.inj h2

theorem rvF_reads {t r : List UInt8} {a : Nat} {b : UInt8} : ∀ (q p : List UInt8) (f : Nat), t.drop a = p ++ (q ++ b :: r) → q.length < f → (∀ c ∈ q, 128 ≤ c.toNat) → b.toNat < 128 → dec (p ++ q ++ [b]) ≤ 1000000000 → (b = 0 → p ++ q = []) →
    rvF t a f p.length = some (dec (p ++ q ++ [b]), a + (p ++ q).length + 1)
  | [], p, f, h, hf, _, hb, hd, hz => by
    obtain ⟨f, rfl⟩ : ∃ g, f = g + 1 := ⟨f - 1, by simp at hf; omega⟩
    obtain ⟨h1, h2⟩ := drop_at p b (by simpa using h) rfl
    have h3 : (t.drop a).take (p.length + 1) = p ++ [b] := by rw [take_more h1, h2, h]; simp
    have h4 : rvF t a (f + 1) p.length = some (dec ((t.drop a).take (p.length + 1)), a + p.length + 1) := rvF_yes h1 (by rw [h2]; exact hb) (by
      rw [h3, h2]
      simp only [List.append_nil] at hd hz
      rintro (h5 | ⟨h5, h6⟩)
      · omega
      · have := hz h5; subst this; simp at h6)
    rw [h4, h3]
    simp
  | c :: q, p, f, h, hf, hq, hb, hd, hz => by
    obtain ⟨f, rfl⟩ : ∃ g, f = g + 1 := ⟨f - 1, by simp at hf; omega⟩
    obtain ⟨h1, h2⟩ := drop_at p c (by simpa using h) rfl
    rw [rvF_on h1 (by rw [h2]; exact hq c (by simp))]
    have := rvF_reads (t := t) (r := r) (a := a) (b := b) q (p ++ [c]) f (by rw [h]; simp) (by simp at hf; omega) (fun x hx => hq x (by simp [hx])) hb (by simpa using hd) (by simpa using hz)
    simpa using this

/-- A number is read back, whatever stands ahead of its bytes and behind them. -/
theorem rvF_varF {t r : List UInt8} {a n : Nat} (hn : n ≤ 1000000000) (h : t.drop a = varF 8 n ++ r) : rvF t a 5 0 = some (n, a + (varF 8 n).length) := by
  obtain ⟨p, b, h1, h2, h3, h4, h5, h6⟩ := varF_form 8 n (by omega)
  have hp := h6 4 (by omega)
  have := rvF_reads (t := t) (r := r) (a := a) (b := b) p [] 5 (by rw [h, h1]; simp) (by omega) h2 h3 (by simp only [List.nil_append]; omega) (by simpa using h5)
  simp only [List.nil_append, List.length_nil] at this
  rw [this, h4, h1]
  simp
  omega

theorem digF_app : ∀ (f n : Nat) (s : List UInt8), digF f n s = digF f n [] ++ s
  | 0, n, s => by simp [digF]
  | f + 1, n, s => by
    by_cases h : n = 0
    · subst h; rw [digF_zero, digF_zero]; rfl
    · rw [digF_on h, digF_on h, digF_app f _ (fig (n % 10) :: s), digF_app f _ [fig (n % 10)]]
      simp
theorem fig_isDig {d : Nat} (h : d < 10) : isDig (fig d) ∧ dOf (fig d) = d := by
  unfold isDig dOf
  rw [fig_lo h]
  omega
theorem digF_back : ∀ (f n : Nat), n < 10 ^ f → (∀ b ∈ digF f n [], isDig b) ∧ valF 0 (digF f n []) = n ∧ ∀ j, n < 10 ^ j → (digF f n []).length ≤ j
  | 0, n, h => by simp at h; subst h; simp [digF, valF]
  | f + 1, n, h => by
    by_cases h0 : n = 0
    · subst h0; rw [digF_zero]; simp [valF]
    · obtain ⟨h1, h2, h3⟩ := digF_back f (n / 10) (by rw [Nat.pow_succ] at h; omega)
      have hd := fig_isDig (d := n % 10) (by omega)
      rw [digF_on h0, digF_app]
      refine ⟨fun b hb => ?_, ?_, fun j hj => ?_⟩
      · rcases List.mem_append.1 hb with hb | hb
        · exact h1 b hb
        · simp at hb; subst hb; exact hd.1
      · rw [valF_snoc, h2, hd.2]; omega
      · match j, hj with
        | 0, hj => simp at hj; omega
        | j + 1, hj =>
          have := h3 j (by rw [Nat.pow_succ] at hj; omega)
          simp
          omega
/-- Decimal figures are read back. -/
theorem rdF_decOf {n : Nat} (hn : n ≤ 1000000000) : rdF 0 0 (decOf (n : Int)) = some n := by
  rw [← sdF_eq]
  by_cases h0 : n = 0
  · subst h0; decide
  · have hd : decOf (n : Int) = digF 20 n [] := by
      unfold decOf
      rw [if_neg (by omega), if_neg (by omega)]
      simp
    obtain ⟨h1, h2, h3⟩ := digF_back 20 n (by omega)
    rw [hd]
    unfold sdF
    rw [h2, if_pos ⟨h3 10 (by omega), h1, hn, hd⟩]

theorem uv_fig {d : Nat} (h : d < 16) : uv (fig d) = d := by
  have h1 : ∀ n : Fin 16, uv (fig n.val) = (n.val : Int) := by decide
  exact h1 ⟨d, h⟩
/-- Figures are read back. -/
theorem unF_figs : ∀ l : List UInt8, unF (figs l) = some l
  | [] => rfl
  | b :: l => by
    have hb := b.toNat_lt
    have e : figs (b :: l) = fig (b.toNat / 16) :: fig (b.toNat % 16) :: figs l := by simp [figs]
    rw [e, unF, uv_fig (by omega), uv_fig (by omega), if_pos ⟨by omega, by omega⟩, unF_figs l]
    have : UInt8.ofNat (16 * ((b.toNat / 16 : Nat) : Int) + ((b.toNat % 16 : Nat) : Int)).toNat = b := by
      rw [show (16 * ((b.toNat / 16 : Nat) : Int) + ((b.toNat % 16 : Nat) : Int)).toNat = b.toNat by omega]
      simp
    rw [this]
    rfl
end Go.Proofs.YtcaakommnglnbaaGreatDoor
