/- Check sums, told plainly: a step of one bit, four of them as a look into a table, and what a turned byte does. No program. -/
import Derived.WalkKit
import Derived.Laws.BitsAllLaws
namespace Go.Proofs.YtepfblabdibggabDoor
open Go.RowKit

/-- What one step makes of a sum. -/
def sumBit (n : Nat) : Nat := if n % 2 = 1 then n / 2 ^^^ 3558460437 else n / 2
def sumTab : List Nat := [0, 1166650509, 2333301018, 3466261911, 3189058079, 4221339282, 889615109, 1888477064, 3558460437, 2442158232, 1594529039, 444807554, 1779230218, 797264519, 3776954128, 2761298845]
/-- Four steps, by the table. -/
def sumLook (n : Nat) : Nat := n / 16 ^^^ sumTab.getD (n % 16) 0
/-- What a byte makes of a sum. -/
def sumByte (s b : Nat) : Nat := sumLook (sumLook (s ^^^ b))
def sumAll (s : Nat) (l : List UInt8) : Nat := l.foldl (fun s b => sumByte s b.toNat) s

theorem xor_two (a b : Nat) : (a ^^^ b) % 2 = (a + b) % 2 := by
  have h := Nat.xor_mod_two_pow (a := a) (b := b) (n := 1)
  rw [Nat.pow_one] at h
  rw [h]
  rcases Nat.mod_two_eq_zero_or_one a with ha | ha <;> rcases Nat.mod_two_eq_zero_or_one b with hb | hb <;> rw [ha, hb] <;> simp <;> omega
theorem xor_inj_right {s a b : Nat} (h : a ^^^ s = b ^^^ s) : a = b := by
  have := congrArg (· ^^^ s) h
  simpa [Nat.xor_assoc, Nat.xor_self] using this
theorem xor_inj_left {s a b : Nat} (h : s ^^^ a = s ^^^ b) : a = b := by
  rw [Nat.xor_comm s a, Nat.xor_comm s b] at h
  exact xor_inj_right h

theorem sumBit_xor (a b : Nat) : sumBit (a ^^^ b) = sumBit a ^^^ sumBit b := by
  have h := xor_two a b
  unfold sumBit
  rw [h, Nat.xor_div_two]
  rcases Nat.mod_two_eq_zero_or_one a with ha | ha <;> rcases Nat.mod_two_eq_zero_or_one b with hb | hb
  · rw [if_neg (by omega), if_neg (by omega), if_neg (by omega)]
  · rw [if_pos (by omega), if_neg (by omega), if_pos (by omega), Nat.xor_assoc]
  · rw [if_pos (by omega), if_pos (by omega), if_neg (by omega), Nat.xor_assoc, Nat.xor_assoc, Nat.xor_comm (b / 2)]
  · rw [if_neg (by omega), if_pos (by omega), if_pos (by omega)]
    rw [Nat.xor_assoc, Nat.xor_comm 3558460437 (b / 2 ^^^ 3558460437), Nat.xor_assoc (b / 2), Nat.xor_self, Nat.xor_zero]

theorem sumBit_twice (m : Nat) : sumBit (2 * m) = m := by
  unfold sumBit
  rw [if_neg (by omega)]
  omega

theorem split16 (n : Nat) : n = 2 * (2 * (2 * (2 * (n / 16)))) ^^^ n % 16 := by
  have h : n = 2 ^ 4 * (n / 16) + n % 16 := by omega
  have hlt : n % 16 < 2 ^ 4 := by omega
  have e : 2 * (2 * (2 * (2 * (n / 16)))) = 2 ^ 4 * (n / 16) := by omega
  rw [e]
  refine Nat.eq_of_testBit_eq fun j => ?_
  rw [Nat.testBit_xor]
  conv => lhs; rw [h]
  rw [Nat.testBit_two_pow_mul_add _ hlt, Nat.testBit_two_pow_mul]
  by_cases hj : j < 4
  · rw [if_pos hj]
    simp [show ¬ 4 ≤ j by omega]
  · rw [if_neg hj]
    have : (n % 16).testBit j = false := Nat.testBit_lt_two_pow (Nat.lt_of_lt_of_le hlt (Nat.pow_le_pow_right (by omega) (by omega)))
    simp [this, show 4 ≤ j by omega]

theorem sumBit_small (k : Nat) (h : k < 16) : sumBit (sumBit (sumBit (sumBit k))) = sumTab.getD k 0 := by
  have : ∀ k : Fin 16, sumBit (sumBit (sumBit (sumBit k.val))) = sumTab.getD k.val 0 := by decide +kernel
  exact this ⟨k, h⟩

/-- Four steps are one look. -/
theorem sumBit_four (n : Nat) : sumBit (sumBit (sumBit (sumBit n))) = sumLook n := by
  conv => lhs; rw [split16 n]
  rw [sumBit_xor, sumBit_xor, sumBit_xor, sumBit_xor, sumBit_twice, sumBit_twice, sumBit_twice, sumBit_twice, sumBit_small _ (by omega)]
  rfl

def sumBits : Nat → Nat → Nat
  | 0, n => n
  | k + 1, n => sumBits k (sumBit n)
theorem sumBits_eight (n : Nat) : sumBits 8 n = sumLook (sumLook n) := by
  rw [← sumBit_four n, ← sumBit_four]
  rfl

theorem tab_lt (k : Nat) : sumTab.getD k 0 < 4294967296 := by
  by_cases h : k < 16
  · have : ∀ k : Fin 16, sumTab.getD k.val 0 < 4294967296 := by decide +kernel
    exact this ⟨k, h⟩
  · rw [List.getD_eq_getElem?_getD, List.getElem?_eq_none (by simp [sumTab]; omega)]
    decide

theorem sumBit_lt {n : Nat} (h : n < 4294967296) : sumBit n < 4294967296 := by
  unfold sumBit
  split
  · exact Nat.xor_lt_two_pow (n := 32) (by omega) (by omega)
  · omega
theorem sumLook_lt {n : Nat} (h : n < 4294967296) : sumLook n < 4294967296 :=
  Nat.xor_lt_two_pow (n := 32) (by omega) (tab_lt _)
theorem xor_lt32 {a b : Nat} (ha : a < 4294967296) (hb : b < 4294967296) : a ^^^ b < 4294967296 := Nat.xor_lt_two_pow (n := 32) ha hb
theorem sumByte_lt {s b : Nat} (hs : s < 4294967296) (hb : b < 256) : sumByte s b < 4294967296 :=
  sumLook_lt (sumLook_lt (xor_lt32 hs (by omega)))
theorem sumAll_lt {s : Nat} {l : List UInt8} (hs : s < 4294967296) : sumAll s l < 4294967296 := by
  induction l generalizing s with
  | nil => exact hs
  | cons b l ih => exact ih (sumByte_lt hs b.toNat_lt)

theorem sumAll_append (s : Nat) (l m : List UInt8) : sumAll s (l ++ m) = sumAll (sumAll s l) m := by simp [sumAll]
theorem sumAll_snoc (s : Nat) (l : List UInt8) (b : UInt8) : sumAll s (l ++ [b]) = sumByte (sumAll s l) b.toNat := by simp [sumAll]

/-! A look loses nothing. -/
theorem tab_top (j k : Nat) (hj : j < 16) (hk : k < 16) (h : sumTab.getD j 0 / 2 ^ 28 = sumTab.getD k 0 / 2 ^ 28) : j = k := by
  have : ∀ j k : Fin 16, sumTab.getD j.val 0 / 2 ^ 28 = sumTab.getD k.val 0 / 2 ^ 28 → j.val = k.val := by decide +kernel
  exact this ⟨j, hj⟩ ⟨k, hk⟩ h

theorem xor_top {a b : Nat} (ha : a < 2 ^ 28) : (a ^^^ b) / 2 ^ 28 = b / 2 ^ 28 := by
  rw [← Nat.shiftRight_eq_div_pow, Nat.shiftRight_xor_distrib, Nat.shiftRight_eq_div_pow, Nat.shiftRight_eq_div_pow, Nat.div_eq_of_lt ha, Nat.zero_xor]

theorem sumLook_inj {a b : Nat} (ha : a < 4294967296) (hb : b < 4294967296) (h : sumLook a = sumLook b) : a = b := by
  have h0 := congrArg (· / 2 ^ 28) h
  simp only [sumLook] at h0
  rw [xor_top (by omega), xor_top (by omega)] at h0
  have hm := tab_top _ _ (by omega) (by omega) h0
  simp only [sumLook] at h
  rw [hm] at h
  have := xor_inj_right h
  omega


theorem sumByte_inj_byte {s a b : Nat} (hs : s < 4294967296) (ha : a < 256) (hb : b < 256) (h : sumByte s a = sumByte s b) : a = b := by
  have h1 : s ^^^ a < 4294967296 := xor_lt32 hs (by omega)
  have h2 : s ^^^ b < 4294967296 := xor_lt32 hs (by omega)
  exact xor_inj_left (sumLook_inj h1 h2 (sumLook_inj (sumLook_lt h1) (sumLook_lt h2) h))
theorem sumByte_inj_sum {s t b : Nat} (hs : s < 4294967296) (ht : t < 4294967296) (hb : b < 256) (h : sumByte s b = sumByte t b) : s = t := by
  have h1 : s ^^^ b < 4294967296 := xor_lt32 hs (by omega)
  have h2 : t ^^^ b < 4294967296 := xor_lt32 ht (by omega)
  exact xor_inj_right (sumLook_inj h1 h2 (sumLook_inj (sumLook_lt h1) (sumLook_lt h2) h))
theorem sumAll_inj {s t : Nat} (l : List UInt8) (hs : s < 4294967296) (ht : t < 4294967296) (h : sumAll s l = sumAll t l) : s = t := by
  induction l generalizing s t with
  | nil => exact h
  | cons b l ih => exact sumByte_inj_sum hs ht b.toNat_lt (ih (sumByte_lt hs b.toNat_lt) (sumByte_lt ht b.toNat_lt) h)

/-- A text with one byte turned has another sum. -/
theorem sumAll_turned {s : Nat} (l m : List UInt8) (b c : UInt8) (hs : s < 4294967296) (h : sumAll s (l ++ b :: m) = sumAll s (l ++ c :: m)) : b = c := by
  rw [sumAll_append, sumAll_append] at h
  have h0 := sumAll_lt (l := l) hs
  have h1 := sumAll_inj m (sumByte_lt h0 b.toNat_lt) (sumByte_lt h0 c.toNat_lt) h
  exact UInt8.toNat_inj.1 (sumByte_inj_byte h0 b.toNat_lt c.toNat_lt h1)

/-! A sum as four bytes. -/
def four (n : Nat) : List UInt8 := [UInt8.ofNat (n / 16777216), UInt8.ofNat (n / 65536), UInt8.ofNat (n / 256), UInt8.ofNat n]
theorem four_length (n : Nat) : (four n).length = 4 := rfl
theorem four_inj {a b : Nat} (ha : a < 4294967296) (hb : b < 4294967296) (h : four a = four b) : a = b := by
  simp only [four, List.cons.injEq, and_true] at h
  obtain ⟨h1, h2, h3, h4⟩ := h
  have e1 := congrArg UInt8.toNat h1
  have e2 := congrArg UInt8.toNat h2
  have e3 := congrArg UInt8.toNat h3
  have e4 := congrArg UInt8.toNat h4
  simp only [UInt8.toNat_ofNat'] at e1 e2 e3 e4
  omega

end Go.Proofs.YtepfblabdibggabDoor
