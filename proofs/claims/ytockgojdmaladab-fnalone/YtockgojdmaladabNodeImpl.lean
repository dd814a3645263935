/- A node's word, and a word's node: the program's. -/
import Derived.Test.YtockgojdmaladabInts
import Derived.Test.YtockgojdmaladabListPlain
import Derived.Laws.BitsLemmas
namespace Go.Proofs.Ytockgojdmaladab
open Go.RowKit Go.Sort

theorem i64_and1 (n : Int) : bits .and .i64 n 1 = n % 2 := by
  have h1 : (BitVec.ofInt 64 1).toNat = 2 ^ 1 - 1 := by decide
  have key : (BitVec.ofInt 64 n &&& BitVec.ofInt 64 1).toNat = (n % ((2 ^ 64 : Nat) : Int)).toNat % 2 ^ 1 := by
    rw [BitVec.toNat_and, BitVec.toNat_ofInt, h1, Nat.and_two_pow_sub_one_eq_mod]
  show IntKind.i64.wrap ((BitVec.ofInt 64 n &&& BitVec.ofInt 64 1).toNat : Nat) = n % 2
  rw [key, IntKind.wrap_i64]
  omega

theorem wordCell_any (n : Int) (h : 0 ≤ n ∧ n ≤ 20) (w : World) :
    Calls Try.prog 101 #[.int .i64 n] w fun e w' => e = .returned (.int .i64 (wordC n)) ∧ w' = w := by
  unfold wordC
  by_cases h0 : n = 0
  · subst h0
    go_enter Try.func101, Try.ntmps101
    go_wp2
    go_ret
    exact ⟨rfl, rfl⟩
  · rw [if_neg h0]
    have h1 := h.1
    have h2 := h.2
    go_enter Try.func101, Try.ntmps101
    go_wp2
    go_ret
    exact ⟨rfl, rfl⟩
theorem keyCell_any (n : Int) (h : 0 ≤ n ∧ n ≤ 20) (w : World) :
    Calls Try.prog 67 #[.int .i64 n] w fun e w' => e = .returned (.int .i64 (3 * n)) ∧ w' = w := by
  have h1 := h.1
  have h2 := h.2
  go_enter Try.func67, Try.ntmps67
  go_wp2
  go_ret
  exact ⟨rfl, rfl⟩
theorem valueCell_any (n : Int) (h : 0 ≤ n ∧ n ≤ 20) (w : World) :
    Calls Try.prog 68 #[.int .i64 n] w fun e w' => e = .returned (.int .i64 (3 * n + 1)) ∧ w' = w := by
  have h1 := h.1
  have h2 := h.2
  go_enter Try.func68, Try.ntmps68
  go_wp2
  go_ret
  exact ⟨rfl, rfl⟩
theorem wordTo_any (n : Int) (h : 0 ≤ n ∧ n ≤ 20) (w : World) :
    Calls Try.prog 124 #[.int .i64 n] w fun e w' => e = .returned (.int .i64 (2 * n)) ∧ w' = w := by
  have h1 := h.1
  have h2 := h.2
  go_enter Try.func124, Try.ntmps124
  go_wp2
  go_ret
  exact ⟨rfl, rfl⟩
theorem markOf_any (x : Int) (w : World) :
    Calls Try.prog 102 #[.int .i64 x] w fun e w' => e = .returned (.int .i64 (x % 2)) ∧ w' = w := by
  have h1 := i64_and1 x
  go_enter Try.func102, Try.ntmps102
  go_wp2
  go_ret
  exact ⟨rfl, rfl⟩
theorem nodeOrNone_any (n : Int) (w : World) :
    Calls Try.prog 72 #[.int .i64 n] w fun e w' => e = .returned (.bool (btw n 0 20)) ∧ w' = w := by
  unfold btw
  by_cases h1 : 0 ≤ n
  · have d1 : decide ((0 : Int) ≤ n) = true := decide_eq_true h1
    by_cases h2 : n ≤ 20
    · rw [decide_eq_true (show 0 ≤ n ∧ n ≤ 20 from ⟨h1, h2⟩)]
      have d2 : decide (n ≤ 20) = true := decide_eq_true h2
      go_enter Try.func72, Try.ntmps72
      go_wp2
      go_ret
      exact ⟨rfl, rfl⟩
    · rw [decide_eq_false (show ¬ (0 ≤ n ∧ n ≤ 20) by omega)]
      have d2 : decide (n ≤ 20) = false := decide_eq_false h2
      go_enter Try.func72, Try.ntmps72
      go_wp2
      go_ret
      exact ⟨rfl, rfl⟩
  · rw [decide_eq_false (show ¬ (0 ≤ n ∧ n ≤ 20) by omega)]
    have d1 : decide ((0 : Int) ≤ n) = false := decide_eq_false h1
    go_enter Try.func72, Try.ntmps72
    go_wp2
    go_ret
    exact ⟨rfl, rfl⟩
theorem nodeOf_any (x : Int) (h : -9223372036854775808 ≤ x ∧ x ≤ 9223372036854775807) (w : World) :
    Calls Try.prog 100 #[.int .i64 x] w fun e w' => e = .returned (.int .i64 (nodeC x)) ∧ w' = w := by
  obtain ⟨q, hq, HQ⟩ : ∃ q : Int, x.tdiv 2 = q ∧ Hid ((if btw q 0 20 then q else 0) = nodeC x) := by
    refine ⟨_, rfl, ?_⟩
    show _ = _
    by_cases hx : 0 ≤ x
    · rw [Int.tdiv_eq_ediv_of_nonneg hx]
      unfold btw nodeC
      by_cases h0 : 0 ≤ x / 2 ∧ x / 2 ≤ 20
      · rw [decide_eq_true h0, if_pos rfl, if_pos h0]
      · rw [decide_eq_false h0, if_neg (by simp), if_neg h0]
    · have e0 : x.tdiv 2 = -((-x) / 2) := by
        have : x.tdiv 2 = -((-x).tdiv 2) := by rw [Int.neg_tdiv, Int.neg_neg]
        rw [this, Int.tdiv_eq_ediv_of_nonneg (by omega)]
      rw [e0]
      have hn : nodeC x = 0 := by unfold nodeC; rw [if_neg (by omega)]
      rw [hn]
      unfold btw
      by_cases h0 : 0 ≤ -((-x) / 2) ∧ -((-x) / 2) ≤ 20
      · rw [decide_eq_true h0, if_pos rfl]; omega
      · rw [decide_eq_false h0, if_neg (by simp)]
  have hq2 : -9223372036854775808 ≤ q ∧ q ≤ 9223372036854775807 := by
    rw [← hq]
    by_cases hx : 0 ≤ x
    · rw [Int.tdiv_eq_ediv_of_nonneg hx]; omega
    · have e0 : x.tdiv 2 = -((-x) / 2) := by
        have : x.tdiv 2 = -((-x).tdiv 2) := by rw [Int.neg_tdiv, Int.neg_neg]
        rw [this, Int.tdiv_eq_ediv_of_nonneg (by omega)]
      rw [e0]; omega
  have hq3 := hq2.1
  have hq4 := hq2.2
  have c1 := nodeOrNone_any q w
  cases hi : btw q 0 20 with
  | true =>
    have HV : Hid (nodeC x = q) := by show _ = _; rw [← HQ.out, hi]; rfl
    rw [hi] at c1
    go_enter Try.func100, Try.ntmps100
    clear HQ
    go_wp2_with fail
    (try rw [hq])
    refine c1.mono ?_
    rintro e w1 ⟨rfl, rfl⟩
    go_wp2
    go_ret
    exact ⟨by rw [HV.out]; rfl, rfl⟩
  | false =>
    have HV : Hid (nodeC x = 0) := by show _ = _; rw [← HQ.out, hi]; rfl
    rw [hi] at c1
    go_enter Try.func100, Try.ntmps100
    clear HQ
    go_wp2_with fail
    (try rw [hq])
    refine c1.mono ?_
    rintro e w1 ⟨rfl, rfl⟩
    go_wp2
    go_ret
    exact ⟨by rw [HV.out]; rfl, rfl⟩
end Go.Proofs.Ytockgojdmaladab
