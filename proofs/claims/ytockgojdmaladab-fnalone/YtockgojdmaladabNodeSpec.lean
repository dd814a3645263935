/- A node's word, and a word's node: the other text. -/
import Derived.Test.YtockgojdmaladabInts
import Derived.Test.YtockgojdmaladabListPlain
namespace Go.Proofs.Ytockgojdmaladab
open Go.RowKit Go.Sort

theorem l06Word_any (n : Int) (h : 0 ≤ n ∧ n ≤ 20) (w : World) :
    Calls Try.prog 106 #[.int .i64 n] w fun e w' => e = .returned (.int .i64 (wordC n)) ∧ w' = w := by
  unfold wordC
  by_cases h0 : n = 0
  · subst h0
    go_enter Try.func106, Try.ntmps106
    go_wp2
    go_ret
    exact ⟨rfl, rfl⟩
  · rw [if_neg h0]
    have h1 := h.1
    have h2 := h.2
    go_enter Try.func106, Try.ntmps106
    go_wp2
    go_ret
    exact ⟨rfl, rfl⟩

theorem l06Node_any (x : Int) (h : -9223372036854775808 ≤ x ∧ x ≤ 9223372036854775807) (w : World) :
    Calls Try.prog 104 #[.int .i64 x] w fun e w' => e = .returned (.int .i64 (nodeC x)) ∧ w' = w := by
  obtain ⟨q, hq, HQ⟩ : ∃ q : Int, x.tdiv 2 = q ∧ Hid ((if inN q 0 20 then q else 0) = nodeC x) := by
    refine ⟨_, rfl, ?_⟩
    show _ = _
    by_cases hx : 0 ≤ x
    · rw [Int.tdiv_eq_ediv_of_nonneg hx]
      unfold inN nodeC
      by_cases h0 : 0 ≤ x / 2 ∧ x / 2 ≤ 20
      · rw [decide_eq_true h0, if_pos rfl, if_pos h0]
      · rw [decide_eq_false h0, if_neg (by simp), if_neg h0]
    · have e0 : x.tdiv 2 = -((-x) / 2) := by
        have : x.tdiv 2 = -((-x).tdiv 2) := by rw [Int.neg_tdiv, Int.neg_neg]
        rw [this, Int.tdiv_eq_ediv_of_nonneg (by omega)]
      rw [e0]
      have hn : nodeC x = 0 := by unfold nodeC; rw [if_neg (by omega)]
      rw [hn]
      unfold inN
      by_cases h0 : 0 ≤ -((-x) / 2) ∧ -((-x) / 2) ≤ 20
      · rw [decide_eq_true h0, if_pos rfl]; omega
      · rw [decide_eq_false h0, if_neg (by simp)]
  have hq2 : -9223372036854775808 ≤ q ∧ q ≤ 9223372036854775807 := by
    rw [← hq]
    by_cases hx : 0 ≤ x
    · rw [Int.tdiv_eq_ediv_of_nonneg hx]; omega
    · have e0 : x.tdiv 2 = -((-x) / 2) := by
        have : x.tdiv 2 = -((-x).tdiv 2) := by rw [Int.neg_tdiv, Int.neg_neg]
        rw [this, Int.tdiv_eq_ediv_of_nonneg (by omega)]
      rw [e0]; omega
  have hq3 := hq2.1
  have hq4 := hq2.2
  have c1 := in_any q 0 20 w
  cases hi : inN q 0 20 with
  | true =>
    have HV : Hid (nodeC x = q) := by show _ = _; rw [← HQ.out, hi]; rfl
    rw [hi] at c1
    go_enter Try.func104, Try.ntmps104
    clear HQ
    go_wp2_with fail
    (try rw [hq])
    refine c1.mono ?_
    rintro e w1 ⟨rfl, rfl⟩
    go_wp2
    go_ret
    exact ⟨by rw [HV.out]; rfl, rfl⟩
  | false =>
    have HV : Hid (nodeC x = 0) := by show _ = _; rw [← HQ.out, hi]; rfl
    rw [hi] at c1
    go_enter Try.func104, Try.ntmps104
    clear HQ
    go_wp2_with fail
    (try rw [hq])
    refine c1.mono ?_
    rintro e w1 ⟨rfl, rfl⟩
    go_wp2
    go_ret
    exact ⟨by rw [HV.out]; rfl, rfl⟩

theorem word_nat {n : Int} (h : 0 ≤ n ∧ n ≤ 20) : ∃ j : Nat, wordC n = (j : Int) ∧ j < 63 := ⟨(wordC n).toNat, by have := wordC_bd h; omega, by have := wordC_bd h; omega⟩
end Go.Proofs.Ytockgojdmaladab
