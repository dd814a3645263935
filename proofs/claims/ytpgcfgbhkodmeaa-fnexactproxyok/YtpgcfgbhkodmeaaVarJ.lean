/- Texts that stand in one: Var, EntOk. -/
import Derived.Test.YtpgcfgbhkodmeaaRowedJ
import Derived.Test.YtpgcfgbhkodmeaaPolMark2J
import Derived.Test.YtpgcfgbhkodmeaaEntPlainJ
namespace Go.Proofs.Ytpgcfgbhkodmeaa
open Go.RowKit

theorem l01In_any (x a b : Int) (w : World) :
    Calls Try.prog 44 #[.int .i64 x, .int .i64 a, .int .i64 b] w fun e w' => e = .returned (.bool (inB x a b)) ∧ w = w' := by
  by_cases h1 : a ≤ x
  · by_cases h2 : x ≤ b
    · rw [inB_yes h1 h2]
      go_enter Try.func44, Try.ntmps44
      go_wp2
      go_ret
      exact ⟨rfl, rfl⟩
    · rw [inB_no (by omega)]
      have h3 : decide (x ≤ b) = false := by simpa using h2
      go_enter Try.func44, Try.ntmps44
      go_wp2
      go_ret
      exact ⟨rfl, rfl⟩
  · rw [inB_no (by omega)]
    have h3 : decide (a ≤ x) = false := by simpa using h1
    go_enter Try.func44, Try.ntmps44
    go_wp2
    go_ret
    exact ⟨rfl, rfl⟩
end Go.Proofs.Ytpgcfgbhkodmeaa

namespace Go.Proofs.Ytpgcfgbhkodmeaa
open Go.RowKit

theorem enKey_bytes {s : ByteArray} (h : 1 ≤ s.size) : s.toList.isEmpty = false := not_emptyE h
set_option maxHeartbeats 1000000 in
theorem keyE_any (w : World) (s : ByteArray) (hs : s.size ≤ 1099511627776) :
    Calls Try.prog 80 #[.string s] w fun e w' => e = .returned (.bool (enKey s)) ∧ w = w' := by
  by_cases h : 1 ≤ s.size
  · have h1 := enKey_bytes h
    have HK : Hid (enKey s = decide ((s.size : Int) ≤ 30)) := by
      show _ = _
      unfold enKey
      by_cases h' : s.size ≤ 30
      · rw [decide_eq_true (⟨h, h'⟩ : 1 ≤ s.size ∧ s.size ≤ 30), decide_eq_true (by omega)]
      · rw [decide_eq_false (by omega), decide_eq_false (by omega)]
    clear h
    go_enter Try.func80, Try.ntmps80
    go_wp2
    go_ret
    exact ⟨by rw [HK.out]; rfl, rfl⟩
  · have h0 : s = ⟨#[]⟩ := size_zeroE (by omega)
    subst h0
    go_enter Try.func80, Try.ntmps80
    go_wp2
    go_ret
    exact ⟨rfl, rfl⟩
theorem numE_any (n : Int) (w : World) :
    Calls Try.prog 48 #[.int .i64 n] w fun e w' => e = .returned (.bool (inB n 0 1000000000)) ∧ w = w' := by
  by_cases h1 : 0 ≤ n
  · have d1 : decide ((0 : Int) ≤ n) = true := decide_eq_true h1
    by_cases h2 : n ≤ 1000000000
    · rw [inB_yes h1 h2]
      have d2 : decide (n ≤ 1000000000) = true := decide_eq_true h2
      go_enter Try.func48, Try.ntmps48
      go_wp2
      go_ret
      exact ⟨rfl, rfl⟩
    · rw [inB_no (by omega)]
      have d2 : decide (n ≤ 1000000000) = false := decide_eq_false h2
      go_enter Try.func48, Try.ntmps48
      go_wp2
      go_ret
      exact ⟨rfl, rfl⟩
  · rw [inB_no (by omega)]
    have d1 : decide ((0 : Int) ≤ n) = false := decide_eq_false h1
    go_enter Try.func48, Try.ntmps48
    go_wp2
    go_ret
    exact ⟨rfl, rfl⟩
theorem lifeE_any (x : Int) (w : World) :
    Calls Try.prog 85 #[.int .i64 x] w fun e w' => e = .returned (.bool (inB x 0 999999)) ∧ w = w' := by
  by_cases h1 : 0 ≤ x
  · have d1 : decide ((0 : Int) ≤ x) = true := decide_eq_true h1
    by_cases h2 : x ≤ 999999
    · rw [inB_yes h1 h2]
      have h3 : decide (x ≤ 999999) = true := decide_eq_true h2
      go_enter Try.func85, Try.ntmps85
      go_wp2
      go_ret
      exact ⟨rfl, rfl⟩
    · rw [inB_no (by omega)]
      have h3 : decide (x ≤ 999999) = false := decide_eq_false h2
      go_enter Try.func85, Try.ntmps85
      go_wp2
      go_ret
      exact ⟨rfl, rfl⟩
  · rw [inB_no (by omega)]
    have h3 : decide (0 ≤ x) = false := decide_eq_false h1
    go_enter Try.func85, Try.ntmps85
    go_wp2
    go_ret
    exact ⟨rfl, rfl⟩
set_option maxHeartbeats 2000000 in
theorem implEntryOk_any (w : World) (k b : ByteArray) (s l : Int) (hk : k.size ≤ 1099511627776) (hb : b.size ≤ 1099511627776) :
    Calls Try.prog 82 #[.agg #[.string k, .int .i64 s, .int .i64 l, .string b]] w fun e w' => e = .returned (.bool (enOk ⟨k, s, l, b⟩)) ∧ Below w.heap.size w w' := by
  unfold enOk
  dsimp only
  have hbel := (Below.refl w.heap.size w).alloc (Nat.le_refl _) (.cells #[.string k, .int .i64 s, .int .i64 l, .string b] 81)
  have c1 := fun w => keyE_any w k hk
  have c2 := fun w => numE_any s w
  have c3 := fun w => lifeE_any l w
  have e3 : (decide (0 < l) && inB l 0 999999) = inB l 1 999999 := by
    unfold inB
    by_cases h : 0 < l
    · rw [decide_eq_true h, decide_eq_true (show (0 : Int) ≤ l by omega), decide_eq_true (show (1 : Int) ≤ l by omega)]; rfl
    · rw [decide_eq_false h, decide_eq_false (show ¬ (1 : Int) ≤ l by omega)]; rfl
  rw [← e3]
  clear e3 hk
  generalize enKey k = x1 at c1 ⊢
  generalize inB s 0 1000000000 = x2 at c2 ⊢
  generalize inB l 0 999999 = x3 at c3 ⊢
  have e4 : decide (b.size ≤ 400) = decide ((b.size : Int) ≤ 400) := decide_eq_decide.2 (by omega)
  rw [e4]
  cases x1
  case false =>
    go_enter Try.func82, Try.ntmps82
    go_wp2_with (go_at_call 80; refine (c1 _).mono ?_; rintro e w' ⟨rfl, rfl⟩)
    go_ret
    exact ⟨rfl, hbel⟩
  cases x2
  case false =>
    go_enter Try.func82, Try.ntmps82
    go_wp2_with (first | (go_at_call 80; refine (c1 _).mono ?_; rintro e w' ⟨rfl, rfl⟩) | (go_at_call 48; refine (c2 _).mono ?_; rintro e w' ⟨rfl, rfl⟩))
    go_ret
    exact ⟨rfl, hbel⟩
  by_cases hl : 0 < l
  case neg =>
    rw [decide_eq_false hl]
    have hl' : decide (0 < l) = false := decide_eq_false hl
    go_enter Try.func82, Try.ntmps82
    go_wp2_with (first | (go_at_call 80; refine (c1 _).mono ?_; rintro e w' ⟨rfl, rfl⟩) | (go_at_call 48; refine (c2 _).mono ?_; rintro e w' ⟨rfl, rfl⟩))
    go_ret
    exact ⟨rfl, hbel⟩
  rw [decide_eq_true hl]
  have hl' : decide (0 < l) = true := decide_eq_true hl
  cases x3
  all_goals
    go_enter Try.func82, Try.ntmps82
    go_wp2_with (first | (go_at_call 80; refine (c1 _).mono ?_; rintro e w' ⟨rfl, rfl⟩) | (go_at_call 48; refine (c2 _).mono ?_; rintro e w' ⟨rfl, rfl⟩) | (go_at_call 85; refine (c3 _).mono ?_; rintro e w' ⟨rfl, rfl⟩))
    go_ret
    exact ⟨rfl, hbel⟩
theorem l13KeyE_any (w : World) (s : ByteArray) :
    Calls Try.prog 47 #[.string s] w fun e w' => e = .returned (.bool (enKey s)) ∧ w = w' := by
  have c := l01In_any (s.size : Int) 1 30 w
  have e : inB (s.size : Int) 1 30 = enKey s := by
    unfold inB enKey
    by_cases h1 : 1 ≤ s.size
    · by_cases h2 : s.size ≤ 30
      · rw [decide_eq_true (show 1 ≤ s.size ∧ s.size ≤ 30 from ⟨h1, h2⟩), decide_eq_true (show (1 : Int) ≤ s.size by omega), decide_eq_true (show (s.size : Int) ≤ 30 by omega)]; rfl
      · rw [decide_eq_false (show ¬ (1 ≤ s.size ∧ s.size ≤ 30) by omega), decide_eq_false (show ¬ (s.size : Int) ≤ 30 by omega)]; simp
    · rw [decide_eq_false (show ¬ (1 ≤ s.size ∧ s.size ≤ 30) by omega), decide_eq_false (show ¬ (1 : Int) ≤ s.size by omega)]; rfl
  rw [e] at c
  clear e
  go_enter Try.func47, Try.ntmps47
  go_wp2_with (go_at_call 44; refine c.mono ?_; rintro e w' ⟨rfl, rfl⟩)
  go_ret
  exact ⟨rfl, rfl⟩
set_option maxHeartbeats 2000000 in
theorem specEntryOk_any (w : World) (k b : ByteArray) (s l : Int) :
    Calls Try.prog 75 #[.agg #[.string k, .int .i64 s, .int .i64 l, .string b]] w fun e w' => e = .returned (.bool (enOk ⟨k, s, l, b⟩)) ∧ Below w.heap.size w w' := by
  unfold enOk
  dsimp only
  have hbel := (Below.refl w.heap.size w).alloc (Nat.le_refl _) (.cells #[.string k, .int .i64 s, .int .i64 l, .string b] 81)
  have c1 := fun w => l13KeyE_any w k
  have c2 := fun w => l01In_any s 0 1000000000 w
  have c3 := fun w => l01In_any l 1 999999 w
  generalize enKey k = x1 at c1 ⊢
  generalize inB s 0 1000000000 = x2 at c2 ⊢
  generalize inB l 1 999999 = x3 at c3 ⊢
  have e4 : decide (b.size ≤ 400) = decide ((b.size : Int) ≤ 400) := decide_eq_decide.2 (by omega)
  rw [e4]
  cases x1 <;> cases x2 <;> cases x3
  all_goals
    go_enter Try.func75, Try.ntmps75
    go_wp2_with (first | (go_at_call 47; refine (c1 _).mono ?_; rintro e w' ⟨rfl, rfl⟩) | (go_at_call 44; first | (with_reducible refine (c2 _).mono ?_; rintro e w' ⟨rfl, rfl⟩) | (with_reducible refine (c3 _).mono ?_; rintro e w' ⟨rfl, rfl⟩)))
    go_ret
    exact ⟨rfl, hbel⟩
end Go.Proofs.Ytpgcfgbhkodmeaa
