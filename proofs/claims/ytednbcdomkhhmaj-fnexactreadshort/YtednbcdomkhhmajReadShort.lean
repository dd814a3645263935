/- The walks over a text behind its length, read again. -/
import Derived.Test.YtednbcdomkhhmajReadSpec
import Derived.Test.YtednbcdomkhhmajShelf
namespace Go.Proofs.Ytednbcdomkhhmaj
open Go.RowKit

theorem rvF_bound {t : List UInt8} {a : Nat} : ∀ {f k n e : Nat}, rvF t a f k = some (n, e) → e ≤ t.length ∧ n ≤ 1000000000
  | 0, k, n, e, h => by simp [rvF] at h
  | f + 1, k, n, e, h => by
    by_cases hl : a + k < t.length
    · by_cases hb : t[a + k].toNat < 128
      · by_cases hn : 1000000000 < dec ((t.drop a).take (k + 1)) ∨ (t[a + k] = 0 ∧ 0 < k)
        · rw [rvF_no hl hb hn] at h; cases h
        · rw [rvF_yes hl hb hn] at h
          cases h
          omega
      · rw [rvF_on hl (by omega)] at h
        exact rvF_bound h
    · rw [rvF_end (.inl (by omega))] at h; cases h

theorem rv_bound (t : List UInt8) (a : Int) : rvE t a ≤ t.length ∧ rvN t a ≤ 1000000000 := by
  unfold rvE rvN
  cases h : rv t a with
  | none => simp
  | some p =>
    obtain ⟨n, e⟩ := p
    unfold rv at h
    split at h
    · simpa using rvF_bound h
    · cases h

/-- What ReadShort answers. -/
def rsOk (s : ByteArray) (a : Int) : Bool := rvOk s.data.toList a && decide (rvN s.data.toList a ≤ 20000) && decide (rvN s.data.toList a + rvE s.data.toList a ≤ s.size)
def rsText (s : ByteArray) (a : Int) : ByteArray := if rsOk s a = true then s.extract (rvE s.data.toList a) (rvE s.data.toList a + rvN s.data.toList a) else ⟨#[]⟩
def rsE (s : ByteArray) (a : Int) : Nat := if rsOk s a = true then rvE s.data.toList a + rvN s.data.toList a else 0

theorem rs_cases (s : ByteArray) (a : Int) : ∃ (n e : Nat) (b : Bool), rvN s.data.toList a = n ∧ rvE s.data.toList a = e ∧ rvOk s.data.toList a = b ∧ e ≤ s.size ∧ n ≤ 1000000000 ∧
    ((b = true ∧ n ≤ 20000 ∧ n + e ≤ s.size ∧ rsOk s a = true ∧ rsText s a = s.extract e (e + n) ∧ rsE s a = e + n) ∨
     ((b = false ∨ b = true ∧ (20000 < n ∨ n ≤ 20000 ∧ s.size < n + e)) ∧ rsOk s a = false ∧ rsText s a = ⟨#[]⟩ ∧ rsE s a = 0)) := by
  have hb := rv_bound s.data.toList a
  have hl : s.data.toList.length = s.size := by simp
  refine ⟨_, _, _, rfl, rfl, rfl, by omega, hb.2, ?_⟩
  cases h : rsOk s a with
  | true =>
    have h2 := h
    simp only [rsOk, Bool.and_eq_true, decide_eq_true_eq] at h2
    exact .inl ⟨h2.1.1, h2.1.2, h2.2, rfl, by simp [rsText, h], by simp [rsE, h]⟩
  | false =>
    refine .inr ⟨?_, rfl, by simp [rsText, h], by simp [rsE, h]⟩
    cases hb : rvOk s.data.toList a with
    | false => exact .inl rfl
    | true =>
      refine .inr ⟨rfl, ?_⟩
      have h2 : ¬ (rvN s.data.toList a ≤ 20000 ∧ rvN s.data.toList a + rvE s.data.toList a ≤ s.size) := fun hh => by simp [rsOk, hb, hh] at h
      omega

set_option maxHeartbeats 1000000 in
theorem specReadShort_any (s : ByteArray) (a : Int) (w : World) (hs : s.size ≤ 1048576) :
    Calls Try.prog 7 #[.string s, .int .i64 a] w fun e w' => e = .returned (.tuple #[.string (rsText s a), .int .i64 (rsE s a : Nat), .bool (rsOk s a)]) ∧ Below w.heap.size w w' := by
  obtain ⟨n, e, b, hn, he, hb, h1, h2, h3⟩ := rs_cases s a
  have c1 := specReadVar_any s a w hs
  rw [hn, he, hb] at c1
  clear hn he hb
  rcases h3 with ⟨rfl, g1, g2, g3, g4, g5⟩ | ⟨g1, g3, g4, g5⟩
  · rw [g3, g4, g5]
    clear g3 g4 g5
    have hsl := fun w => run_slice_string (P := Try.prog) (w := w) 9 s .i64 .i64 (e : Int) ((e : Int) + (n : Int)) Try.underlying9 (by omega) (by omega) (by omega)
    go_enter Try.func7, Try.ntmps7
    go_wp2_with (go_at_call 15; refine c1.mono ?_; rintro e w' ⟨rfl, hb⟩)
    go_ret3
    exact ⟨rfl, hb⟩
  · rw [g3, g4, g5]
    clear g3 g4 g5
    rcases g1 with rfl | ⟨rfl, g1 | ⟨g1, g2⟩⟩
    all_goals
      go_enter Try.func7, Try.ntmps7
      go_wp2_with (go_at_call 15; refine c1.mono ?_; rintro e w' ⟨rfl, hb⟩)
      go_ret3
      exact ⟨rfl, hb⟩

theorem clone_any (s : ByteArray) (w : World) (hs : s.size ≤ 281474976710656) :
    Calls Try.prog 17 #[.string s] w fun e w' => e = .returned (.string s) ∧ Below w.heap.size w w' := by
  go_enter Try.func17, Try.ntmps17
  go_wp2_with (go_at_call 24; refine (Try.stringslite_Clone s _ hs).mono ?_; rintro e w' ⟨rfl, hb⟩)
  go_ret
  exact ⟨rfl, hb⟩

set_option maxHeartbeats 1000000 in
theorem implReadShort_any (s : ByteArray) (a : Int) (w : World) (hs : s.size ≤ 1048576) :
    Calls Try.prog 8 #[.string s, .int .i64 a] w fun e w' => e = .returned (.tuple #[.string (rsText s a), .int .i64 (rsE s a : Nat), .bool (rsOk s a)]) ∧ Below w.heap.size w w' := by
  obtain ⟨n, e, b, hn, he, hb, h1, h2, h3⟩ := rs_cases s a
  have c1 := implReadVar_any s a w hs
  rw [hn, he, hb] at c1
  clear hn he hb
  rcases h3 with ⟨rfl, g1, g2, g3, g4, g5⟩ | ⟨g1, g3, g4, g5⟩
  · rw [g3, g4, g5]
    clear g3 g4 g5
    have hx : (s.extract e (e + n)).size ≤ 281474976710656 := by simp; omega
    have c2 := clone_any (s.extract e (e + n)) w hx
    clear hx
    have hsl := fun w => run_slice_string (P := Try.prog) (w := w) 9 s .i64 .i64 (e : Int) ((e : Int) + (n : Int)) Try.underlying9 (by omega) (by omega) (by omega)
    go_enter Try.func8, Try.ntmps8
    go_wp2_with (first | (go_at_call 16; refine c1.mono ?_; rintro e w' ⟨rfl, rfl⟩) | (go_at_call 17; refine c2.mono ?_; rintro e w2 ⟨rfl, hb2⟩))
    go_ret3
    exact ⟨rfl, hb2⟩
  · rw [g3, g4, g5]
    clear g3 g4 g5
    rcases g1 with rfl | ⟨rfl, g1 | ⟨g1, g2⟩⟩
    all_goals
      go_enter Try.func8, Try.ntmps8
      go_wp2_with (go_at_call 16; refine c1.mono ?_; rintro e w' ⟨rfl, rfl⟩)
      go_ret3
      exact ⟨rfl, Below.refl _ _⟩
end Go.Proofs.Ytednbcdomkhhmaj
