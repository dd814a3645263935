/- The walk over a text behind its length, read again: the program's own text. -/
import Derived.Test.YtepfblabdibggaaReadVar
import Derived.Test.YtepfblabdibggaaShelf
namespace Go.Proofs.Ytepfblabdibggaa
open Go.RowKit

theorem cloneR_any (s : ByteArray) (w : World) (hs : s.size ≤ 281474976710656) :
    Calls Try.prog 29 #[.string s] w fun e w' => e = .returned (.string s) ∧ Below w.heap.size w w' := by
  go_enter Try.func29, Try.ntmps29
  go_wp2_with (go_at_call 48; refine (Try.stringslite_Clone s _ hs).mono ?_; rintro e w' ⟨rfl, hb⟩)
  go_ret
  exact ⟨rfl, hb⟩

set_option maxHeartbeats 1000000 in
theorem implReadShort_any (s : ByteArray) (a : Int) (w : World) (hs : s.size ≤ 1048576) :
    Calls Try.prog 27 #[.string s, .int .i64 a] w fun e w' => e = .returned (.tuple #[.string (rsText s a), .int .i64 (rsE s a : Nat), .bool (rsOk s a)]) ∧ Below w.heap.size w w' := by
  obtain ⟨n, e, b, hn, he, hb, h1, h2, h3⟩ := rs_cases s a
  have c1 := implReadVar_any s a w hs
  rw [hn, he, hb] at c1
  clear hn he hb
  rcases h3 with ⟨rfl, g1, g2, g3, g4, g5⟩ | ⟨g1, g3, g4, g5⟩
  · rw [g3, g4, g5]
    clear g3 g4 g5
    have hx : (s.extract e (e + n)).size ≤ 281474976710656 := by simp; omega
    have c2 := cloneR_any (s.extract e (e + n)) w hx
    clear hx
    have hsl := fun w => run_slice_string (P := Try.prog) (w := w) 9 s .i64 .i64 (e : Int) ((e : Int) + (n : Int)) Try.underlying9 (by omega) (by omega) (by omega)
    go_enter Try.func27, Try.ntmps27
    go_wp2_with (first | (go_at_call 28; refine c1.mono ?_; rintro e w' ⟨rfl, rfl⟩) | (go_at_call 29; refine c2.mono ?_; rintro e w2 ⟨rfl, hb2⟩))
    go_ret3
    exact ⟨rfl, hb2⟩
  · rw [g3, g4, g5]
    clear g3 g4 g5
    rcases g1 with rfl | ⟨rfl, g1 | ⟨g1, g2⟩⟩
    all_goals
      go_enter Try.func27, Try.ntmps27
      go_wp2_with (go_at_call 28; refine c1.mono ?_; rintro e w' ⟨rfl, rfl⟩)
      go_ret3
      exact ⟨rfl, Below.refl _ _⟩
end Go.Proofs.Ytepfblabdibggaa
