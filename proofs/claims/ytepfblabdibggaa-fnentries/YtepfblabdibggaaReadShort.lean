/- The walk over a text behind its length, read again: the other text. -/
import Derived.Test.YtepfblabdibggaaReadShortImpl
import Derived.Test.YtepfblabdibggaaReadSpec
namespace Go.Proofs.Ytepfblabdibggaa
open Go.RowKit

set_option maxHeartbeats 1000000 in
theorem specReadShort_any (s : ByteArray) (a : Int) (w : World) (hs : s.size ≤ 1048576) :
    Calls Try.prog 32 #[.string s, .int .i64 a] w fun e w' => e = .returned (.tuple #[.string (rsText s a), .int .i64 (rsE s a : Nat), .bool (rsOk s a)]) ∧ Below w.heap.size w w' := by
  obtain ⟨n, e, b, hn, he, hb, h1, h2, h3⟩ := rs_cases s a
  have c1 := specReadVar_any s a w hs
  rw [hn, he, hb] at c1
  clear hn he hb
  rcases h3 with ⟨rfl, g1, g2, g3, g4, g5⟩ | ⟨g1, g3, g4, g5⟩
  · rw [g3, g4, g5]
    clear g3 g4 g5
    have hsl := fun w => run_slice_string (P := Try.prog) (w := w) 9 s .i64 .i64 (e : Int) ((e : Int) + (n : Int)) Try.underlying9 (by omega) (by omega) (by omega)
    go_enter Try.func32, Try.ntmps32
    go_wp2_with (go_at_call 33; refine c1.mono ?_; rintro e w' ⟨rfl, hb⟩)
    go_ret3
    exact ⟨rfl, hb⟩
  · rw [g3, g4, g5]
    clear g3 g4 g5
    rcases g1 with rfl | ⟨rfl, g1 | ⟨g1, g2⟩⟩
    all_goals
      go_enter Try.func32, Try.ntmps32
      go_wp2_with (go_at_call 33; refine c1.mono ?_; rintro e w' ⟨rfl, hb⟩)
      go_ret3
      exact ⟨rfl, hb⟩
end Go.Proofs.Ytepfblabdibggaa
