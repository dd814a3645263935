/- The program's FieldOf. -/
import Derived.Test.YtlefccgdeafinadFieldOfPlain
import Derived.Test.YtlefccgdeafinadShelf
namespace Go.Proofs.Ytlefccgdeafinad
open Go.RowKit Go.Sort
theorem cloneH_any (s : ByteArray) (w : World) (hs : s.size ≤ 281474976710656) :
    Calls Try.prog 17 #[.string s] w fun e w' => e = .returned (.string s) ∧ Below w.heap.size w w' := by
  go_enter Try.func17, Try.ntmps17
  go_wp2_with (go_at_call 30; refine (Try.stringslite_Clone s _ hs).mono ?_; rintro e w' ⟨rfl, hb⟩)
  go_ret
  exact ⟨rfl, hb⟩
theorem KBz_cells {w : World} {T : Nat} {e : TypeId} {l v : Value} (h : w.heap[T]? = some (.cells #[l, v] e (0, 0))) : w.cell? ⟨T, 0, none⟩ = some l ∧ w.cell? ⟨T, 1, none⟩ = some v :=
  ⟨by simp [World.cell?, h], by simp [World.cell?, h]⟩
end Go.Proofs.Ytlefccgdeafinad
