/- What a law does with an act: it weighs it, and copies it. -/
import Derived.Test.YtghladeamdhlhalDoPlain
import Derived.Test.YtghladeamdhlhalBase
namespace Go.Proofs.Ytghladeamdhlhal
open Go.RowKit Go.Sort

/-- How much an act weighs. -/
def Ac.wg (a : Ac) : Nat := a.nm.size + a.tx.size + a.to.size
def Ac.Sized (a : Ac) : Prop := a.nm.size ≤ maxLen ∧ a.tx.size ≤ maxLen ∧ a.to.size ≤ maxLen

set_option maxHeartbeats 1000000 in
theorem szAct_any (w : World) (A : Ac) (left : Int) (h0 : 0 ≤ left) (h1 : left ≤ 1048576) (hs : A.Sized) :
    Calls Try.prog 9 #[.agg #[.int .i64 A.kd, .string A.nm, .string A.tx, .string A.to], .int .i64 left] w fun e w' => ∃ r : Int, e = .returned (.int .i64 r) ∧ (r = -1 ∨ 0 ≤ r ∧ r + (A.wg : Int) = left) ∧ Below w.heap.size w w' := by
  obtain ⟨kd, nm, tx, to⟩ := A
  obtain ⟨hn, ht, ho⟩ := hs
  unfold maxLen at hn ht ho
  dsimp only [Ac.wg] at hn ht ho ⊢
  have hb := (Below.refl w.heap.size w).alloc (Nat.le_refl _) (.cells #[.int .i64 kd, .string nm, .string tx, .string to] 26)
  by_cases hA : left - nm.size < 0
  · go_enter Try.func9, Try.ntmps9
    go_wp2
    go_ret
    exact ⟨_, rfl, .inl rfl, hb⟩
  · by_cases hB : left - nm.size - tx.size < 0
    · go_enter Try.func9, Try.ntmps9
      go_wp2
      go_ret
      exact ⟨_, rfl, .inl rfl, hb⟩
    · by_cases hC : left - nm.size - tx.size - to.size < 0
      · go_enter Try.func9, Try.ntmps9
        go_wp2
        go_ret
        exact ⟨_, rfl, .inl rfl, hb⟩
      · go_enter Try.func9, Try.ntmps9
        go_wp2
        go_ret
        exact ⟨_, rfl, .inr ⟨by omega, by omega⟩, hb⟩

theorem toAct_any (w : World) (A : Ac) :
    Calls Try.prog 12 #[.agg #[.int .i64 A.kd, .string A.nm, .string A.tx, .string A.to]] w fun e w' => e = .returned (.agg #[.int .i64 A.kd, .string A.nm, .string A.tx, .string A.to]) ∧ Below w.heap.size w w' := by
  go_enter Try.func12, Try.ntmps12
  go_wp2
  refine bodyPost_ret (v := .agg #[.int .i64 A.kd, .string A.nm, .string A.tx, .string A.to]) (by simp [results, Try.results12, go_sem]) rfl ⟨rfl, ?_⟩
  exact (((Below.refl w.heap.size w).alloc (Nat.le_refl _) _).alloc (by simp) _).alloc (by simp; omega) _
end Go.Proofs.Ytghladeamdhlhal
