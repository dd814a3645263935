/- The walk of the law on Decimal. -/
import Derived.Test.YtednbcdomkhhmajDoorDecimalImpl
import Derived.Test.YtednbcdomkhhmajDoorDecimal
namespace Go.Proofs.YtednbcdomkhhmajDoor
open Go.RowKit Go.Sort

set_option maxHeartbeats 400000 in
theorem decimal_walk (n : Int) (hn : (Lit.int .i64 n).wf = true) (w : World) (htab : Lib.TabIs Tryd.prog w "internal/strconv.uint64pow10" .u64 Lib.pow10Tab) :
    Calls Tryd.prog 3 #[.int .i64 n] w fun e w' => e = .returned (.bool true) ∧ Below w.heap.size w w' := by
  have hb := bounds_i64 hn
  have c1 := specDecimal_any n w hb.1 hb.2
  have c2 : ∀ w', Below w.heap.size w w' → _ := fun w' h => implDecimal_any n w' hb.1 hb.2 (tab_below gPow htab h)
  obtain ⟨l, hl⟩ : ∃ l, decOf n = l := ⟨_, rfl⟩
  rw [hl] at c1
  simp only [hl] at c2
  clear hb hl htab hn
  go_enter Tryd.func3, Tryd.ntmps3
  go_wp2_with (first | (go_at_call 5; refine c1.mono ?_; rintro e w' ⟨rfl, hb⟩) | (go_at_call 6; refine (c2 _ hb).mono ?_; rintro e w2 ⟨rfl, hb2⟩))
  go_ret
  exact ⟨rfl, hb.trans (hb2.mono hb.size)⟩
end Go.Proofs.YtednbcdomkhhmajDoor
