/- The figures of a number as the library's contract tells them: the same; no program. -/
import Derived.Test.YtnnaphfeeobeladDoorDecPlain
import Derived.Lib.ItoaNum
namespace Go.Proofs.YtnnaphfeeobeladDoor
open Go.RowKit

theorem decDigits_small {u : Nat} (h : u < 10) : Lib.decDigits u = [UInt8.ofNat (48 + u)] := by rw [Lib.decDigits, dif_pos h]
theorem decDigits_big {u : Nat} (h : ¬ u < 10) : Lib.decDigits u = Lib.decDigits (u / 10) ++ [UInt8.ofNat (48 + u % 10)] := by rw [Lib.decDigits, dif_neg h]

theorem digF_dec : ∀ (f u : Nat) (s : List UInt8), 0 < u → u < 10 ^ f → digF f u s = Lib.decDigits u ++ s
  | 0, u, s, h0, h1 => by simp at h1; omega
  | f + 1, u, s, h0, h1 => by
    rw [digF_on (by omega)]
    by_cases h : u < 10
    · rw [show u / 10 = 0 by omega, digF_zero, decDigits_small h, show u % 10 = u by omega]
      simp [fig, h]
    · rw [digF_dec f (u / 10) _ (by omega) (by rw [Nat.pow_succ] at h1; omega), decDigits_big h]
      have h10 : u % 10 < 10 := by omega
      simp [fig, h10]

theorem decOf_itoa (n : Int) (h1 : -9223372036854775808 ≤ n) (h2 : n ≤ 9223372036854775807) : decOf n = Lib.itoa n := by
  unfold decOf Lib.itoa
  by_cases h0 : n = 0
  · subst h0
    rw [if_pos rfl, if_neg (by omega)]
    exact (decDigits_small (u := 0) (by decide)).symm
  · rw [if_neg h0]
    by_cases hn : n < 0
    · rw [if_pos hn, if_pos hn, digF_dec 20 n.natAbs [] (by omega) (by omega), List.append_nil]
    · rw [if_neg hn, if_neg hn, digF_dec 20 n.natAbs [] (by omega) (by omega), List.append_nil, show n.toNat = n.natAbs by omega]
end Go.Proofs.YtnnaphfeeobeladDoor
