/- Blanks about a text: first those ahead, or first those behind. Plain, no program. -/
import Derived.Test.YtnnaphfeeobeladDoorLowPlainJ
namespace Go.Proofs.YtnnaphfeeobeladDoor
open Go.RowKit
theorem trimR_cons (b : UInt8) (r : List UInt8) : Lib.trimRightB (b :: r) 32 = if Lib.trimRightB r 32 = [] then (if b = 32 then [] else [b]) else b :: Lib.trimRightB r 32 := by
  unfold Lib.trimRightB
  rw [List.reverse_cons, List.dropWhile_append]
  by_cases h : r.reverse.dropWhile (· == 32) = []
  · rw [h]
    by_cases hb : b = 32
    · subst hb; simp
    · simp [hb]
  · rw [if_neg (by simpa using h), if_neg (by simpa using h)]
    simp
theorem trim_both : ∀ l : List UInt8, Lib.trimRightB (Lib.trimLeftB l 32) 32 = Lib.trimB l 32
  | [] => rfl
  | b :: r => by
    have ih := trim_both r
    unfold Lib.trimB at *
    rw [trimR_cons]
    by_cases hb : b = 32
    · subst hb
      have e : Lib.trimLeftB (32 :: r) 32 = Lib.trimLeftB r 32 := by unfold Lib.trimLeftB; simp
      rw [e, ih]
      by_cases h : Lib.trimRightB r 32 = []
      · rw [if_pos h, if_pos rfl, h]
      · rw [if_neg h]
        unfold Lib.trimLeftB
        simp
    · have e : Lib.trimLeftB (b :: r) 32 = b :: r := by unfold Lib.trimLeftB; simp [hb]
      rw [e, trimR_cons]
      by_cases h : Lib.trimRightB r 32 = []
      · rw [if_pos h, if_neg hb]
        unfold Lib.trimLeftB
        simp [hb]
      · rw [if_neg h]
        unfold Lib.trimLeftB
        simp [hb]
theorem trimL_blank {b : UInt8} {r : List UInt8} (h : b = 32) : Lib.trimLeftB (b :: r) 32 = Lib.trimLeftB r 32 := by subst h; unfold Lib.trimLeftB; simp
theorem trimL_none {b : UInt8} {r : List UInt8} (h : ¬ b = 32) : Lib.trimLeftB (b :: r) 32 = b :: r := by unfold Lib.trimLeftB; simp [h]
theorem trimR_blank (l : List UInt8) : Lib.trimRightB (l ++ [32]) 32 = Lib.trimRightB l 32 := by unfold Lib.trimRightB; simp
end Go.Proofs.YtnnaphfeeobeladDoor
