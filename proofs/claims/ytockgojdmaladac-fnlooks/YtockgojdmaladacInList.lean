/- A law asks whether a number is in a list. -/
import Derived.Test.YtockgojdmaladacInts
namespace Go.Proofs.Ytockgojdmaladac
open Go.RowKit Go.Sort
set_option maxHeartbeats 1000000 in
theorem in_list (w : World) (a : Option Addr) (cap : Nat) (l : List Int) (x : Int) (hA : IAt w a l w.heap.size) (hl : l.length ≤ 1048577) :
    Calls Try.prog 31 #[.slice a l.length cap, .int .i64 x] w fun e w' => e = .returned (.bool (l.any fun y => decide (y = x))) ∧ w' = w := by
  obtain ⟨R, hR⟩ : ∃ R, (l.any fun y => decide (y = x)) = R := ⟨_, rfl⟩
  rw [hR]
  have HR : Hid ((l.any fun y => decide (y = x)) = R) := hR
  clear hR
  go_enter Try.func31, Try.ntmps31
  go_wp2_with fail
  go_loopw [5] (fun i wr => Box (∃ k : Nat, k ≤ l.length ∧ i = .int .i64 k ∧ (∀ q (hq : q < l.length), q < k → l[q] ≠ x) ∧ wr = w))
    (fun i _ => l.length - (intOf i).toNat)
  case atStart => exact ⟨⟨0, by omega, rfl, fun q _ hq => absurd hq (Nat.not_lt_zero _), rfl⟩⟩
  case round =>
    obtain ⟨k, hk, rfl, hno, hwr⟩ := hrel.out
    have HN : Hid (∀ q (hq : q < l.length), q < k → l[q] ≠ x) := hno
    clear hno hrel
    rw [hwr]
    clear hwr
    by_cases hlt : k < l.length
    · obtain ⟨gp, offp, hpa, _, q0⟩ := hA k hlt
      obtain ⟨p, hp⟩ : ∃ p, l[k] = p := ⟨_, rfl⟩
      have HX : Hid (l[k] = p ∧ (k : Int) < (l.length : Int)) := ⟨hp, by omega⟩
      rw [hp] at q0
      have hi1 : (0 : Int) ≤ (k : Int) := by omega
      have hi2 : (k : Int) < (l.length : Int) := by omega
      subst hpa
      clear hA hp
      by_cases he : p = x
      · have he' : (p == x) = true := by simp [he]
        have he'' : decide (p = x) = true := decide_eq_true he
        have HP : Hid (R = true) := by
          show _ = _
          rw [← HR.out, List.any_eq_true]
          exact ⟨l[k], List.getElem_mem (by omega), by rw [HX.out.1]; exact he''⟩
        clear he
        go_wp2_with fail
        go_ret
        exact ⟨by rw [HP.out]; rfl, rfl⟩
      · have he' : (p == x) = false := by simp [he]
        have he'' : decide (p = x) = false := decide_eq_false he
        have HE : Hid (¬ p = x) := he
        clear he
        go_wp2_with fail
        go_roundw
        case rel =>
          try ((repeat apply Exists.intro); refine ⟨?_, rfl⟩)
          refine ⟨⟨k + 1, by have := HX.out.2; omega, by go_num, fun q hq hqk => ?_, by first | rfl | trivial⟩⟩
          by_cases e : q = k
          · subst e
            rw [HX.out.1]; exact HE.out
          · exact HN.out q hq (by omega)
        case measure => have := HX.out.2; simp [intOf]; omega
    · have hi2 : ¬ (k : Int) < (l.length : Int) := by omega
      have HP : Hid (R = false) := by
        show _ = _
        rw [← HR.out, Bool.eq_false_iff]
        intro e
        rw [List.any_eq_true] at e
        obtain ⟨y, hy, he⟩ := e
        obtain ⟨j, hj, rfl⟩ := List.getElem_of_mem hy
        exact HN.out j hj (by omega) (by simpa using he)
      go_wp2_with fail
      go_ret
      exact ⟨by rw [HP.out]; rfl, rfl⟩
end Go.Proofs.Ytockgojdmaladac
