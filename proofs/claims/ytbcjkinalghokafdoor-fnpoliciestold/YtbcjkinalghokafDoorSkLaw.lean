/- What a law does with rows of rows of numbers: it copies them, compares them, marks them. -/
import Derived.Test.YtbcjkinalghokafDoorSkKit
import Derived.Test.YtbcjkinalghokafDoorPolHoldJ
import Derived.Lib.QuietBelow
import Derived.BigQuiet
namespace Go.Proofs.YtbcjkinalghokafDoor
open Go.RowKit Go.Sort

/-- How many numbers the first j rows have. -/
def tot (LL : List (List Int)) (j : Nat) : Nat := ((LL.take j).map List.length).sum
theorem tot_zero (LL : List (List Int)) : tot LL 0 = 0 := by simp [tot]
theorem tot_succ (LL : List (List Int)) (j : Nat) (hj : j < LL.length) : tot LL (j + 1) = tot LL j + LL[j].length := by
  unfold tot
  rw [List.take_succ_eq_append_getElem hj, List.map_append, List.sum_append]
  simp only [List.map_cons, List.map_nil, List.sum_cons, List.sum_nil, Nat.add_zero]
theorem tot_mono (LL : List (List Int)) (j : Nat) : ∀ n, j ≤ n → n ≤ LL.length → tot LL j ≤ tot LL n
  | 0, h, _ => by rw [show j = 0 by omega]; exact Nat.le_refl _
  | n + 1, h, hn => by
    by_cases e : j = n + 1
    · rw [e]; exact Nat.le_refl _
    · have := tot_mono LL j n (by omega) (by omega)
      rw [tot_succ LL n (by omega)]
      omega
theorem tot_at (LL : List (List Int)) (j : Nat) (hj : j < LL.length) : tot LL j + LL[j].length ≤ tot LL LL.length := by
  rw [← tot_succ LL j hj]
  exact tot_mono LL (j + 1) _ (by omega) (Nat.le_refl _)
theorem tot_same {LL MM : List (List Int)} (h : LL.map List.length = MM.map List.length) (j : Nat) : tot LL j = tot MM j := by
  unfold tot
  rw [List.map_take, List.map_take, h]
theorem fill_set {α : Type} (LL : List α) (z : α) (k : Nat) (hk : k < LL.length) : (LL.take k ++ List.replicate (LL.length - k) z).set k LL[k] = LL.take (k + 1) ++ List.replicate (LL.length - (k + 1)) z := by
  rw [List.set_append_right _ _ (by rw [List.length_take]; omega), List.length_take, show k - min k LL.length = 0 by omega, show LL.length - k = (LL.length - (k + 1)) + 1 by omega, List.replicate_succ, List.set_cons_zero, List.take_succ_eq_append_getElem hk, List.append_assoc]
  rfl
theorem Tryd.infoIntS : (Tryd.prog.info? 40).map (fun i => (i.zero, i.size, i.bytes)) = some (some (.slice none 0 0), 1, 24) := by kernel_rfl
/-- Rows that are made and hold nothing yet. -/
theorem OwnSS.made {w : World} {lo n : Nat} {v : Value} (h : OwnV w lo 40 v (List.replicate n (.slice none 0 0))) : OwnSS w lo w.heap.size v (List.replicate n []) := by
  refine ⟨_, h, fun k hk => (h.lt k hk).2, by simp, fun i u l hu hl => ?_, fun i j u u' k hu hu' h1 => ?_⟩
  · obtain ⟨_, rfl⟩ := List.getElem?_eq_some_iff.1 hu
    obtain ⟨_, rfl⟩ := List.getElem?_eq_some_iff.1 hl
    simp only [List.getElem_replicate]
    exact ⟨OwnV.nil _ _ _, fun k hk => by simp [Value.ownBlock] at hk⟩
  · obtain ⟨_, rfl⟩ := List.getElem?_eq_some_iff.1 hu
    simp [Value.ownBlock] at h1




end Go.Proofs.YtbcjkinalghokafDoor
