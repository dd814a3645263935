/- A sealed text is unsealed as it was; with one byte turned it is not. No program. -/
import Derived.Test.YthpliadeeaodeaaDoorSealPlain
namespace Go.Proofs.YthpliadeeaodeaaDoor
open Go.RowKit

theorem unHead_list (s : ByteArray) : (unHead s).data.toList = s.data.toList.take (s.size - 4) := by
  simp [unHead, ByteArray.data_extract, List.extract]
theorem unTail_list (s : ByteArray) : unTail s = s.data.toList.drop (s.size - 4) := by
  unfold unTail
  rw [ByteArray.data_extract]
  simp only [Array.toList_extract, List.extract]
  exact List.take_of_length_le (by simp)

theorem ba_ext {a b : ByteArray} (h : a.data.toList = b.data.toList) : a = b := by
  apply ByteArray.ext
  apply Array.ext'
  exact h

theorem slText_in {s : ByteArray} (h : s.size ≤ 20000) : slText s = s ++ ⟨(four (sumOf s)).toArray⟩ := by simp [slText, h]
theorem slText_list {s : ByteArray} (h : s.size ≤ 20000) : (slText s).data.toList = s.data.toList ++ four (sumOf s) := by
  rw [slText_in h]
  simp
theorem slText_size {s : ByteArray} (h : s.size ≤ 20000) : (slText s).size = s.size + 4 := by
  have h1 := congrArg List.length (slText_list h)
  rw [List.length_append, four_length] at h1
  simpa using h1

theorem un_sealed {s : ByteArray} (h : s.size ≤ 20000) : unOk (slText s) = true ∧ unText (slText s) = s := by
  have hz := slText_size h
  have hl := slText_list h
  have hh : unHead (slText s) = s := ba_ext (by
    rw [unHead_list, hz, hl, Nat.add_sub_cancel]
    exact List.take_left' (by simp))
  have ht : unTail (slText s) = four (sumOf s) := by
    rw [unTail_list, hz, hl, Nat.add_sub_cancel]
    exact List.drop_left' (by simp)
  have ho : unOk (slText s) = true := by
    unfold unOk
    rw [hh, ht]
    simp [hz, h]
  exact ⟨ho, by unfold unText; rw [if_pos ho, hh]⟩

/-- One byte turned. -/
theorem un_turned {s : ByteArray} (h : s.size ≤ 20000) (i : Nat) (c : UInt8) (hi : i < (slText s).data.toList.length) (hc : c ≠ (slText s).data.toList[i]) (t : ByteArray) (ht : t.data.toList = (slText s).data.toList.set i c) : unOk t = false := by
  have hz := slText_size h
  have hl := slText_list h
  have htz : t.size = s.size + 4 := by
    have := congrArg List.length ht
    rw [List.length_set] at this
    simpa [hz] using this
  have hL : s.data.toList.length = s.size := by simp
  simp only [hl] at hi hc ht
  rw [List.length_append, four_length, hL] at hi
  cases hq : unOk t with
  | false => rfl
  | true =>
    exfalso
    unfold unOk at hq
    simp only [Bool.and_eq_true, beq_iff_eq] at hq
    have hq := hq.2
    rw [unTail_list, htz, Nat.add_sub_cancel] at hq
    have hsum : sumOf (unHead t) = sumAll 4294967295 (t.data.toList.take s.size) := by
      unfold sumOf
      rw [unHead_list, htz, Nat.add_sub_cancel]
    rw [hsum, ht] at hq
    by_cases hlt : i < s.size
    · rw [List.set_append_left _ _ (by omega), List.take_left' (by simp), List.drop_left' (by simp)] at hq
      have he := four_inj (sumAll_lt (by omega)) (sumOf_lt s) hq
      unfold sumOf at he
      have hg : s.data.toList[i]'(by omega) = (s.data.toList ++ four (sumOf s))[i]'(by simp [four_length]; omega) := (List.getElem_append_left (by omega)).symm
      rw [← hg] at hc
      have e1 : s.data.toList = s.data.toList.take i ++ s.data.toList[i]'(by omega) :: s.data.toList.drop (i + 1) := by
        rw [← List.drop_eq_getElem_cons (by omega), List.take_append_drop]
      have e2 : s.data.toList.set i c = s.data.toList.take i ++ c :: s.data.toList.drop (i + 1) := List.set_eq_take_append_cons_drop .. |>.trans (by rw [if_pos (by omega)])
      rw [e2] at he
      conv at he => rhs; rw [e1]
      exact hc (sumAll_turned _ _ _ _ (by omega) he)
    · rw [List.set_append_right _ _ (by omega), List.take_left' (by simp), List.drop_left' (by simp)] at hq
      have hg : (four (sumOf s))[i - s.size]'(by rw [four_length]; omega) = (s.data.toList ++ four (sumOf s))[i]'(by simp [four_length]; omega) := by
        rw [List.getElem_append_right (by omega)]
        simp
      rw [← hg] at hc
      have := congrArg (fun l => l[i - s.size]?) hq
      simp only [hL] at this
      rw [List.getElem?_set_self (by rw [four_length]; omega)] at this
      rw [show sumAll 4294967295 s.data.toList = sumOf s from rfl, List.getElem?_eq_getElem (by rw [four_length]; omega)] at this
      exact hc (Option.some.inj this).symm

theorem sumOf_more (s : ByteArray) (x : UInt8) : sumAll (sumOf s) [x] = sumOf (s ++ ⟨#[x]⟩) := by
  unfold sumOf
  rw [← sumAll_append]
  simp
end Go.Proofs.YthpliadeeaodeaaDoor
