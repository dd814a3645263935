/- Heads that tell two lengths, or a length and parts. Plain, no program. -/
import Derived.Test.YtnnaphfeeobelasDoorBodyPlain
import Derived.Test.YtnnaphfeeobelasDoorNumPlain
namespace Go.Proofs.YtnnaphfeeobelasDoor
open Go.RowKit
def decB (n : Nat) : ByteArray := ⟨(decOf (n : Int)).toArray⟩
theorem decB_num (n : Nat) (h : n ≤ 999999) : numL (decB n).data.toList = some n := numL_dec n h
theorem decB_size (n : Nat) (h : n ≤ 999) : (decB n).size ≤ 3 := by
  have e : (decB n).size = (decOf (n : Int)).length := by show (decOf (n : Int)).toArray.size = _; simp
  rw [e]
  unfold decOf
  by_cases hz : (n : Int) = 0
  · rw [if_pos hz]; simp
  · rw [if_neg hz, if_neg (by omega)]
    have := digF_wide 3 20 (n : Int).natAbs [] (by omega)
    simpa using this
theorem eq_clN : eqT clN clN = true := by unfold eqT; simp
theorem eq_teN : eqT teN teN = true := by unfold eqT; simp
theorem ne_clte : eqT clN teN = false := by unfold eqT; rw [ByteArray.toList_eq, ByteArray.toList_eq]; decide
theorem ne_tecl : eqT teN clN = false := by unfold eqT; rw [ByteArray.toList_eq, ByteArray.toList_eq]; decide
theorem lenF_one (n many k : Nat) (r : List (ByteArray × ByteArray)) (hk : k ≤ 999) (h : many = 0 ∨ k = n) : lenF n many ((clN, decB k) :: r) = lenF k (many + 1) r := by
  show (if eqT clN clN = true then _ else _) = _
  rw [if_pos eq_clN]
  show (match numL (decB k).data.toList with | none => _ | some k => _) = _
  rw [decB_num k (by omega)]
  have := decB_size k hk
  show (if 3 < (decB k).size ∨ (0 < many ∧ k ≠ n) then _ else _) = _
  rw [if_neg (by omega)]
theorem lenF_odd (n many k : Nat) (r : List (ByteArray × ByteArray)) (hk : k ≤ 999) (h : 0 < many ∧ k ≠ n) : lenF n many ((clN, decB k) :: r) = (0, many + 1, false) := by
  show (if eqT clN clN = true then _ else _) = _
  rw [if_pos eq_clN]
  show (match numL (decB k).data.toList with | none => _ | some k => _) = _
  rw [decB_num k (by omega)]
  show (if 3 < (decB k).size ∨ (0 < many ∧ k ≠ n) then _ else _) = _
  rw [if_pos (Or.inr h)]
theorem smug_two (n m : Nat) (hn : n ≤ 90) (hm : m ≤ 90) (t : List UInt8) (ht : 90 ≤ t.length) : (bodyS [(clN, decB n), (clN, decB m)] t).2.2 = if n = m then 0 else 2 := by
  have hf : fieldOfS [(clN, decB n), (clN, decB m)] teN = (⟨#[]⟩, false) := by
    unfold fieldOfS
    simp [List.find?, ne_clte]
  unfold bodyS
  rw [hf, if_neg (by simp), lenF_one 0 0 n _ (by omega) (.inl rfl)]
  by_cases h : n = m
  · subst h
    rw [lenF_one n 1 n _ (by omega) (.inr rfl)]
    rw [if_pos rfl]
    have h1 : lenF n (1 + 1) [] = (n, 2, true) := rfl
    rw [h1]
    simp only []
    rw [if_neg (by omega), if_neg (by simp; omega), if_neg (by omega)]
  · rw [lenF_odd n 1 m _ (by omega) ⟨by omega, fun e => h e.symm⟩, if_neg h]
    rfl
theorem smug_both (n : Nat) (hn : n ≤ 90) (t : List UInt8) : (bodyS [(clN, decB n), (teN, chN)] t).2.2 = 2 := by
  have hf : fieldOfS [(clN, decB n), (teN, chN)] teN = (chN, true) := by
    unfold fieldOfS
    simp [List.find?, ne_clte, eq_teN]
  unfold bodyS
  rw [hf, if_pos rfl, lenF_one 0 0 n _ (by omega) (.inl rfl)]
  have h2 : (lenF n (0 + 1) [(teN, chN)]).2.1 = 1 := by
    show (if eqT teN clN = true then _ else lenF n 1 [] : Nat × Nat × Bool).2.1 = 1
    rw [if_neg (by rw [ne_tecl]; simp)]
    rfl
  rw [h2, if_pos (Or.inl (by omega))]
theorem smug_none (t : List UInt8) : bodyS [] t = ([], 0, 0) := rfl
end Go.Proofs.YtnnaphfeeobelasDoor
