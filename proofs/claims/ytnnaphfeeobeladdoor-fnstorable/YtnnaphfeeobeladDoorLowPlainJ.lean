/- Texts that stand in one: LowPlain, TrimPlain. -/
import Derived.Test.YtnnaphfeeobeladDoorHeadPlainJ
import Derived.Lib.TrimByte
namespace Go.Proofs.YtnnaphfeeobeladDoor
open Go.RowKit
def lowB (x : UInt8) : UInt8 := if 65 ≤ x.toNat ∧ x.toNat ≤ 90 then UInt8.ofNat (x.toNat + 32) else x
def lowL (l : List UInt8) : List UInt8 := l.map lowB
theorem lowB_great {x : UInt8} (h : 65 ≤ x.toNat ∧ x.toNat ≤ 90) : (lowB x).toNat = x.toNat + 32 := by
  unfold lowB
  rw [if_pos h, UInt8.toNat_ofNat']
  omega
theorem lowB_small {x : UInt8} (h : ¬ (65 ≤ x.toNat ∧ x.toNat ≤ 90)) : lowB x = x := by
  unfold lowB
  rw [if_neg h]
/-- What stands while the first k are taken. -/
def lowTo (l : List UInt8) (k : Nat) : List UInt8 := lowL (l.take k) ++ l.drop k
theorem lowTo_zero (l : List UInt8) : lowTo l 0 = l := by simp [lowTo, lowL]
theorem lowTo_all (l : List UInt8) : lowTo l l.length = lowL l := by simp [lowTo]
theorem lowTo_len (l : List UInt8) (k : Nat) : (lowTo l k).length = l.length := by simp [lowTo, lowL]; omega
theorem lowTo_at (l : List UInt8) (k : Nat) (hk : k < l.length) : (lowTo l k)[k]'(by rw [lowTo_len]; exact hk) = l[k] := by
  unfold lowTo lowL
  rw [List.getElem_append_right (by simp; omega)]
  simp [Nat.min_eq_left (Nat.le_of_lt hk)]
theorem lowTo_succ (l : List UInt8) (k : Nat) (hk : k < l.length) : lowTo l (k + 1) = (lowTo l k).set k (lowB l[k]) := by
  unfold lowTo lowL
  rw [List.set_append_right _ _ (by simp; omega), List.length_map, List.length_take, Nat.min_eq_left (Nat.le_of_lt hk), Nat.sub_self, List.drop_eq_getElem_cons hk, List.set_cons_zero, List.take_succ_eq_append_getElem hk, List.map_append, List.append_assoc]
  rfl
end Go.Proofs.YtnnaphfeeobeladDoor

namespace Go.Proofs.YtnnaphfeeobeladDoor
open Go.RowKit

/-- What is left of a text without the blanks about it. -/
def trimT (s : ByteArray) : ByteArray := ⟨(Lib.trimB s.data.toList 32).toArray⟩
theorem dropWhile_len (l : List UInt8) (p : UInt8 → Bool) : (l.dropWhile p).length ≤ l.length := (List.dropWhile_sublist p).length_le
theorem trimR_of_last (l : List UInt8) (x : UInt8) (h : ¬ x = 32) : Lib.trimRightB (l ++ [x]) 32 = l ++ [x] := by
  unfold Lib.trimRightB
  rw [List.reverse_append]
  simp [h]
theorem trimR_short (l : List UInt8) : (Lib.trimRightB (l ++ [32]) 32).length < (l ++ [32]).length := by
  unfold Lib.trimRightB
  rw [List.reverse_append]
  have := dropWhile_len l.reverse (· == 32)
  simp at this ⊢
  omega
theorem trimL_le (l : List UInt8) : (Lib.trimLeftB l 32).length ≤ l.length := dropWhile_len l _
theorem trimR_le (l : List UInt8) : (Lib.trimRightB l 32).length ≤ l.length := by
  unfold Lib.trimRightB
  have := dropWhile_len l.reverse (· == 32)
  simpa using this
theorem trimT_le (s : ByteArray) : (trimT s).size ≤ s.size := by
  have h : (trimT s).size = (Lib.trimB s.data.toList 32).length := by show (Lib.trimB s.data.toList 32).toArray.size = _; simp
  rw [h]
  unfold Lib.trimB
  have h1 := trimL_le (Lib.trimRightB s.data.toList 32)
  have h2 := trimR_le s.data.toList
  have h3 : s.data.toList.length = s.size := by simp
  omega
/-- It is the same just when no blank is first or last. -/
theorem trimB_same (l : List UInt8) : (Lib.trimB l 32 = l) ↔ (l = [] ∨ (¬ (l.getD 0 0).toNat = 32 ∧ ¬ (l.getD (l.length - 1) 0).toNat = 32)) := by
  have e32 : ∀ x : UInt8, x.toNat = 32 ↔ x = 32 := fun x => ⟨fun h => UInt8.toNat_inj.1 h, fun h => by rw [h]; rfl⟩
  rcases List.eq_nil_or_concat l with rfl | ⟨m, x, rfl⟩
  · simp [Lib.trimB, Lib.trimLeftB, Lib.trimRightB]
  · rw [List.concat_eq_append]
    have hlast : ((m ++ [x]).getD ((m ++ [x]).length - 1) 0) = x := by simp [List.getD_eq_getElem?_getD]
    rw [hlast, e32, e32]
    unfold Lib.trimB
    by_cases hx : x = 32
    · subst hx
      constructor
      · intro h
        have h1 := congrArg List.length h
        have h2 := trimL_le (Lib.trimRightB (m ++ [32]) 32)
        have h3 := trimR_short m
        omega
      · rintro (h | ⟨_, h⟩)
        · simp at h
        · exact absurd rfl h
    · rw [trimR_of_last m x hx]
      cases m with
      | nil => simp [Lib.trimLeftB, hx]
      | cons y m =>
        simp only [List.cons_append, List.getD_cons_zero]
        by_cases hy : y = 32
        · subst hy
          constructor
          · intro h
            have h1 := congrArg List.length h
            have h2 := trimL_le (m ++ [x])
            simp [Lib.trimLeftB] at h1
            have h3 := dropWhile_len (m ++ [x]) (· == 32)
            simp at h3
            omega
          · rintro (h | ⟨h, _⟩)
            · simp at h
            · exact absurd rfl h
        · simp [Lib.trimLeftB, hy, hx]
theorem trimT_same (s : ByteArray) : (s.toList == (trimT s).toList) = trimS s := by
  rw [ByteArray.toList_eq, ByteArray.toList_eq]
  have h := trimB_same s.data.toList
  have hs : s.data.toList.length = s.size := by simp
  have hd : (trimT s).data.toList = Lib.trimB s.data.toList 32 := by simp [trimT]
  rw [hd]
  rw [hs] at h
  unfold trimS
  by_cases ht : Lib.trimB s.data.toList 32 = s.data.toList
  · rw [ht]
    rcases h.1 ht with h0 | ⟨h1, h2⟩
    · rw [decide_eq_true (show s.size = 0 by rw [← hs, h0]; rfl)]; simp
    · rw [decide_eq_false h1, decide_eq_false h2]; simp
  · have hne : (s.data.toList == Lib.trimB s.data.toList 32) = false := by
      rw [beq_eq_false_iff_ne]; exact fun e => ht e.symm
    rw [hne]
    have hn : ¬ (s.data.toList = [] ∨ _) := fun e => ht (h.2 e)
    rw [not_or] at hn
    have h0 : ¬ s.size = 0 := fun e => hn.1 (List.length_eq_zero_iff.1 (by rw [hs]; exact e))
    rw [decide_eq_false h0]
    by_cases h1 : (s.data.toList.getD 0 0).toNat = 32
    · rw [decide_eq_true h1]; rfl
    · have h2 : (s.data.toList.getD (s.size - 1) 0).toNat = 32 := by
        rcases Nat.decEq (s.data.toList.getD (s.size - 1) 0).toNat 32 with e | e
        · exact absurd ⟨h1, e⟩ hn.2
        · exact e
      rw [decide_eq_false h1, decide_eq_true h2]; rfl
end Go.Proofs.YtnnaphfeeobeladDoor
