/- Lines that are told: what is asked for, and the number of an answer. Plain, no program. -/
import Derived.Test.YtlefccgdeafinadTargetPlain
import Derived.Test.YtlefccgdeafinadStatusPlain
import Derived.Test.YtlefccgdeafinadDecPlain
namespace Go.Proofs.Ytlefccgdeafinad
open Go.RowKit
theorem digF_dig : ∀ (f n : Nat) (s : List UInt8), (∀ b ∈ s, 48 ≤ b.toNat ∧ b.toNat ≤ 57) → ∀ b ∈ digF f n s, 48 ≤ b.toNat ∧ b.toNat ≤ 57
  | 0, n, s, h => by simpa [digF] using h
  | f + 1, n, s, h => by
    by_cases h0 : n = 0
    · subst h0; rw [digF_zero]; exact h
    · rw [digF_on h0]
      refine digF_dig f (n / 10) _ ?_
      intro b hb
      rcases List.mem_cons.1 hb with rfl | hb
      · rw [fig_lo (by omega)]; omega
      · exact h b hb
theorem digF_len : ∀ (k f n : Nat) (s : List UInt8), n < 10 ^ k → (digF f n s).length ≤ k + s.length
  | 0, f, n, s, h => by
    have h0 : n = 0 := by simpa using h
    subst h0
    rw [digF_zero]
    omega
  | k + 1, 0, n, s, h => by
    have : digF 0 n s = s := by simp [digF]
    rw [this]; omega
  | k + 1, f + 1, n, s, h => by
    by_cases h0 : n = 0
    · subst h0; rw [digF_zero]; omega
    · rw [digF_on h0]
      have := digF_len k f (n / 10) (fig (n % 10) :: s) (by rw [Nat.pow_succ] at h; omega)
      rw [List.length_cons] at this
      omega
theorem decOf_small (n : Int) (h0 : 0 ≤ n) (h1 : n < 10000) : (decOf n).length ≤ 4 ∧ ∀ b ∈ decOf n, 48 ≤ b.toNat ∧ b.toNat ≤ 57 := by
  unfold decOf
  by_cases hz : n = 0
  · rw [if_pos hz]
    exact ⟨by simp, by decide⟩
  · rw [if_neg hz, if_neg (by omega)]
    refine ⟨?_, digF_dig 20 _ [] (by simp)⟩
    have := digF_len 4 20 n.natAbs [] (by omega)
    simpa using this
theorem decOf_three (k : Nat) (h0 : 100 ≤ k) (h1 : k ≤ 599) : decOf (k : Int) = [fig (k / 100), fig (k / 10 % 10), fig (k % 10)] := by
  unfold decOf
  rw [if_neg (by omega), if_neg (by omega)]
  show digF 20 k [] = _
  rw [digF_on (by omega), digF_on (by omega), digF_on (by omega), show k / 10 / 10 / 10 = 0 by omega, digF_zero, show k / 10 / 10 % 10 = k / 100 by omega]
theorem targetS_of {line t : ByteArray} (hl : line.data.toList = getL ++ (t.data.toList ++ httpL)) (ht : tgtOk t = true) : targetS line = (t, true) := by
  have hd : line.data.toList.drop 4 = t.data.toList ++ httpL := by rw [hl]; rfl
  have hp : Lib.hasPrefix line.data.toList getL = true := by
    unfold Lib.hasPrefix
    rw [List.isPrefixOf_iff_prefix, hl]
    exact ⟨_, rfl⟩
  have hs : Lib.hasSuffix (line.data.toList.drop 4) httpL = true := by
    unfold Lib.hasSuffix
    rw [List.isSuffixOf_iff_suffix, hd]
    exact ⟨_, rfl⟩
  have ho : tgtOf line = t := by
    unfold tgtOf
    rw [hd]
    have hn : line.data.toList.length - 13 = t.data.toList.length := by
      rw [hl]; simp [getL, httpL]
    rw [hn, List.take_left' rfl]
  rw [targetS_yes (by unfold tgtLine; rw [hp, hs]; rfl) (by rw [ho]; exact ht), ho]
theorem statusS_of {line : ByteArray} {x y z : UInt8} {r : List UInt8} (hl : line.data.toList = stL ++ (x :: y :: z :: 32 :: r)) (hx : 48 ≤ x.toNat ∧ x.toNat ≤ 57) (hy : 48 ≤ y.toNat ∧ y.toNat ≤ 57) (hz : 48 ≤ z.toNat ∧ z.toNat ≤ 57) (k : Nat) (hk : 100 * (x.toNat - 48) + 10 * (y.toNat - 48) + (z.toNat - 48) = k) (h1 : 100 ≤ k) (h2 : k ≤ 599) : statusS line = ((k : Int), true) := by
  have b9 : byteAt line 9 = x.toNat := by unfold byteAt; rw [hl]; rfl
  have b10 : byteAt line 10 = y.toNat := by unfold byteAt; rw [hl]; rfl
  have b11 : byteAt line 11 = z.toNat := by unfold byteAt; rw [hl]; rfl
  have b12 : byteAt line 12 = 32 := by unfold byteAt; rw [hl]; rfl
  have hsz : 13 ≤ line.size := by rw [Lib.size_eq, hl]; simp [stL]
  have hv : stv line 3 = k := by
    show 10 * (10 * (10 * 0 + byteAt line 9 - 48) + byteAt line 10 - 48) + byteAt line 11 - 48 = k
    omega
  rw [statusS_yes ?_ ?_ (by omega), hv]
  · unfold stOk
    have hpp : ((line.extract 0 9).toList == stL) = true := by
      rw [Lib.extract_toList, List.drop_zero, hl]
      rfl
    rw [decide_eq_true hsz, hpp, b12]
    rfl
  · unfold stDig digB
    rw [b9, b10, b11, decide_eq_true hx, decide_eq_true hy, decide_eq_true hz]
    rfl
theorem tgtOk_of {t : ByteArray} {D : List UInt8} (ht : t.data.toList = 47 :: 120 :: D) (h4 : D.length ≤ 4) (hD : ∀ b ∈ D, 48 ≤ b.toNat ∧ b.toNat ≤ 57) : tgtOk t = true := by
  unfold tgtOk allB
  have hs : t.size = D.length + 2 := by rw [Lib.size_eq, ht]; rfl
  rw [decide_eq_true (show 1 ≤ t.size ∧ t.size ≤ 20 by omega), ht]
  have : (47 :: 120 :: D).all (fun b => tgtB b.toNat) = true := by
    rw [List.all_eq_true]
    intro b hb
    unfold tgtB
    rw [decide_eq_true_eq]
    simp only [List.mem_cons] at hb
    rcases hb with rfl | rfl | hb
    · decide
    · decide
    · have := hD b hb; omega
  rw [this]
  rfl
end Go.Proofs.Ytlefccgdeafinad
