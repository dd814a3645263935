/- The walk over decimal figures that are read: the other text. -/
import Derived.Test.YtednbcdomkhhmajReadDec
import Derived.Test.YtednbcdomkhhmajDecimal
import Derived.Lib.QuietBelow
namespace Go.Proofs.Ytednbcdomkhhmaj
open Go.RowKit Go.Sort

theorem sdF_dig {t : List UInt8} {b : UInt8} (hb : b ∈ t) (h : ¬ (48 ≤ b.toNat ∧ b.toNat ≤ 57)) : sdF t = none := by
  unfold sdF
  rw [if_neg]
  intro hh
  exact h (hh.2.1 b hb)

theorem valF_lt : ∀ (t : List UInt8), (∀ b ∈ t, isDig b) → valF 0 t < 10 ^ t.length := by
  intro t
  induction h : t.length generalizing t with
  | zero => intro _; have : t = [] := List.length_eq_zero_iff.1 h; subst this; rw [valF_nil]; simp
  | succ n ih =>
    intro hd
    have hne : t ≠ [] := fun e => by subst e; simp at h
    obtain ⟨p, c, rfl⟩ : ∃ p c, t = p ++ [c] := ⟨t.dropLast, t.getLast hne, (List.dropLast_concat_getLast hne).symm⟩
    have hc := hd c (by simp)
    have := ih p (by simp at h; omega) (fun x hx => hd x (by simp [hx]))
    rw [valF_snoc, Nat.pow_succ]
    unfold isDig at hc
    unfold dOf
    omega

set_option maxHeartbeats 1000000 in
set_option maxRecDepth 100000 in
theorem specReadDecimal_any (s : ByteArray) (w : World) (hs : s.size ≤ 1048576) :
    Calls Try.prog 13 #[.string s] w fun e w' => e = .returned (.tuple #[.int .i64 ((sdF s.data.toList).getD 0 : Nat), .bool (sdF s.data.toList).isSome]) ∧ Below w.heap.size w w' := by
  by_cases h10 : 10 < s.size
  · have hn : sdF s.data.toList = none := by unfold sdF; rw [if_neg]; intro hh; have := hh.1; simp at this; omega
    rw [hn]
    go_enter Try.func13, Try.ntmps13
    go_wp2
    go_ret2
    exact ⟨rfl, Below.refl _ _⟩
  · go_enter Try.func13, Try.ntmps13
    go_wp2
    go_loopw [4, 5] (fun n i wr => Box (∃ (k m : Nat), k ≤ s.size ∧ i = .int .i64 k ∧ n = .int .i64 m ∧ Hid (m = valF 0 (s.data.toList.take k)) ∧ Hid (∀ b ∈ s.data.toList.take k, isDig b) ∧ wr = w))
      (fun _ i _ => s.size - (intOf i).toNat)
    case atStart => exact ⟨⟨0, 0, by omega, rfl, rfl, rfl, by simp [Hid], rfl⟩⟩
    case round =>
      obtain ⟨k, m, hk, rfl, rfl, hm, hd, rfl⟩ := hrel.out
      have hm1 : m < 10000000000 := by
        rw [hm.out]
        refine Nat.lt_of_lt_of_le (valF_lt _ hd.out) (Nat.le_trans (Nat.pow_le_pow_right (n := 10) (j := 10) (by decide) (Nat.le_trans (List.length_take_le _ _) (by omega))) (by decide))
      by_cases hlt : k < s.size
      · have HT : Hid (s.data.toList.take (k + 1) = s.data.toList.take k ++ [s[k]]) := take_step s k hlt
        have HM : Hid (s[k] ∈ s.data.toList) := by rw [show s[k] = s.data.toList[k]'(by simpa using hlt) from by simp; rfl]; exact List.getElem_mem _
        obtain ⟨b, hb⟩ : ∃ b, s[k] = b := ⟨_, rfl⟩
        have HB : Hid (s[k] = b) := hb
        have hbl : b.toNat < 256 := b.toNat_lt
        rcases (show b.toNat < 48 ∨ 57 < b.toNat ∨ (48 ≤ b.toNat ∧ b.toNat ≤ 57) by omega) with g1 | g1 | ⟨g1, g2⟩
        · go_wp2
          go_ret2
          exact ⟨ret2_none (sdF_dig (b := b) (by have := HM.out; rw [HB.out] at this; exact this) (by omega)), Below.refl _ _⟩
        · go_wp2
          go_ret2
          exact ⟨ret2_none (sdF_dig (b := b) (by have := HM.out; rw [HB.out] at this; exact this) (by omega)), Below.refl _ _⟩
        · go_wp2
          go_roundw
          case rel =>
            try ((repeat apply Exists.intro); refine ⟨?_, rfl⟩)
            exact ⟨⟨k + 1, m * 10 + dOf b, by omega, by go_num, by unfold dOf; go_num, by
              show _ = _
              rw [HT.out, HB.out, valF_snoc, ← hm.out], by
              intro c hc
              rw [HT.out, HB.out, List.mem_append] at hc
              rcases hc with hc | hc
              · exact hd.out c hc
              · simp at hc; subst hc; exact ⟨g1, g2⟩, by first | rfl | trivial⟩⟩
          case measure => simp [intOf]; omega
      · have HE : Hid (s.data.toList.take k = s.data.toList) := List.take_of_length_le (by simp; omega)
        have HMV : Hid (m = valF 0 s.data.toList) := by show _ = _; rw [hm.out, HE.out]
        have HDD : Hid (∀ b ∈ s.data.toList, isDig b) := by have := hd.out; rw [HE.out] at this; exact this
        by_cases g : 1000000000 < m
        · have HN : Hid (sdF s.data.toList = none) := by
            show _ = _
            unfold sdF
            rw [if_neg]
            intro hh
            have := HMV.out
            have := hh.2.2.1
            omega
          go_wp2
          go_ret2
          exact ⟨ret2_none HN.out, Below.refl _ _⟩
        · have hd9 : decide ((1000000000 : Int) < (m : Int)) = false := by simp; omega
          go_wp2_with (go_at_call 21; refine (specDecimal_any m _ (by omega) (by omega)).mono ?_; rintro e w' ⟨rfl, hb⟩)
          · have hcmp : (!decOf (m : Int) == s.toList) = true := by assumption
            go_ret2
            exact ⟨ret2_none (by
              unfold sdF
              rw [if_neg]
              intro hh
              have h4 := hh.2.2.2
              rw [← HMV.out] at h4
              rw [ByteArray.toList_eq, h4] at hcmp
              simp at hcmp), by assumption⟩
          · have hcmp : (!decOf (m : Int) == s.toList) = false := by assumption
            go_ret2
            exact ⟨ret2_some (n := m) (by
              unfold sdF
              have h4 : decOf (m : Int) = s.data.toList := by
                rw [ByteArray.toList_eq] at hcmp
                simpa using hcmp
              rw [← HMV.out, if_pos ⟨by simp; omega, HDD.out, by omega, h4⟩]) rfl, by assumption⟩
end Go.Proofs.Ytednbcdomkhhmaj
