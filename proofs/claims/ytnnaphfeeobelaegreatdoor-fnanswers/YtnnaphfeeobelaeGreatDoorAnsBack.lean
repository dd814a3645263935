/- An answer's body comes back. Plain, no program. -/
import Derived.Test.YtnnaphfeeobelaeGreatDoorSmugPlainJ
import Derived.Test.YtnnaphfeeobelaeGreatDoorBodyIPlain
namespace Go.Proofs.YtnnaphfeeobelaeGreatDoor
open Go.RowKit Go.Sort
def xN : ByteArray := ⟨#[120]⟩
def stN : ByteArray := ⟨#[72, 84, 84, 80, 47, 49, 46, 49, 32, 50, 48, 48, 32, 111, 107]⟩
theorem stN_in : stN ∈ hlL := by simp [hlL, stN]
theorem ne_xcl : eqT xN clN = false := by unfold eqT; rw [ByteArray.toList_eq, ByteArray.toList_eq]; decide
theorem ne_xte : eqT xN teN = false := by unfold eqT; rw [ByteArray.toList_eq, ByteArray.toList_eq]; decide
theorem ansM (p n : Nat) : ansF [(xN, decB p)] n = [(xN, decB p), (clN, decB n)] := rfl
theorem ansGood (p n : Nat) (hp : p < 10000) (hn : n ≤ 400) : ∀ f ∈ [(xN, decB p), (clN, decB n)], Gd f := by
  intro f hf
  simp at hf
  rcases hf with rfl | rfl
  · exact gd_dec p hp (by decide) (by decide) ⟨by decide, by decide⟩
  · exact gd_dec n (by omega) (by decide) (by decide) ⟨by decide, by decide⟩
theorem ans_told (p n : Nat) (hp : p < 10000) (hn : n ≤ 400) (B : ByteArray) (hB : B.size = n) : answerS stN [(xN, decB p)] B = (headT stN [(xN, decB p), (clN, decB n)] ++ B, true) := by
  have h1 : (fieldOfS [(xN, decB p)] clN).2 = false := by rw [fieldOf_skip ne_xcl]; rfl
  have h2 : (fieldOfS [(xN, decB p)] teN).2 = false := by rw [fieldOf_skip ne_xte]; rfl
  have h3 := (good_ok stN_in (ansGood p n hp hn) (by simp)).1
  unfold answerS
  rw [hB, ansM, h1, h2, h3, decide_eq_false (by omega)]
  rfl
theorem ans_skip (p n : Nat) : lenF 0 0 [(xN, decB p), (clN, decB n)] = lenF 0 0 [(clN, decB n)] := by
  show (if eqT xN clN = true then _ else lenF 0 0 [(clN, decB n)]) = _
  rw [ne_xcl]
  rfl
theorem ans_len (p n : Nat) (hn : n ≤ 400) : lenF 0 0 [(xN, decB p), (clN, decB n)] = (n, 1, true) := by
  rw [ans_skip p n]
  exact lenF_one 0 0 n [] (by omega) (.inl rfl)
theorem ans_te (p n : Nat) : (fieldOfS [(xN, decB p), (clN, decB n)] teN).2 = false := by
  rw [fieldOf_skip ne_xte, fieldOf_skip ne_clte]
  rfl
theorem ans_body (p n : Nat) (hn : n ≤ 400) (B r : List UInt8) (hB : B.length = n) : bodyI [(xN, decB p), (clN, decB n)] (B ++ r) = (B, (n : Int), 0) := by
  rw [body_uncoded _ (ans_te p n)]
  unfold bodyS
  rw [ans_te, ans_len p n hn]
  simp only []
  rw [if_neg (by simp), if_neg (by omega), if_neg (by simp; omega), if_neg (by rw [List.length_append]; omega)]
  rw [← hB, List.take_left]
theorem ans_more (p n : Nat) (hn : n ≤ 400) (B : List UInt8) (hB : B.length < n) : bodyI [(xN, decB p), (clN, decB n)] B = ([], 0, 1) := by
  rw [body_uncoded _ (ans_te p n)]
  unfold bodyS
  rw [ans_te, ans_len p n hn]
  simp only []
  rw [if_neg (by simp), if_neg (by omega), if_neg (by simp; omega), if_pos hB]
end Go.Proofs.YtnnaphfeeobelaeGreatDoor
