/- A key that was asked for so often is guessed at least so often. Plain, no program. -/
import Derived.Test.YtifjjfjadcpmaaeDoorSkPlain
namespace Go.Proofs.YtifjjfjadcpmaaeDoor
open Go.RowKit

theorem bumpR_look {key : ByteArray} {i : Nat} {r : List Int} (h : rowOk r = true) (p : Nat) (hp : p < 16) : r.getD p 0 ≤ (bumpR key i r).getD p 0 ∧ (placeS i key = p → (bumpR key i r).getD p 0 = min (r.getD p 0 + 1) 15) := by
  have hl := rowOk_len h
  have hat := rowOk_at h p hp
  unfold bumpR
  by_cases e : placeS i key = p
  · subst e
    have e2 : (r.set (placeS i key) (min (r.getD (placeS i key) 0 + 1) 15)).getD (placeS i key) 0 = min (r.getD (placeS i key) 0 + 1) 15 := by
      rw [List.getD_eq_getElem?_getD, List.getElem?_set_self (by omega)]
      rfl
    rw [e2]
    exact ⟨by omega, fun _ => rfl⟩
  · have e2 : (r.set (placeS i key) (min (r.getD (placeS i key) 0 + 1) 15)).getD p 0 = r.getD p 0 := by
      rw [List.getD_eq_getElem?_getD, List.getElem?_set_ne e, ← List.getD_eq_getElem?_getD]
    rw [e2]
    exact ⟨Int.le_refl _, fun h => absurd h e⟩
/-- In each row the key stands with m at least, up to the top. -/
def AtLeast (S : Sk) (key : ByteArray) (m : Int) : Prop := ∀ i, i < 3 → min m 15 ≤ lookR key S.rows i
theorem atLeast_guess {S : Sk} {key : ByteArray} {m : Int} (hok : okK S = true) (h : AtLeast S key m) : min m 15 ≤ guessS S key := by
  obtain ⟨a, b, c, e, _⟩ := okK_parts hok
  unfold guessS
  rw [if_pos hok]
  have h0 := h 0 (by omega)
  have h1 := h 1 (by omega)
  have h2 := h 2 (by omega)
  rw [e] at h0 h1 h2 ⊢
  rw [guessTo_three]
  simp only [lookR, List.getD_cons_zero, List.getD_cons_succ] at h0 h1 h2
  have e0 : placeS ((0 : Nat) : Int) key = placeS 0 key := rfl
  have e1 : placeS ((1 : Nat) : Int) key = placeS 1 key := rfl
  have e2 : placeS ((2 : Nat) : Int) key = placeS 2 key := rfl
  rw [e0] at h0
  rw [e1] at h1
  rw [e2] at h2
  omega
theorem atLeast_bump {S : Sk} {key z : ByteArray} {m : Int} (hok : okK S = true) (h63 : S.added ≠ 63) (h : AtLeast S key m) : AtLeast (bumpS S z) key (if z = key then m + 1 else m) := by
  obtain ⟨a, b, c, e, ha, hb, hc, _, _⟩ := okK_parts hok
  intro i hi
  have hm := h i hi
  unfold bumpS
  rw [if_pos hok, if_neg h63]
  rw [e] at hm ⊢
  rw [bumpTo_three]
  have step : ∀ (r : List Int) (j : Nat), rowOk r = true → min m 15 ≤ r.getD (placeS j key) 0 → min (if z = key then m + 1 else m) 15 ≤ (bumpR z j r).getD (placeS j key) 0 := by
    intro r j hr hle
    obtain ⟨h1, h2⟩ := bumpR_look (key := z) (i := j) hr (placeS j key) (placeS_lt _ _)
    by_cases ez : z = key
    · subst ez
      rw [if_pos rfl, h2 rfl]
      omega
    · rw [if_neg ez]
      omega
  rcases (by omega : i = 0 ∨ i = 1 ∨ i = 2) with rfl | rfl | rfl
  · exact step a 0 ha hm
  · exact step b 1 hb hm
  · exact step c 2 hc hm
/-- The sketch behind the keys of l. -/
def runK (l : List ByteArray) : Sk := l.foldl bumpS newS
theorem runK_snoc (l : List ByteArray) (z : ByteArray) : runK (l ++ [z]) = bumpS (runK l) z := by simp [runK]
def cntK (key : ByteArray) (l : List ByteArray) : Nat := l.countP (fun z => decide (z = key))
theorem cntK_snoc (key z : ByteArray) (l : List ByteArray) : cntK key (l ++ [z]) = cntK key l + if z = key then 1 else 0 := by
  unfold cntK
  rw [List.countP_append]
  simp [List.countP_cons]
theorem zero_get (p : Nat) : (List.replicate 16 (0 : Int)).getD p 0 = 0 := by
  rw [List.getD_eq_getElem?_getD, List.getElem?_replicate]
  split <;> rfl
theorem runK_ok : ∀ (n : Nat) (l : List ByteArray), l.length = n → n ≤ 63 → okK (runK l) = true ∧ (runK l).added = (n : Int) ∧ ∀ key, AtLeast (runK l) key (cntK key l)
  | 0, l, hl, _ => by
    have : l = [] := List.length_eq_zero_iff.1 hl
    subst this
    refine ⟨newS_ok, rfl, fun key i hi => ?_⟩
    have e : ∀ q, lookR key (runK []).rows q = 0 := by
      intro q
      unfold lookR
      have e2 : (runK []).rows.getD q [] = if q < 3 then List.replicate 16 0 else [] := by
        rw [show (runK []).rows = List.replicate 3 (List.replicate 16 0) from rfl, List.getD_eq_getElem?_getD, List.getElem?_replicate]
        split <;> rfl
      rw [e2]
      split
      · exact zero_get _
      · rfl
    rw [e, show cntK key [] = 0 from rfl]
    decide
  | n + 1, l, hl, hn => by
    obtain ⟨l0, z, rfl⟩ : ∃ l0 z, l = l0 ++ [z] := ⟨l.dropLast, l.getLast (by intro e; subst e; simp at hl), (List.dropLast_concat_getLast _).symm⟩
    have hl0 : l0.length = n := by simpa using hl
    obtain ⟨h1, h2, h3⟩ := runK_ok n l0 hl0 (by omega)
    rw [runK_snoc]
    have h63 : (runK l0).added ≠ 63 := by rw [h2]; omega
    refine ⟨bumpS_ok z h1, ?_, fun key => ?_⟩
    · unfold bumpS
      rw [if_pos h1, if_neg h63]
      simp only [h2]
      omega
    · have := atLeast_bump (z := z) h1 h63 (h3 key)
      rw [cntK_snoc]
      by_cases ez : z = key
      · rw [if_pos ez] at this ⊢
        simpa using this
      · rw [if_neg ez] at this ⊢
        simpa using this
end Go.Proofs.YtifjjfjadcpmaaeDoor
