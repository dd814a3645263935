/- How long a body is, as the program looks for it. Plain, no program. -/
import Derived.Test.YtnnaphfeeobelaeGreatDoorChunkIPlainJ
import Derived.Test.YtnnaphfeeobelaeGreatDoorFiguresImpl
namespace Go.Proofs.YtnnaphfeeobelaeGreatDoor
open Go.RowKit
/-- The length that all fields tell: t is what was told ahead of them (-1: nothing). -/
def toldP : Int → List (ByteArray × ByteArray) → Option Int
  | t, [] => some t
  | t, f :: r => if eqT f.1 clN = true then
      (match numM 3 f.2.data.toList with
        | none => none
        | some k => if 400 < k ∨ (t ≠ -1 ∧ (k : Int) ≠ t) then none else toldP (k : Int) r)
    else toldP t r
theorem toldP_skip {t : Int} {f : ByteArray × ByteArray} {r : List (ByteArray × ByteArray)} (h : eqT f.1 clN = false) : toldP t (f :: r) = toldP t r := by
  show (if eqT f.1 clN = true then _ else _) = _
  rw [h]; rfl
theorem toldP_none {t : Int} {f : ByteArray × ByteArray} {r : List (ByteArray × ByteArray)} (h : eqT f.1 clN = true) (hn : numM 3 f.2.data.toList = none) : toldP t (f :: r) = none := by
  show (if eqT f.1 clN = true then _ else _) = _
  rw [if_pos h, hn]
theorem toldP_bad {t : Int} {k : Nat} {f : ByteArray × ByteArray} {r : List (ByteArray × ByteArray)} (h : eqT f.1 clN = true) (hn : numM 3 f.2.data.toList = some k) (hb : 400 < k ∨ (t ≠ -1 ∧ (k : Int) ≠ t)) : toldP t (f :: r) = none := by
  show (if eqT f.1 clN = true then _ else _) = _
  rw [if_pos h, hn]
  show (if 400 < k ∨ (t ≠ -1 ∧ (k : Int) ≠ t) then _ else _) = _
  rw [if_pos hb]
theorem toldP_on {t : Int} {k : Nat} {f : ByteArray × ByteArray} {r : List (ByteArray × ByteArray)} (h : eqT f.1 clN = true) (hn : numM 3 f.2.data.toList = some k) (hb : ¬ (400 < k ∨ (t ≠ -1 ∧ (k : Int) ≠ t))) : toldP t (f :: r) = toldP (k : Int) r := by
  show (if eqT f.1 clN = true then _ else _) = _
  rw [if_pos h, hn]
  show (if 400 < k ∨ (t ≠ -1 ∧ (k : Int) ≠ t) then _ else _) = _
  rw [if_neg hb]
theorem num3 (l : List UInt8) : numM 3 l = if l.length ≤ 3 then numL l else none := by
  unfold numM numL
  by_cases h : l.length ≤ 3
  · rw [if_pos h]
    have e : decide (1 ≤ l.length ∧ l.length ≤ 3) = decide (1 ≤ l.length ∧ l.length ≤ 6) := by
      rw [decide_eq_decide]; omega
    rw [e]
  · rw [if_neg h, decide_eq_false (by omega)]
    rfl
/-- What is told more than MaxBody is told to the end. -/
theorem lenF_great : ∀ (L : List (ByteArray × ByteArray)) (n many : Nat), 0 < many → (lenF n many L).2.2 = true → (lenF n many L).1 = n ∧ 0 < (lenF n many L).2.1
  | [], n, many, h, _ => ⟨rfl, h⟩
  | f :: r, n, many, h, hk => by
    unfold lenF at hk ⊢
    by_cases he : eqT f.1 clN = true
    · rw [if_pos he] at hk ⊢
      cases hn : numL f.2.data.toList with
      | none => rw [hn] at hk; simp at hk
      | some k =>
        rw [hn] at hk
        simp only [] at hk ⊢
        by_cases hb : 3 < f.2.size ∨ (0 < many ∧ k ≠ n)
        · rw [if_pos hb] at hk; simp at hk
        · rw [if_neg hb] at hk ⊢
          have hkn : k = n := by omega
          subst hkn
          exact lenF_great r k (many + 1) (by omega) hk
    · rw [if_neg he] at hk ⊢
      exact lenF_great r n many h hk
/-- The program's look and the other text's tell the same. -/
theorem told_len : ∀ (L : List (ByteArray × ByteArray)) (n many : Nat) (T : Int), (0 < many → n ≤ 400) → (many = 0 → T = -1) → (0 < many → T = (n : Int)) →
    toldP T L = if (lenF n many L).2.2 = true ∧ ((lenF n many L).2.1 = 0 ∨ (lenF n many L).1 ≤ 400) then some (if (lenF n many L).2.1 = 0 then -1 else ((lenF n many L).1 : Int)) else none
  | [], n, many, T, h, h0, h1 => by
    have e1 : lenF n many [] = (n, many, true) := rfl
    rw [e1]
    show some T = if true = true ∧ (many = 0 ∨ n ≤ 400) then some (if many = 0 then -1 else (n : Int)) else none
    rw [if_pos ⟨rfl, by omega⟩]
    by_cases hm : many = 0
    · rw [if_pos hm, h0 hm]
    · rw [if_neg hm, h1 (by omega)]
  | f :: r, n, many, T, h, h0, h1 => by
    unfold lenF
    by_cases he : eqT f.1 clN = true
    · rw [if_pos he]
      have hsz : f.2.size = f.2.data.toList.length := Lib.size_eq _
      cases hn : numL f.2.data.toList with
      | none =>
        rw [toldP_none he (by rw [num3, hn]; simp)]
        simp
      | some k =>
        show _ = if (if 3 < f.2.size ∨ (0 < many ∧ k ≠ n) then (0, many + 1, false) else lenF k (many + 1) r : Nat × Nat × Bool).2.2 = true ∧ _ then _ else _
        by_cases h3 : f.2.size ≤ 3
        case neg =>
          rw [toldP_none he (by rw [num3, if_neg (by omega)])]
          simp only [if_pos (show 3 < f.2.size ∨ (0 < many ∧ k ≠ n) from Or.inl (by omega))]
          simp
        have hm : numM 3 f.2.data.toList = some k := by rw [num3, if_pos (by omega), hn]
        by_cases hb : 3 < f.2.size ∨ (0 < many ∧ k ≠ n)
        · have h1' := h1 (by omega)
          rw [toldP_bad he hm (.inr (by omega))]
          simp only [if_pos hb]
          simp
        · simp only [if_neg hb]
          by_cases h4 : 400 < k
          · rw [toldP_bad he hm (.inl h4), if_neg]
            rintro ⟨a1, a2⟩
            have := lenF_great r k (many + 1) (by omega) a1
            omega
          · rw [toldP_on he hm]
            · exact told_len r k (many + 1) (k : Int) (by omega) (by omega) (fun _ => rfl)
            · rintro (x | ⟨x, y⟩)
              · exact h4 x
              · by_cases hz : many = 0
                · exact x (h0 hz)
                · have := h1 (by omega)
                  omega
    · rw [if_neg he, toldP_skip (by simpa using he)]
      exact told_len r n many T h h0 h1
theorem fieldOf_hit {f : ByteArray × ByteArray} {r : List (ByteArray × ByteArray)} {nm : ByteArray} (he : eqT f.1 nm = true) : fieldOfS (f :: r) nm = (f.2, true) := by
  unfold fieldOfS
  rw [List.find?_cons, he]
theorem fieldOf_skip {f : ByteArray × ByteArray} {r : List (ByteArray × ByteArray)} {nm : ByteArray} (he : eqT f.1 nm = false) : fieldOfS (f :: r) nm = fieldOfS r nm := by
  unfold fieldOfS
  rw [List.find?_cons, he]
theorem len_field : ∀ (L : List (ByteArray × ByteArray)) (n many : Nat), ((lenF n many L).2.1 = many ∧ (fieldOfS L clN).2 = false) ∨ (many < (lenF n many L).2.1 ∧ (fieldOfS L clN).2 = true)
  | [], n, many => .inl ⟨rfl, rfl⟩
  | f :: r, n, many => by
    by_cases he : eqT f.1 clN = true
    · right
      have hf : (fieldOfS (f :: r) clN).2 = true := by rw [fieldOf_hit he]
      refine ⟨?_, hf⟩
      unfold lenF
      rw [if_pos he]
      cases hn : numL f.2.data.toList with
      | none => simp
      | some k =>
        simp only []
        split
        · simp
        · rcases len_field r k (many + 1) with h | h <;> omega
    · have hf : fieldOfS (f :: r) clN = fieldOfS r clN := fieldOf_skip (by simpa using he)
      rw [hf]
      unfold lenF
      rw [if_neg he]
      exact len_field r n many
/-- How long a body is, by the program's looks. -/
theorem bodyI_looks (L : List (ByteArray × ByteArray)) (t : List UInt8) : bodyI L t =
    if (fieldOfS L clN).2 = true ∧ (fieldOfS L teN).2 = true then (([], 0, 2) : List UInt8 × Int × Int)
    else if (fieldOfS L clN).2 = true then (match toldP (-1) L with | none => ([], 0, 2) | some n => if (t.length : Int) < n then ([], 0, 1) else (t.take n.toNat, n, 0))
    else if (fieldOfS L teN).2 = true then (if eqT (fieldOfS L teN).1 chN = false then ([], 0, 2) else chunksI t)
    else ([], 0, 0) := by
  unfold bodyI
  have ht := told_len L 0 0 (-1) (by omega) (fun _ => rfl) (by omega)
  rcases len_field L 0 0 with ⟨h1, h2⟩ | ⟨h1, h2⟩
  · rw [h2, h1]
    simp
  · rw [h2]
    simp only [true_and]
    by_cases hc : (fieldOfS L teN).2 = true
    · rw [if_pos hc, if_pos hc, if_pos (Or.inl h1)]
    · rw [if_neg hc, if_neg hc, if_neg (by omega), if_pos trivial, ht]
      by_cases h3 : (lenF 0 0 L).2.2 = false ∨ 400 < (lenF 0 0 L).1
      · rw [if_pos h3, if_neg]
        rintro ⟨a1, a2⟩
        rcases h3 with h3 | h3
        · rw [h3] at a1; cases a1
        · omega
      · have h4 : (lenF 0 0 L).2.2 = true ∧ ((lenF 0 0 L).2.1 = 0 ∨ (lenF 0 0 L).1 ≤ 400) := by
          refine ⟨?_, .inr (by omega)⟩
          cases hq : (lenF 0 0 L).2.2 with
          | true => rfl
          | false => exact absurd (Or.inl hq) h3
        have e1 : (if (lenF 0 0 L).2.1 = 0 then (-1 : Int) else ((lenF 0 0 L).1 : Int)) = ((lenF 0 0 L).1 : Int) := if_neg (by omega)
        rw [if_neg h3, if_pos h4, e1]
        show _ = if (t.length : Int) < ((lenF 0 0 L).1 : Int) then _ else _
        by_cases h5 : t.length < (lenF 0 0 L).1
        · rw [if_pos h5, if_pos (by omega)]
        · rw [if_neg h5, if_neg (by omega), Int.toNat_natCast]
theorem toldP_range : ∀ (L : List (ByteArray × ByteArray)) (t n : Int), toldP t L = some n → (t = -1 ∨ (0 ≤ t ∧ t ≤ 400)) → n = -1 ∨ (0 ≤ n ∧ n ≤ 400)
  | [], t, n, h, ht => by
    simp only [toldP, Option.some.injEq] at h
    omega
  | f :: r, t, n, h, ht => by
    by_cases he : eqT f.1 clN = true
    · cases hm : numM 3 f.2.data.toList with
      | none => rw [toldP_none he hm] at h; cases h
      | some k =>
        by_cases hb : 400 < k ∨ (t ≠ -1 ∧ (k : Int) ≠ t)
        · rw [toldP_bad he hm hb] at h; cases h
        · rw [toldP_on he hm hb] at h
          exact toldP_range r k n h (.inr (by omega))
    · rw [toldP_skip (by simpa using he)] at h
      exact toldP_range r t n h ht
theorem toldP_there : ∀ (L : List (ByteArray × ByteArray)) (t n : Int), toldP t L = some n → (fieldOfS L clN).2 = true ∨ t ≠ -1 → n ≠ -1
  | [], t, n, h, hf => by
    simp only [toldP, Option.some.injEq] at h
    rcases hf with hf | hf
    · simp [fieldOfS] at hf
    · omega
  | f :: r, t, n, h, hf => by
    by_cases he : eqT f.1 clN = true
    · cases hm : numM 3 f.2.data.toList with
      | none => rw [toldP_none he hm] at h; cases h
      | some k =>
        by_cases hb : 400 < k ∨ (t ≠ -1 ∧ (k : Int) ≠ t)
        · rw [toldP_bad he hm hb] at h; cases h
        · rw [toldP_on he hm hb] at h
          exact toldP_there r k n h (.inr (by omega))
    · rw [toldP_skip (by simpa using he)] at h
      refine toldP_there r t n h ?_
      rcases hf with hf | hf
      · left
        rw [← hf, fieldOf_skip (by simpa using he)]
      · exact .inr hf
end Go.Proofs.YtnnaphfeeobelaeGreatDoor
