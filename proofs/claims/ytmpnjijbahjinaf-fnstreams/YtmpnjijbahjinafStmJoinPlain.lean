/- Streams: where a new reader goes. Plain, no program. -/
import Derived.Test.YtmpnjijbahjinafStmPlace
namespace Go.Proofs.Ytmpnjijbahjinaf
open Go.RowKit

theorem asc_pair {l : List (Int × Int)} : AscR l ↔ l.Pairwise (fun a b => a.1 < b.1) := by
  rw [List.pairwise_iff_getElem]
  exact Iff.rfl
theorem rdOk_iff (t : Nat) (l : List (Int × Int)) : rdOkTo t l l.length = true ↔ (∀ r ∈ l, inI r.1 1 9 = true ∧ inI r.2 0 t = true) ∧ AscR l := by
  refine ⟨fun h => ⟨fun r hr => ?_, rdOkTo_asc h⟩, fun ⟨h, ha⟩ => ?_⟩
  · obtain ⟨i, hi, rfl⟩ := List.getElem_of_mem hr
    have := rdOkTo_at h hi
    simp only [List.getD, List.getElem?_eq_getElem hi, Option.getD_some, Bool.and_eq_true] at this
    exact ⟨this.1.1, this.2⟩
  · unfold rdOkTo
    rw [List.all_eq_true]
    intro i hi
    have hi' : i < l.length := List.mem_range.1 hi
    have hr := h l[i] (List.getElem_mem hi')
    simp only [List.getD, List.getElem?_eq_getElem hi', Option.getD_some, Bool.and_eq_true]
    refine ⟨⟨hr.1, ?_⟩, hr.2⟩
    by_cases h0 : 0 < i
    · have hp := ha (i - 1) i (by omega) hi' (by omega)
      rw [List.getElem?_eq_getElem (show i - 1 < l.length by omega), Option.getD_some, decide_eq_false (show ¬ l[i].1 ≤ l[i - 1].1 by omega)]
      simp
    · rw [decide_eq_false h0]; rfl
theorem PlaceR.same {rd : List (Int × Int)} {id : Int} {k k' : Nat} {b b' : Bool} (h : PlaceR rd id k b) (h' : PlaceR rd id k' b') : k' = k ∧ b' = b := by
  have e : k' = k := by
    rcases Nat.lt_trichotomy k' k with h1 | h1 | h1
    · have hl : k' < rd.length := Nat.lt_of_lt_of_le h1 h.le
      have := h.lo k' hl h1
      have := h'.hi k' hl (Nat.le_refl _)
      omega
    · exact h1
    · have hl : k < rd.length := Nat.lt_of_lt_of_le h1 h'.le
      have := h'.lo k hl h1
      have := h.hi k hl (Nat.le_refl _)
      omega
  subst e
  exact ⟨rfl, Bool.eq_iff_iff.2 (h'.there.trans h.there.symm)⟩
theorem place_is {rd : List (Int × Int)} (hA : AscR rd) (id : Int) : ∃ k b, PlaceR rd id k b := by
  have key : ∀ n, n ≤ rd.length → (∀ j (hj : j < rd.length), j < n → rd[j].1 < id) ∨ ∃ k, ∃ hk : k < rd.length, (∀ j (hj : j < rd.length), j < k → rd[j].1 < id) ∧ id ≤ rd[k].1 := by
    intro n
    induction n with
    | zero => exact fun _ => .inl fun j _ hj => absurd hj (Nat.not_lt_zero _)
    | succ n ih =>
      intro hn
      rcases ih (by omega) with h | h
      · by_cases hx : (rd[n]'(by omega)).1 < id
        · refine .inl fun j hj hjn => ?_
          by_cases e : j = n
          · subst e; exact hx
          · exact h j hj (by omega)
        · exact .inr ⟨n, by omega, h, by omega⟩
      · exact .inr h
  rcases key rd.length (Nat.le_refl _) with h | ⟨k, hk, h1, h2⟩
  · exact ⟨rd.length, false, Nat.le_refl _, h, fun j hj hk => absurd hj (by omega), by simp⟩
  · have hi : ∀ j (hj : j < rd.length), k ≤ j → id ≤ rd[j].1 := fun j hj hkj => by
      by_cases e : j = k
      · subst e; exact h2
      · have := hA k j hk hj (by omega); omega
    exact ⟨k, decide (rd[k].1 = id), by omega, h1, hi, by simp [hk]⟩
theorem PlaceR.join {rd : List (Int × Int)} {id : Int} {k : Nat} (h : PlaceR rd id k false) (hA : AscR rd) : joinL rd id = rd.take k ++ (id, 0) :: rd.drop k := by
  have hn := ((h.at hA).2 rfl).2
  have e : rd = rd.take k ++ rd.drop k := (List.take_append_drop k rd).symm
  have h1 : (rd.take k).filter (fun r => decide (r.1 < id)) = rd.take k := List.filter_eq_self.2 fun r hr => by
    obtain ⟨j, hj, rfl⟩ := List.getElem_of_mem hr
    rw [List.length_take] at hj
    rw [List.getElem_take]
    exact decide_eq_true (h.lo j (by omega) (by omega))
  have h2 : (rd.drop k).filter (fun r => decide (r.1 < id)) = [] := List.filter_eq_nil_iff.2 fun r hr => by
    obtain ⟨j, hj, rfl⟩ := List.getElem_of_mem hr
    rw [List.length_drop] at hj
    rw [List.getElem_drop]
    have := h.hi (k + j) (by omega) (by omega)
    simp; omega
  have h3 : (rd.take k).filter (fun r => decide (id < r.1)) = [] := List.filter_eq_nil_iff.2 fun r hr => by
    obtain ⟨j, hj, rfl⟩ := List.getElem_of_mem hr
    rw [List.length_take] at hj
    rw [List.getElem_take]
    have := h.lo j (by omega) (by omega)
    simp; omega
  have h4 : (rd.drop k).filter (fun r => decide (id < r.1)) = rd.drop k := List.filter_eq_self.2 fun r hr => by
    have hm := hn r (List.mem_of_mem_drop hr)
    obtain ⟨j, hj, rfl⟩ := List.getElem_of_mem hr
    rw [List.length_drop] at hj
    rw [List.getElem_drop] at hm ⊢
    have := h.hi (k + j) (by omega) (by omega)
    exact decide_eq_true (by omega)
  have f1 := congrArg (List.filter (fun r : Int × Int => decide (r.1 < id))) e
  rw [List.filter_append, h1, h2, List.append_nil] at f1
  have f2 := congrArg (List.filter (fun r : Int × Int => decide (id < r.1))) e
  rw [List.filter_append, h3, h4, List.nil_append] at f2
  unfold joinL
  rw [f1, f2, List.append_assoc]
  rfl
theorem okM_parts {S : Stm} (h : okM S = true) : rdOkTo S.text.size S.rd S.rd.length = true ∧ inI S.st 1 3 = true ∧ S.text.size ≤ 400 ∧ S.rd.length ≤ 6 := by
  unfold okM at h
  simp only [Bool.and_eq_true, decide_eq_true_eq] at h
  exact ⟨h.1, h.2.1.1, h.2.1.2, h.2.2⟩
theorem okM_asc {S : Stm} (h : okM S = true) : AscR S.rd := rdOkTo_asc (okM_parts h).1
theorem okM_of {S : Stm} (h1 : rdOkTo S.text.size S.rd S.rd.length = true) (h2 : inI S.st 1 3 = true) (h3 : S.text.size ≤ 400) (h4 : S.rd.length ≤ 6) : okM S = true := by
  unfold okM
  rw [h1, h2, decide_eq_true h3, decide_eq_true h4]
  rfl
theorem join_asc {rd : List (Int × Int)} {id : Int} {k : Nat} (h : PlaceR rd id k false) (hA : AscR rd) (x : Int) : AscR (rd.take k ++ (id, x) :: rd.drop k) := by
  have hn := ((h.at hA).2 rfl).2
  have hp := asc_pair.1 hA
  rw [asc_pair]
  have e : rd = rd.take k ++ rd.drop k := (List.take_append_drop k rd).symm
  rw [e, List.pairwise_append] at hp
  rw [List.pairwise_append, List.pairwise_cons]
  refine ⟨hp.1, ⟨fun r hr => ?_, hp.2.1⟩, fun a ha b hb => ?_⟩
  · have hm := hn r (List.mem_of_mem_drop hr)
    obtain ⟨j, hj, rfl⟩ := List.getElem_of_mem hr
    rw [List.length_drop] at hj
    rw [List.getElem_drop] at hm ⊢
    have := h.hi (k + j) (by omega) (by omega)
    show id < _
    omega
  · rcases List.mem_cons.1 hb with rfl | hb
    · obtain ⟨j, hj, rfl⟩ := List.getElem_of_mem ha
      rw [List.length_take] at hj
      rw [List.getElem_take]
      exact h.lo j (by omega) (by omega)
    · exact hp.2.2 a ha b hb
theorem join_ok {S : Stm} {id : Int} {k : Nat} (hok : okM S = true) (h : PlaceR S.rd id k false) : okM ⟨S.st, S.text, S.rd.take k ++ (id, 0) :: S.rd.drop k⟩ = (inI id 1 9 && !decide (S.rd.length = 6)) := by
  obtain ⟨h1, h2, h3, h4⟩ := okM_parts hok
  have hA := rdOkTo_asc h1
  have hl : (S.rd.take k ++ (id, 0) :: S.rd.drop k).length = S.rd.length + 1 := by have := h.le; simp; omega
  have hb := ((rdOk_iff _ _).1 h1).1
  by_cases hi : inI id 1 9 = true
  · rw [hi]
    by_cases h6 : S.rd.length = 6
    · rw [decide_eq_true h6]
      show okM _ = false
      rw [Bool.eq_false_iff]
      intro e
      have := (okM_parts e).2.2.2
      dsimp only at this
      omega
    · rw [decide_eq_false h6]
      show okM _ = true
      refine okM_of ((rdOk_iff _ _).2 ⟨fun r hr => ?_, join_asc h hA 0⟩) h2 h3 (by dsimp only; omega)
      rcases List.mem_append.1 hr with hr | hr
      · exact hb r (List.mem_of_mem_take hr)
      · rcases List.mem_cons.1 hr with rfl | hr
        · exact ⟨hi, by unfold inI; exact decide_eq_true ⟨by simp, by simp⟩⟩
        · exact hb r (List.mem_of_mem_drop hr)
  · rw [Bool.not_eq_true] at hi
    rw [hi]
    show okM _ = false
    rw [Bool.eq_false_iff]
    intro e
    have := ((rdOk_iff _ _).1 (okM_parts e).1).1 (id, 0) (by simp)
    rw [hi] at this
    exact absurd this.1 (by decide)
theorem joinM_there {S : Stm} {id : Int} {k : Nat} (hok : okM S = true) (h : PlaceR S.rd id k true) : joinM S id = (S, false) := by
  have ha := ((h.at (okM_asc hok)).1 rfl).1
  unfold joinM
  rw [if_neg]
  rw [ha, decide_eq_true (show (0 : Int) ≤ (k : Int) by omega)]
  simp
theorem joinM_new {S : Stm} {id : Int} {k : Nat} (hok : okM S = true) (h : PlaceR S.rd id k false) : joinM S id = if (inI id 1 9 && !decide (S.rd.length = 6)) = true then (⟨S.st, S.text, S.rd.take k ++ (id, 0) :: S.rd.drop k⟩, true) else (S, false) := by
  have ha := ((h.at (okM_asc hok)).2 rfl).1
  have hj := h.join (okM_asc hok)
  unfold joinM
  rw [ha, hj, join_ok hok h, hok]
  simp
end Go.Proofs.Ytmpnjijbahjinaf
