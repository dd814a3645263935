/- One act on a disk, as both texts tell it: plain, no program. -/
import Derived.Test.YtghladeamdhlhalDoPlain
namespace Go.Proofs.Ytghladeamdhlhal
open Go.RowKit

theorem mem_putL {L : List Fil} {f g : Fil} : g ∈ putL L f ↔ g = f ∨ (g ∈ L ∧ eqS g.nm f.nm = false) := by
  unfold putL
  simp only [List.mem_append, List.mem_filter, List.mem_singleton]
  constructor
  · rintro ((⟨h1, h2⟩ | h) | ⟨h1, h2⟩)
    · exact .inr ⟨h1, ltS_ne h2⟩
    · exact .inl h
    · exact .inr ⟨h1, by simp at h2; exact h2.2⟩
  · rintro (h | ⟨h1, h2⟩)
    · exact .inl (.inr h)
    · cases hl : ltS g.nm f.nm with
      | true => exact .inl (.inl ⟨h1, rfl⟩)
      | false => exact .inr ⟨h1, by simp [h2]⟩
theorem putL_len (L : List Fil) (f : Fil) : (putL L f).length ≤ L.length + 1 := by
  have : ∀ L : List Fil, (L.filter fun g => ltS g.nm f.nm).length + (L.filter fun g => !(ltS g.nm f.nm || eqS g.nm f.nm)).length ≤ L.length := by
    intro L
    induction L with
    | nil => simp
    | cons g L ih =>
      simp only [List.filter_cons, List.length_cons]
      cases h1 : ltS g.nm f.nm <;> cases h2 : eqS g.nm f.nm <;> simp at ih ⊢ <;> omega
  have := this L
  simp only [putL, List.length_append, List.length_singleton]
  omega
theorem putL_len_new {L : List Fil} {f : Fil} (h : ∀ g ∈ L, eqS g.nm f.nm = false) : (putL L f).length = L.length + 1 := by
  have : ∀ L : List Fil, (∀ g ∈ L, eqS g.nm f.nm = false) → (L.filter fun g => ltS g.nm f.nm).length + (L.filter fun g => !(ltS g.nm f.nm || eqS g.nm f.nm)).length = L.length := by
    intro L hL
    induction L with
    | nil => simp
    | cons g L ih =>
      have h2 := hL g (by simp)
      have ih' := ih (fun r hr => hL r (by simp [hr]))
      simp only [List.filter_cons, List.length_cons, h2]
      cases h1 : ltS g.nm f.nm <;> simp at ih' ⊢ <;> omega
  have := this L h
  simp only [putL, List.length_append, List.length_singleton]
  omega
theorem rise_putL {L : List Fil} (h : Rise L) (f : Fil) : Rise (putL L f) := by
  unfold Rise putL at *
  rw [List.append_assoc, List.pairwise_append]
  refine ⟨h.filter _, ?_, ?_⟩
  · rw [List.singleton_append, List.pairwise_cons]
    refine ⟨fun g hg => ?_, h.filter _⟩
    have := (List.mem_filter.1 hg).2
    rw [gtS_iff] at this
    exact this
  · intro g hg r hr
    have h1 := (List.mem_filter.1 hg).2
    rw [List.singleton_append, List.mem_cons] at hr
    rcases hr with rfl | hr
    · exact h1
    · have h2 := (List.mem_filter.1 hr).2
      rw [gtS_iff] at h2
      exact ltS_trans h1 h2
theorem dOk_all {L : List Fil} (h : dOk L = true) : ∀ f ∈ L, fOk f = true := by
  intro f hf
  obtain ⟨j, hj, rfl⟩ := List.getElem_of_mem hf
  exact dOk_at h hj
theorem dOk_put {L : List Fil} {f : Fil} (h : dOk L = true) (hf : fOk f = true) (hl : (putL L f).length ≤ 30) : dOk (putL L f) = true := by
  refine rise_dOk hl (rise_putL (dOk_rise h) f) ?_
  intro g hg
  rcases mem_putL.1 hg with rfl | ⟨hg, _⟩
  · exact hf
  · exact dOk_all h g hg
theorem dOk_put_bad {L : List Fil} {f : Fil} (hf : fOk f = false) : dOk (putL L f) = false := by
  cases h : dOk (putL L f) with
  | false => rfl
  | true =>
    have := dOk_all h f (mem_putL.2 (.inl rfl))
    rw [hf] at this
    cases this
theorem dOk_wo {L : List Fil} (h : dOk L = true) (nm : ByteArray) : dOk (woL L nm) = true := by
  refine rise_dOk (Nat.le_trans (woL_len L nm) (dOk_len h)) ((dOk_rise h).filter _) ?_
  intro g hg
  exact dOk_all h g (List.mem_filter.1 hg).1
theorem putL_edit {L : List Fil} {f' : Fil} (hL : Rise L) (h : ∃ f ∈ L, f.nm = f'.nm) : (putL L f').length = L.length := by
  obtain ⟨f, hf, hn⟩ := h
  have hr : RiseM (L.map fun f => (f, 0)) := by
    unfold RiseM
    rw [List.pairwise_map]
    exact hL
  have := edM_fst hr (p := (f, 0)) (List.mem_map.2 ⟨f, hf, rfl⟩) hn
  rw [List.map_map, show ((fun x : Fil × Nat => x.1) ∘ fun f => (f, 0)) = id from rfl, List.map_id] at this
  rw [← this]
  simp [edM]
theorem wo_len_lt {L : List Fil} {f : Fil} (hf : f ∈ L) : (woL L f.nm).length + 1 ≤ L.length := by
  have : (woL L f.nm).length < L.length := by
    unfold woL
    rw [List.length_filter_lt_length_iff_exists]
    exact ⟨f, hf, by simp [eqS_refl]⟩
  omega

/-- What an act leaves of a disk. -/
def ac (L : List Fil) (a : Ac) : Option (List Fil) := if dOk L = true then doL L a else none

theorem doL_dOk {L X : List Fil} {a : Ac} (hd : dOk L = true) (h : doL L a = some X) : dOk X = true := by
  unfold doL at h
  split at h
  · cases h
  · cases hf : L.find? (fun f => eqS f.nm a.nm) with
    | none =>
      rw [hf] at h
      simp only at h
      split at h
      · unfold newL at h
        split at h
        · rename_i hk hc
          cases h
          have hl := dOk_len hd
          refine dOk_put hd ?_ (Nat.le_trans (putL_len _ _) (by omega))
          simp only [fOk, hc.2.1, Bool.true_and, Bool.and_eq_true, decide_eq_true_eq]
          omega
        · cases h
      · cases h
    | some f =>
      have hm := List.mem_of_find?_eq_some hf
      have hnm : f.nm = a.nm := eqS_iff.1 (by simpa using List.find?_some hf)
      have hfo := dOk_all hd f hm
      have hl := dOk_len hd
      rw [hf] at h
      simp only at h
      have hk := fOk_kp hfo
      have ht := fOk_tx hfo
      have hn : nOk f.nm = true := by simp only [fOk, Bool.and_eq_true] at hfo; exact hfo.1
      split at h
      · unfold addL at h
        split at h
        · rename_i hc
          cases h
          refine dOk_put hd ?_ (Nat.le_trans (Nat.le_of_eq (putL_edit (dOk_rise hd) ⟨f, hm, rfl⟩)) hl)
          simp only [fOk, hn, Bool.true_and, Bool.and_eq_true, decide_eq_true_eq, ByteArray.size_append]
          omega
        · cases h
      · split at h
        · cases h
          refine dOk_put hd ?_ (Nat.le_trans (Nat.le_of_eq (putL_edit (dOk_rise hd) ⟨f, hm, rfl⟩)) hl)
          simp only [fOk, hn, Bool.true_and, Bool.and_eq_true, decide_eq_true_eq]
          omega
        · split at h
          · unfold moveL at h
            split at h
            · rename_i hc
              cases h
              refine dOk_put (dOk_wo hd _) ?_ (Nat.le_trans (putL_len _ _) (Nat.le_trans (wo_len_lt hm) hl))
              simp only [fOk, hc.2.1, Bool.true_and, Bool.and_eq_true, decide_eq_true_eq]
              omega
            · cases h
          · split at h
            · cases h
              exact dOk_wo hd _
            · cases h
theorem ac_dOk {L X : List Fil} {a : Ac} (h : ac L a = some X) : dOk X = true := by
  unfold ac at h
  split at h
  · rename_i hd
    exact doL_dOk hd h
  · cases h

/-- The act as the other text tells it: what it makes of a right disk, ahead of the look whether that is right. -/
def spO (L : List Fil) (a : Ac) : Option (List Fil) :=
  if a.kd = 1 then some (putL L (match L.find? (fun f => eqS f.nm a.nm) with | some f => ⟨f.nm, f.tx ++ a.tx, f.kp⟩ | none => ⟨a.nm, ⟨#[]⟩ ++ a.tx, 0⟩))
  else match L.find? (fun f => eqS f.nm a.nm) with
  | none => none
  | some f =>
    if a.kd = 2 then some (putL L ⟨f.nm, f.tx, f.tx.size⟩)
    else if a.kd = 3 then (if f.kp < f.tx.size ∨ eqS a.to a.nm = true ∨ nOk a.to = false then none else some (putL (woL L a.nm) ⟨a.to, f.tx, f.kp⟩))
    else if a.kd = 4 then some (woL L a.nm)
    else none
def spA (L : List Fil) (a : Ac) : Option (List Fil) :=
  if dOk L = true ∧ nOk a.nm = true ∧ ¬ (a.kd ≠ 3 ∧ isE a.to = false) ∧ ¬ (a.kd ≠ 1 ∧ isE a.tx = false) then (match spO L a with | some X => if dOk X = true then some X else none | none => none) else none

theorem empty_append (s : ByteArray) : (⟨#[]⟩ : ByteArray) ++ s = s := by
  cases s
  rw [ByteArray.mk_append_mk]
  simp
theorem spA_ac (L : List Fil) (a : Ac) : spA L a = ac L a := by
  unfold spA ac
  by_cases hd : dOk L = true
  · rw [if_pos hd]
    by_cases hb : (isE a.tx = false ∧ a.kd ≠ 1) ∨ (isE a.to = false ∧ a.kd ≠ 3)
    · rw [if_neg (by rintro ⟨_, _, h3, h4⟩; rcases hb with h | h; exact h4 ⟨h.2, h.1⟩; exact h3 ⟨h.2, h.1⟩)]
      unfold doL
      rw [if_pos hb]
    · cases hn : nOk a.nm with
      | false =>
        rw [if_neg (by simp)]
        have hf : L.find? (fun f => eqS f.nm a.nm) = none := by
          rw [List.find?_eq_none]
          intro f hf he
          have hfo := dOk_all hd f hf
          simp only [fOk, Bool.and_eq_true] at hfo
          have he' : f.nm = a.nm := eqS_iff.1 (by simpa using he)
          rw [he', hn] at hfo
          cases hfo.1
        unfold doL
        rw [if_neg hb, hf]
        simp only
        split
        · unfold newL
          rw [if_neg (by simp [hn])]
        · rfl
      | true =>
        rw [if_pos ⟨hd, rfl, fun h => hb (.inr ⟨h.2, h.1⟩), fun h => hb (.inl ⟨h.2, h.1⟩)⟩]
        have hl := dOk_len hd
        unfold spO
        cases hD : doL L a with
        | some X =>
          have hX := doL_dOk hd hD
          have hD0 := hD
          unfold doL at hD
          rw [if_neg hb] at hD
          cases hf : L.find? (fun f => eqS f.nm a.nm) with
          | none =>
            rw [hf] at hD
            simp only at hD ⊢
            split at hD
            · rename_i hk
              unfold newL at hD
              split at hD
              · cases hD
                rw [if_pos hk, empty_append]
                simp only
                rw [if_pos hX]
              · cases hD
            · cases hD
          | some f =>
            have hnm : f.nm = a.nm := eqS_iff.1 (by simpa using List.find?_some hf)
            rw [hf] at hD
            simp only at hD ⊢
            by_cases k1 : a.kd = 1
            · rw [if_pos k1] at hD ⊢
              unfold addL at hD
              split at hD
              · cases hD
                simp only
                rw [if_pos hX]
              · cases hD
            · rw [if_neg k1] at hD ⊢
              by_cases k2 : a.kd = 2
              · rw [if_pos k2] at hD ⊢
                cases hD
                simp only
                rw [if_pos hX]
              · rw [if_neg k2] at hD ⊢
                by_cases k3 : a.kd = 3
                · rw [if_pos k3] at hD ⊢
                  unfold moveL at hD
                  split at hD
                  · rename_i hc
                    cases hD
                    have hw : f.kp = f.tx.size := by simpa [wholeF] using hc.2.2
                    rw [hnm] at hc hX ⊢
                    rw [if_neg (by simp [hc.1, hc.2.1, hw])]
                    simp only
                    rw [if_pos hX]
                  · cases hD
                · rw [if_neg k3] at hD ⊢
                  by_cases k4 : a.kd = 4
                  · rw [if_pos k4] at hD ⊢
                    cases hD
                    rw [hnm] at hX ⊢
                    simp only
                    rw [if_pos hX]
                  · rw [if_neg k4] at hD
                    cases hD
        | none =>
          unfold doL at hD
          rw [if_neg hb] at hD
          cases hf : L.find? (fun f => eqS f.nm a.nm) with
          | none =>
            rw [hf] at hD
            simp only at hD ⊢
            by_cases k1 : a.kd = 1
            · rw [if_pos k1] at hD ⊢
              unfold newL at hD
              split at hD
              · cases hD
              · rename_i hc
                have hall : ∀ g ∈ L, eqS g.nm a.nm = false := fun g hg => by simpa using (List.find?_eq_none.1 hf) g hg
                have hX : dOk (putL L ⟨a.nm, a.tx, 0⟩) = false := by
                  by_cases ht : a.tx.size ≤ 20000
                  · have : L.length = 30 := by
                      refine Classical.byContradiction fun h => hc ⟨h, hn, ht⟩
                    exact dOk_long (by rw [putL_len_new hall]; omega)
                  · refine dOk_put_bad ?_
                    simp [fOk, ht]
                rw [empty_append]
                simp only
                rw [if_neg (by rw [hX]; decide)]
            · rw [if_neg k1]
          | some f =>
            have hnm : f.nm = a.nm := eqS_iff.1 (by simpa using List.find?_some hf)
            have hm := List.mem_of_find?_eq_some hf
            have hfo := dOk_all hd f hm
            have hkp := fOk_kp hfo
            rw [hf] at hD
            simp only at hD ⊢
            by_cases k1 : a.kd = 1
            · rw [if_pos k1] at hD ⊢
              unfold addL at hD
              split at hD
              · cases hD
              · rename_i hc
                simp only
                rw [if_neg]
                rw [dOk_put_bad (by simp [fOk, ByteArray.size_append]; omega)]
                decide
            · rw [if_neg k1] at hD ⊢
              by_cases k2 : a.kd = 2
              · rw [if_pos k2] at hD; cases hD
              · rw [if_neg k2] at hD ⊢
                by_cases k3 : a.kd = 3
                · rw [if_pos k3] at hD ⊢
                  unfold moveL at hD
                  split at hD
                  · cases hD
                  · rename_i hc
                    rw [if_pos]
                    refine Classical.byContradiction fun h => hc ?_
                    simp only [not_or] at h
                    refine ⟨by rw [hnm]; simpa using h.2.1, by simpa using h.2.2, ?_⟩
                    simp only [wholeF, decide_eq_true_eq]
                    omega
                · rw [if_neg k3] at hD ⊢
                  by_cases k4 : a.kd = 4
                  · rw [if_pos k4] at hD; cases hD
                  · rw [if_neg k4]
  · rw [if_neg hd, if_neg (by simp [hd])]
end Go.Proofs.Ytghladeamdhlhal
