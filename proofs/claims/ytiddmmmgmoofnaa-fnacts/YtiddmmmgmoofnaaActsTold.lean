/- What is told of a file behind an act: plain, no program. -/
import Derived.Test.YtiddmmmgmoofnaaRunPlain
namespace Go.Proofs.Ytiddmmmgmoofnaa
open Go.RowKit

theorem find_some {L : List Fil} {f : Fil} (hr : Rise L) (hf : f ∈ L) : L.find? (fun g => eqS g.nm f.nm) = some f := by
  induction L with
  | nil => simp at hf
  | cons g L ih =>
    have hp := List.pairwise_cons.1 hr
    rcases List.mem_cons.1 hf with rfl | h
    · simp [eqS_refl]
    · have h1 := ltS_ne (hp.1 f h)
      simp only [List.find?_cons, h1]
      exact ih hp.2 h
theorem fileAt_put {L : List Fil} (hr : Rise L) (f : Fil) : fileAt (putL L f) f.nm = (f.tx, true) := by
  unfold fileAt
  rw [find_some (rise_putL hr f) (mem_putL.2 (.inl rfl))]
theorem fileAt_wo (L : List Fil) (nm : ByteArray) : (fileAt (woL L nm) nm).2 = false := by
  unfold fileAt
  have : (woL L nm).find? (fun f => eqS f.nm nm) = none := by
    rw [List.find?_eq_none]
    intro g hg
    have := (List.mem_filter.1 hg).2
    simpa using this
  rw [this]
theorem ac_add {L X : List Fil} {A : Ac} (h : ac L A = some X) (hk : A.kd = 1) : fileAt X A.nm = ((fileAt L A.nm).1 ++ A.tx, true) := by
  have hd : dOk L = true := by
    unfold ac at h
    split at h
    · assumption
    · cases h
  rw [ac_ok hd] at h
  have hr := dOk_rise hd
  unfold doL at h
  split at h
  · cases h
  · split at h
    · rename_i hfn
      unfold newL at h
      split at h
      · cases h
        have := fileAt_put hr (⟨A.nm, A.tx, 0⟩ : Fil)
        simp only at this
        rw [this]
        unfold fileAt
        rw [hfn]
        simp only [empty_append]
      · cases h
    · rename_i f hfs
      unfold addL at h
      have hnm : f.nm = A.nm := eqS_iff.1 (by have := List.find?_some hfs; simpa using this)
      split at h
      · cases h
        have := fileAt_put hr (⟨f.nm, f.tx ++ A.tx, f.kp⟩ : Fil)
        simp only at this
        rw [hnm] at this ⊢
        rw [this]
        unfold fileAt
        rw [hfs]
      · cases h
theorem ac_drop {L X : List Fil} {A : Ac} (h : ac L A = some X) (hk : A.kd = 4) : (fileAt X A.nm).2 = false := by
  have hd : dOk L = true := by
    unfold ac at h
    split at h
    · assumption
    · cases h
  rw [ac_ok hd] at h
  unfold doL at h
  split at h
  · cases h
  · split at h
    · rw [if_neg (by omega)] at h; cases h
    · rename_i f hfs
      have hnm : f.nm = A.nm := eqS_iff.1 (by have := List.find?_some hfs; simpa using this)
      rw [if_neg (by omega : ¬ A.kd = 1), if_neg (by omega : ¬ A.kd = 2), if_neg (by omega : ¬ A.kd = 3)] at h
      cases h
      rw [hnm]
      exact fileAt_wo L A.nm
/-- As long as not all of the acts that may be done are done, the next one may. -/
theorem Went.more {L : List Fil} {As : List Ac} {k : Nat} {Lk : List Fil} (h : Went L As k Lk) (hk : k < (runL L As).2) : ∃ (hlt : k < As.length) (X : List Fil), ac Lk As[k] = some X := by
  have hlt : k < As.length := Nat.lt_of_lt_of_le hk (runL_le As L)
  refine ⟨hlt, ?_⟩
  cases hx : ac Lk As[k] with
  | some X => exact ⟨X, rfl⟩
  | none => have := h.fail hlt hx; rw [this] at hk; simp at hk
/-- When all that may be done are done, what is left is what they leave all at once. -/
theorem Went.all_done {L : List Fil} {As : List Ac} {k : Nat} {Lk : List Fil} (h : Went L As k Lk) (hk : k = (runL L As).2) : (runL L As).1 = Lk := by
  by_cases hlt : k < As.length
  · cases hx : ac Lk As[k] with
    | some X =>
      have h1 := (h.step hlt hx).all
      have := congrArg Prod.snd h1
      simp at this
      omega
    | none => rw [h.fail hlt hx]
  · have he : k = As.length := by have := h.le; omega
    subst he
    rw [h.done]
end Go.Proofs.Ytiddmmmgmoofnaa
