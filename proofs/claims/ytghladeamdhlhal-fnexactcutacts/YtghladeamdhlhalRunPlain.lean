/- Acts, one behind the other: plain, no program. -/
import Derived.Test.YtghladeamdhlhalActsPlain
namespace Go.Proofs.Ytghladeamdhlhal
open Go.RowKit

/-- What acts leave of a disk, and how many of them are done. -/
def runL : List Fil → List Ac → List Fil × Nat
  | L, [] => (L, 0)
  | L, A :: As => match ac L A with
    | some X => ((runL X As).1, (runL X As).2 + 1)
    | none => (L, 0)
/-- k of the acts As are done; Lk is what they left. -/
structure Went (L : List Fil) (As : List Ac) (k : Nat) (Lk : List Fil) : Prop where
  le : k ≤ As.length
  all : runL L As = ((runL Lk (As.drop k)).1, (runL Lk (As.drop k)).2 + k)
theorem Went.start (L : List Fil) (As : List Ac) : Went L As 0 L := ⟨Nat.zero_le _, by simp⟩
theorem Went.step {L : List Fil} {As : List Ac} {k : Nat} {Lk X : List Fil} (h : Went L As k Lk) (hk : k < As.length) (hx : ac Lk As[k] = some X) : Went L As (k + 1) X := by
  refine ⟨hk, ?_⟩
  rw [h.all, List.drop_eq_getElem_cons hk]
  simp only [runL, hx]
  congr 1
  omega
theorem Went.fail {L : List Fil} {As : List Ac} {k : Nat} {Lk : List Fil} (h : Went L As k Lk) (hk : k < As.length) (hx : ac Lk As[k] = none) : runL L As = (Lk, k) := by
  rw [h.all, List.drop_eq_getElem_cons hk]
  simp [runL, hx]
theorem Went.done {L : List Fil} {As : List Ac} {Lk : List Fil} (h : Went L As As.length Lk) : runL L As = (Lk, As.length) := by
  rw [h.all]
  simp [runL]
theorem runL_bad {L : List Fil} (h : dOk L = false) (As : List Ac) : runL L As = (L, 0) := by
  cases As with
  | nil => rfl
  | cons A As => simp [runL, ac, h]
theorem runL_le (As : List Ac) : ∀ L, (runL L As).2 ≤ As.length := by
  induction As with
  | nil => intro L; simp [runL]
  | cons A As ih =>
    intro L
    simp only [runL]
    split
    · rename_i X _
      have := ih X
      simp
      exact this
    · simp
theorem runL_len (As : List Ac) : ∀ L, (runL L As).1.length ≤ max L.length 30 := by
  induction As with
  | nil => intro L; simp [runL]; omega
  | cons A As ih =>
    intro L
    simp only [runL]
    split
    · rename_i X h
      have h1 := ih X
      have h2 := dOk_len (ac_dOk h)
      simp only
      omega
    · simp only; omega
theorem ac_ok {L : List Fil} (h : dOk L = true) (A : Ac) : ac L A = doL L A := by unfold ac; rw [if_pos h]
end Go.Proofs.Ytghladeamdhlhal
