/- Acts, of which the power leaves some: plain, no program. -/
import Derived.Test.YtghladeamdhlhalRunPlain
import Derived.Test.YtghladeamdhlhalLosePlain
import Derived.Test.YtghladeamdhlhalActs
namespace Go.Proofs.Ytghladeamdhlhal
open Go.RowKit

/-- What the first n acts leave, and the power of that. -/
def cutN (L : List Fil) (As : List Ac) (n : Nat) (left : List Int) : List Fil × Bool := if (runL L (As.take n)).2 < n then ([], false) else (loseL (runL L (As.take n)).1 left, dOk (runL L (As.take n)).1)
def cutR (L : List Fil) (As : List Ac) (wh : Int) (left : List Int) : List Fil × Bool := if 0 ≤ wh ∧ wh ≤ As.length then cutN L As wh.toNat left else ([], false)
theorem cutR_in {L : List Fil} {As : List Ac} {n : Nat} {left : List Int} (h : n ≤ As.length) : cutR L As (n : Int) left = cutN L As n left := by
  unfold cutR
  rw [if_pos (by omega)]
  simp
theorem cutR_out {L : List Fil} {As : List Ac} {wh : Int} {left : List Int} (h : ¬ (0 ≤ wh ∧ wh ≤ As.length)) : cutR L As wh left = ([], false) := by unfold cutR; rw [if_neg h]
theorem dOk_wgt {X : List Fil} (h : dOk X = true) : X.length + wgt X ≤ 1048576 := by
  have hl := dOk_len h
  have hall := dOk_all h
  have : ∀ Y : List Fil, (∀ f ∈ Y, fOk f = true) → wgt Y ≤ Y.length * 20008 := by
    intro Y hY
    induction Y with
    | nil => simp [wgt]
    | cons f Y ih =>
      have h1 := ih (fun g hg => hY g (by simp [hg]))
      have h2 := hY f (by simp)
      have h3 := fOk_tx h2
      have h4 := (fOk_nm h2).2
      simp only [wgt, List.length_cons]
      omega
  have := this X hall
  omega
theorem runL_wgt (As : List Ac) : ∀ L, L.length + wgt L ≤ 1048576 → (runL L As).1.length + wgt (runL L As).1 ≤ 1048576 := by
  induction As with
  | nil => intro L h; simpa [runL] using h
  | cons A As ih =>
    intro L h
    simp only [runL]
    split
    · rename_i X hx
      exact ih X (dOk_wgt (ac_dOk hx))
    · exact h
theorem loseL_short (L : List Fil) (left : List Int) : (loseL L left).length ≤ L.length := by
  unfold loseL; split
  · rw [loseTo_length]; exact Nat.le_refl _
  · simp
theorem cutR_len (L : List Fil) (As : List Ac) (wh : Int) (left : List Int) (hm : L.length ≤ 1048576) : (cutR L As wh left).1.length ≤ 1048576 := by
  unfold cutR cutN
  split
  · split
    · simp
    · have h1 := loseL_short (runL L (As.take wh.toNat)).1 left
      have h2 := runL_len (As.take wh.toNat) L
      simp only
      omega
  · simp
theorem AAt.take {w : World} {a : Option Addr} {L : List Ac} {B : Nat} (h : AAt w a L B) (n : Nat) : AAt w a (L.take n) B := by
  intro j hj
  rw [List.length_take] at hj
  obtain ⟨g, off, h1, h2, h3⟩ := h j (by omega)
  rw [List.getElem_take]
  exact ⟨g, off, h1, h2, h3⟩
theorem SizedA.take {L : List Ac} (h : SizedA L) (n : Nat) : SizedA (L.take n) := by
  intro j hj
  rw [List.length_take] at hj
  rw [List.getElem_take]
  exact h j (by omega)
theorem awg_take_le (L : List Ac) (n : Nat) : awg (L.take n) ≤ awg L := by
  have := awg_append (L.take n) (L.drop n)
  rw [List.take_append_drop] at this
  omega
/-- How a slice of acts lies that a call may cut. -/
def Cuts (b : Option Addr) (n cap : Nat) : Prop := (b = none ∧ n = 0 ∧ cap = 0) ∨ ∃ g, b = some ⟨g, 0, none⟩ ∧ n ≤ cap
theorem OwnA.cuts {w : World} {base : Nat} {e : TypeId} {b : Option Addr} {cap : Nat} {L : List Ac} (h : OwnA w base e (.slice b L.length cap) L) : Cuts b L.length cap := by
  rcases h.2 with ⟨hv, hn⟩ | ⟨g, cap', cur, hv, _, _, hc, _⟩
  · simp only [Value.slice.injEq] at hv
    exact .inl ⟨hv.1, hn, hv.2.2⟩
  · simp only [Value.slice.injEq] at hv
    exact .inr ⟨g, hv.1, by omega⟩
end Go.Proofs.Ytghladeamdhlhal
