/- How much is left of a policy. Plain, no program. -/
import Derived.Test.YtbcjkinalghokatPolLaw
namespace Go.Proofs.Ytbcjkinalghokat
open Go.RowKit

theorem wgtL_without (l : List ByteArray) (s : ByteArray) : (without l s).length + wgtL (without l s) ≤ l.length + wgtL l := by
  induction l with
  | nil => simp [without, wgtL]
  | cons a r ih =>
    by_cases e : a = s
    · have h1 : without (a :: r) s = without r s := by simp [without, e]
      rw [h1]
      simp only [List.length_cons, wgtL, List.map_cons, List.sum_cons] at ih ⊢
      omega
    · have h1 : without (a :: r) s = a :: without r s := by simp [without, e]
      rw [h1]
      simp only [List.length_cons, wgtL, List.map_cons, List.sum_cons] at ih ⊢
      omega
theorem dropP_sz {P : Pol} (key : ByteArray) (h : PolSz P) : PolSz (dropP P key) := by
  unfold PolSz wgtP dropP at *
  have h1 := wgtL_without P.win key
  have h2 := wgtL_without P.main key
  dsimp only
  omega
theorem wgtL_keys {l : List ByteArray} (h : ∀ z ∈ l, keyOk z = true) : wgtL l ≤ 30 * l.length := by
  induction l with
  | nil => simp [wgtL]
  | cons a r ih =>
    have h1 := ih (fun z hz => h z (List.mem_cons_of_mem _ hz))
    have h2 := h a (List.mem_cons_self ..)
    simp only [keyOk, decide_eq_true_eq] at h2
    simp only [wgtL, List.map_cons, List.sum_cons, List.length_cons] at h1 ⊢
    omega
/-- A right policy is small. -/
theorem okP_wgt {P : Pol} (h : okP P = true) : wgtP P ≤ 300 := by
  obtain ⟨h1, h2, _, _, _, h6, h7, h8⟩ := okP_iff.1 h
  obtain ⟨a, b, c, e, ra, rb, rc, _, _⟩ := okK_parts h8
  have w1 := wgtL_keys h1
  have w2 := wgtL_keys h2
  have hl : P.sk.rows.length = 3 := by rw [e]; rfl
  have ht : tot P.sk.rows P.sk.rows.length = 48 := by
    rw [hl, e]
    simp [tot, rowOk_len ra, rowOk_len rb, rowOk_len rc]
  unfold wgtP
  omega
theorem okP_sz {P : Pol} (h : okP P = true) : PolSz P := by
  have := okP_wgt h
  unfold PolSz
  omega
end Go.Proofs.Ytbcjkinalghokat
