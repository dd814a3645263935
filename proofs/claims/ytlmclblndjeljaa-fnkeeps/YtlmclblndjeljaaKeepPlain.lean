/- What is left of a right disk: right, wholly kept, and nothing more is lost: plain, no program. -/
import Derived.Test.YtlmclblndjeljaaActsPlain
import Derived.Test.YtlmclblndjeljaaLosePlain
namespace Go.Proofs.Ytlmclblndjeljaa
open Go.RowKit

theorem loseL_len {L : List Fil} (h : dOk L = true) (left : List Int) : (loseL L left).length = L.length := by
  unfold loseL; rw [if_pos h, loseTo_length]
theorem loseL_at {L : List Fil} (h : dOk L = true) (left : List Int) {j : Nat} (hj : j < L.length) (hj' : j < (loseL L left).length) : (loseL L left)[j] = cutF L[j] (toldAt left j) := by
  have e : loseL L left = loseTo L left L.length := by unfold loseL; rw [if_pos h]
  simp only [e, loseTo, List.getElem_map, List.getElem_range]
  simp [List.getD, List.getElem?_eq_getElem hj]
theorem cut_size {f : Fil} (h : fOk f = true) (t : Int) : ((cutF f t).tx.size : Int) = lossN f t := by
  have := lossN_in h t
  simp only [cutF, ByteArray.size_extract]
  omega
theorem cut_ok {f : Fil} (h : fOk f = true) (t : Int) : fOk (cutF f t) = true := by
  have h1 := lossN_in h t
  have h2 := cut_size h t
  have h3 := fOk_nm h
  have h4 := fOk_tx h
  have h5 : (cutF f t).nm = f.nm := rfl
  have h6 : (cutF f t).kp = lossN f t := rfl
  simp only [fOk, nOk, Bool.and_eq_true, decide_eq_true_eq, h5, h6]
  omega
theorem cut_whole {f : Fil} (h : fOk f = true) (t : Int) : wholeF (cutF f t) = true := by
  have h2 := cut_size h t
  have h6 : (cutF f t).kp = lossN f t := rfl
  simp only [wholeF, decide_eq_true_eq, h6]
  omega
theorem cut_again {f : Fil} (h : fOk f = true) (hw : wholeF f = true) : cutF f 0 = f := by
  have h1 := fOk_kp h
  simp only [wholeF, decide_eq_true_eq] at hw
  have e : lossN f 0 = f.kp := by unfold lossN; split <;> split <;> omega
  unfold cutF
  rw [e]
  have : f.tx.extract 0 f.kp.toNat = f.tx := by
    rw [show f.kp.toNat = f.tx.size by omega]; simp
  rw [this]
theorem lose_rise {L : List Fil} (h : dOk L = true) (left : List Int) : Rise (loseL L left) := by
  have hr := dOk_rise h
  unfold Rise at *
  rw [List.pairwise_iff_getElem] at *
  intro i j hi hj hij
  have hl := loseL_len h left
  rw [loseL_at h left (by omega) hi, loseL_at h left (by omega) hj]
  exact hr i j (by omega) (by omega) hij
theorem lose_all {L : List Fil} (h : dOk L = true) (left : List Int) : ∀ f ∈ loseL L left, fOk f = true ∧ wholeF f = true := by
  intro f hf
  obtain ⟨j, hj, rfl⟩ := List.getElem_of_mem hf
  have hl := loseL_len h left
  rw [loseL_at h left (by omega) hj]
  exact ⟨cut_ok (dOk_at h (by omega)) _, cut_whole (dOk_at h (by omega)) _⟩
theorem lose_dOk {L : List Fil} (h : dOk L = true) (left : List Int) : dOk (loseL L left) = true :=
  rise_dOk (by rw [loseL_len h left]; exact dOk_len h) (lose_rise h left) fun f hf => (lose_all h left f hf).1
theorem lose_aK {L : List Fil} (h : dOk L = true) (left : List Int) : aK (loseL L left) = true := by
  unfold aK
  rw [lose_dOk h left, Bool.true_and, List.all_eq_true]
  exact fun f hf => (lose_all h left f hf).2
theorem lose_again {L : List Fil} (h : dOk L = true) (left : List Int) : loseL (loseL L left) [] = loseL L left := by
  have hd := lose_dOk h left
  have hl := loseL_len hd []
  refine List.ext_getElem hl fun j h1 h2 => ?_
  rw [loseL_at hd [] h2 h1]
  have ha := lose_all h left _ (List.getElem_mem h2)
  have : toldAt [] j = 0 := by simp [toldAt]
  rw [this]
  exact cut_again ha.1 ha.2

/-- One text begins another. -/
def Begins (a b : ByteArray) : Prop := a.size ≤ b.size ∧ b.extract 0 a.size = a
theorem cut_begins {f : Fil} (h : fOk f = true) (t : Int) : Begins (cutF f t).tx f.tx ∧ Begins (f.tx.extract 0 f.kp.toNat) (cutF f t).tx := by
  have h1 := lossN_in h t
  have h2 := cut_size h t
  have h3 := fOk_kp h
  have e : (f.tx.extract 0 f.kp.toNat).size = f.kp.toNat := by rw [ByteArray.size_extract]; omega
  refine ⟨⟨by omega, ?_⟩, ⟨by omega, ?_⟩⟩
  · have : (cutF f t).tx.size = (lossN f t).toNat := by omega
    rw [this]; rfl
  · rw [e]
    show (f.tx.extract 0 (lossN f t).toNat).extract 0 f.kp.toNat = _
    rw [ByteArray.extract_extract]
    congr 1
    omega
theorem wgt_small : ∀ {L : List Fil}, (∀ f ∈ L, fOk f = true) → wgt L ≤ L.length * 20008
  | [], _ => by simp [wgt]
  | f :: L, h => by
    have ih := wgt_small (L := L) fun g hg => h g (List.mem_cons_of_mem _ hg)
    have h1 := fOk_nm (h f (List.mem_cons_self ..))
    have h2 := fOk_tx (h f (List.mem_cons_self ..))
    simp only [wgt, List.length_cons]
    omega
theorem dOk_wgt {L : List Fil} (h : dOk L = true) : L.length + wgt L ≤ 1048576 := by
  have h1 := wgt_small (dOk_all h)
  have h2 := dOk_len h
  have : L.length * 20008 ≤ 30 * 20008 := Nat.mul_le_mul_right _ h2
  omega
end Go.Proofs.Ytlmclblndjeljaa
