/- A task that steps alone: plain, no program. -/
import Derived.Test.YtockgojdmaladabStepSpec
namespace Go.Proofs.Ytockgojdmaladab
open Go.RowKit

/-- A list that steps may change. -/
def Good (l : List Int) : Prop := l.length = 63 ∧ l.all nOkC = true
theorem Good.okC {l : List Int} (h : Good l) : okC l = true := okC_true (by have := h.1; omega) (by have := h.1; omega) h.2
theorem Good.set {l : List Int} (h : Good l) (i : Int) {z : Int} (hz : 0 ≤ z ∧ z ≤ 1000000000) : Good (setL6 l i z) := by
  refine ⟨by rw [setL6_len]; exact h.1, ?_⟩
  unfold setL6
  rw [List.all_eq_true]
  intro y hy
  rcases List.mem_or_eq_of_mem_set hy with h1 | rfl
  · exact List.all_eq_true.1 h.2 y h1
  · unfold nOkC; exact decide_eq_true hz
theorem cell_set_eq {l : List Int} (h : Good l) {i z : Int} (hi : 0 ≤ i ∧ i < 63) : cellL6 (setL6 l i z) i = z := by
  unfold cellL6 setL6
  have : i.toNat < l.length := by have := h.1; omega
  simp [List.getD, this]
theorem cell_set_ne {l : List Int} {i j z : Int} (hi : 0 ≤ i) (hj : 0 ≤ j) (h : ¬ j = i) : cellL6 (setL6 l i z) j = cellL6 l j := by
  unfold cellL6 setL6
  have : ¬ i.toNat = j.toNat := by omega
  simp [List.getD, List.getElem?_set_ne this]

/-- From the word x on the nodes ps follow, and then the word y. -/
def Seg (l : List Int) : Int → List (Int × Int × Int) → Int → Prop
  | x, [], y => x = y
  | x, p :: r, y => x = 2 * p.1 ∧ (1 ≤ p.1 ∧ p.1 ≤ 20) ∧ cellL6 l (3 * p.1) = p.2.1 ∧ cellL6 l (3 * p.1 + 1) = p.2.2 ∧ Seg l (cellL6 l (3 * p.1 + 2)) r y
/-- The node of the last of them; 0 without one. -/
def lastN : List (Int × Int × Int) → Int
  | [] => 0
  | [p] => p.1
  | _ :: q :: r => lastN (q :: r)
def nds (ps : List (Int × Int × Int)) : List Int := ps.map (·.1)
def kys (ps : List (Int × Int × Int)) : List Int := ps.map (·.2.1)

theorem seg_append {l : List Int} : ∀ {A B : List (Int × Int × Int)} {x y : Int}, Seg l x (A ++ B) y ↔ ∃ z, Seg l x A z ∧ Seg l z B y
  | [], B, x, y => by simp [Seg]
  | p :: A, B, x, y => by
    simp only [List.cons_append, Seg]
    constructor
    · rintro ⟨h1, h2, h3, h4, h5⟩
      obtain ⟨z, hz, hb⟩ := seg_append.1 h5
      exact ⟨z, ⟨h1, h2, h3, h4, hz⟩, hb⟩
    · rintro ⟨z, ⟨h1, h2, h3, h4, h5⟩, hb⟩
      exact ⟨h1, h2, h3, h4, seg_append.2 ⟨z, h5, hb⟩⟩
theorem seg_frame {l m : List Int} : ∀ {A : List (Int × Int × Int)} {x y : Int}, (∀ n ∈ nds A, cellL6 m (3 * n) = cellL6 l (3 * n) ∧ cellL6 m (3 * n + 1) = cellL6 l (3 * n + 1) ∧ cellL6 m (3 * n + 2) = cellL6 l (3 * n + 2)) → Seg l x A y → Seg m x A y
  | [], _, _, _, h => h
  | p :: A, x, y, hf, ⟨h1, h2, h3, h4, h5⟩ => by
    obtain ⟨f1, f2, f3⟩ := hf p.1 (by simp [nds])
    refine ⟨h1, h2, f1.trans h3, f2.trans h4, ?_⟩
    rw [f3]
    exact seg_frame (fun n hn => hf n (by simp only [nds, List.map_cons, List.mem_cons] at hn ⊢; exact .inr hn)) h5
theorem seg_bd {l : List Int} : ∀ {A : List (Int × Int × Int)} {x y : Int}, Seg l x A y → ∀ n ∈ nds A, 1 ≤ n ∧ n ≤ 20
  | [], _, _, _, n, hn => by simp [nds] at hn
  | p :: A, x, y, ⟨h1, h2, h3, h4, h5⟩, n, hn => by
    simp only [nds, List.map_cons, List.mem_cons] at hn
    rcases hn with rfl | h
    · exact h2
    · exact seg_bd h5 n h
theorem lastN_cons2 (p q : Int × Int × Int) (r : List (Int × Int × Int)) : lastN (p :: q :: r) = lastN (q :: r) := rfl
theorem lastN_snoc (p : Int × Int × Int) : ∀ A : List (Int × Int × Int), lastN (A ++ [p]) = p.1
  | [] => rfl
  | [_] => rfl
  | _ :: q :: r => by
    have := lastN_snoc p (q :: r)
    simpa [lastN] using this
theorem lastN_mem : ∀ {A : List (Int × Int × Int)}, A ≠ [] → lastN A ∈ nds A
  | [], h => absurd rfl h
  | [p], _ => by simp [lastN, nds]
  | p :: q :: r, _ => by
    have := lastN_mem (A := q :: r) (by simp)
    simp only [nds, List.map_cons, List.mem_cons] at this ⊢
    exact .inr this
/-- The last word of them. -/
theorem seg_last {l : List Int} : ∀ {A : List (Int × Int × Int)} {x y : Int}, A ≠ [] → Seg l x A y → cellL6 l (3 * lastN A + 2) = y
  | [], _, _, h, _ => absurd rfl h
  | [p], x, y, _, ⟨_, _, _, _, h5⟩ => h5
  | p :: q :: r, x, y, _, ⟨_, _, _, _, h5⟩ => seg_last (A := q :: r) (by simp) h5
theorem head_last {l : List Int} {A : List (Int × Int × Int)} {y : Int} (h : Seg l (cellL6 l 0) A y) : cellL6 l (wordC (lastN A)) = y := by
  cases A with
  | nil => exact h
  | cons p r =>
    have hb := seg_bd h _ (lastN_mem (A := p :: r) (by simp))
    unfold wordC
    rw [if_neg (by omega)]
    exact seg_last (by simp) h
theorem lastN_bd {l : List Int} {A : List (Int × Int × Int)} {x y : Int} (h : Seg l x A y) : 0 ≤ lastN A ∧ lastN A ≤ 20 := by
  cases A with
  | nil => simp [lastN]
  | cons p r => have := seg_bd h _ (lastN_mem (A := p :: r) (by simp)); omega

/-- The last word of them is another: the last node's own, or the head's. -/
theorem seg_relast {l : List Int} (hg : Good l) : ∀ {A : List (Int × Int × Int)} {x y z : Int}, A ≠ [] → (nds A).Nodup → Seg l x A y → Seg (setL6 l (3 * lastN A + 2) z) x A z
  | [], _, _, _, h, _, _ => absurd rfl h
  | [p], x, y, z, _, _, ⟨h1, h2, h3, h4, h5⟩ => by
    refine ⟨h1, h2, ?_, ?_, ?_⟩
    · simp only [lastN]; rw [cell_set_ne (by omega) (by omega) (by omega)]; exact h3
    · simp only [lastN]; rw [cell_set_ne (by omega) (by omega) (by omega)]; exact h4
    · simp only [lastN, Seg]; rw [cell_set_eq hg (by omega)]
  | p :: q :: r, x, y, z, _, hd, ⟨h1, h2, h3, h4, h5⟩ => by
    have hd2 : p.1 ∉ nds (q :: r) ∧ (nds (q :: r)).Nodup := by simpa [nds] using List.nodup_cons.1 hd
    have hl := lastN_mem (A := q :: r) (by simp)
    have hlb := seg_bd h5 _ hl
    have hne : ¬ p.1 = lastN (q :: r) := fun e => hd2.1 (by rw [e]; exact hl)
    have ih := seg_relast hg (A := q :: r) (z := z) (by simp) hd2.2 h5
    rw [lastN_cons2]
    refine ⟨h1, h2, ?_, ?_, ?_⟩
    · rw [cell_set_ne (by omega) (by omega) (by omega)]; exact h3
    · rw [cell_set_ne (by omega) (by omega) (by omega)]; exact h4
    · rw [cell_set_ne (by omega) (by omega) (by omega)]; exact ih
theorem head_relast {l : List Int} (hg : Good l) {A : List (Int × Int × Int)} {y z : Int} (hd : (nds A).Nodup) (h : Seg l (cellL6 l 0) A y) : Seg (setL6 l (wordC (lastN A)) z) (cellL6 (setL6 l (wordC (lastN A)) z) 0) A z := by
  cases A with
  | nil =>
    simp only [lastN, wordC, if_pos, Seg]
    exact cell_set_eq hg (by omega)
  | cons p r =>
    have hb := seg_bd h _ (lastN_mem (A := p :: r) (by simp))
    have e : wordC (lastN (p :: r)) = 3 * lastN (p :: r) + 2 := by unfold wordC; rw [if_neg (by omega)]
    rw [e, cell_set_ne (by omega) (by omega) (by omega)]
    exact seg_relast hg (by simp) hd h
end Go.Proofs.Ytockgojdmaladab
