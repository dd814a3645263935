/- The law on a task alone: its lists of pairs. Plain, no program. -/
import Derived.Test.YtockgojdmaladabPairsDraw
namespace Go.Proofs.Ytockgojdmaladab
open Go.RowKit

/-- The first k pairs, put at the nodes 10, 11, .. -/
def psL (L : List (Int × Int)) (k : Nat) : List (Int × Int × Int) := (L.take k).mapIdx fun i p => (10 + (i : Int), p.1, p.2)
theorem psL_zero (L : List (Int × Int)) : psL L 0 = [] := by simp [psL]
theorem psL_succ {L : List (Int × Int)} {k : Nat} (hk : k < L.length) : psL L (k + 1) = psL L k ++ [(10 + (k : Int), L[k].1, L[k].2)] := by
  unfold psL
  rw [List.take_succ_eq_append_getElem hk, List.mapIdx_append]
  simp [Nat.min_eq_left (Nat.le_of_lt hk)]
theorem psL_length {L : List (Int × Int)} {k : Nat} (hk : k ≤ L.length) : (psL L k).length = k := by simp [psL]; omega
theorem psL_mem {L : List (Int × Int)} {k : Nat} {p : Int × Int × Int} (h : p ∈ psL L k) : ∃ i, i < k ∧ p.1 = 10 + (i : Int) ∧ p.2 ∈ L.take k := by
  unfold psL at h
  rw [List.mem_mapIdx] at h
  obtain ⟨i, hi, rfl⟩ := h
  refine ⟨i, by simp at hi; omega, rfl, List.getElem_mem hi⟩
theorem psL_prs (L : List (Int × Int)) : prs (psL L L.length) = L := by
  unfold prs psL
  rw [List.take_length]
  apply List.ext_getElem
  · simp
  · intro i h1 h2; simp
theorem kys_prs (ps : List (Int × Int × Int)) : kys ps = (prs ps).map (·.1) := by simp [kys, prs]
theorem NiceP.up {ps : List (Int × Int × Int)} (h : NiceP (prs ps)) : Up ps := by
  unfold Up
  rw [kys_prs, List.pairwise_map]
  exact h.1
theorem put_next {L : List (Int × Int)} {l : List Int} {k : Nat} (h : Rep l (psL L k)) (hL : NiceP L) (h4 : L.length ≤ 4) (hk : k < L.length) :
    ∃ l2 s, runT 60 l (Tk.new 2 L[k].1 L[k].2 (10 + (k : Int))) = (l2, s) ∧ s.done = true ∧ s.ans = 1 ∧ Rep l2 (psL L (k + 1)) := by
  have hb := hL.2 L[k] (List.getElem_mem hk)
  obtain ⟨l2, s, e1, e2, e3, e4⟩ := do_alone (kind := 2) (key := L[k].1) (val := L[k].2) (node := 10 + (k : Int)) (A := psL L k) (B := []) (by simpa using h) ⟨by omega, by omega, by omega, by omega⟩
    (fun p hp => by obtain ⟨i, _, _, hm⟩ := psL_mem hp; exact nice_last hL hk p.2 hm) (by simp) (by simp) (by rw [psL_length (by omega)]; omega)
    (fun _ hm => by
      simp only [List.append_nil, nds, List.mem_map] at hm
      obtain ⟨p, hp, hpe⟩ := hm
      obtain ⟨i, hi, he, _⟩ := psL_mem hp
      omega)
  refine ⟨l2, s, e1, e2, by simpa [doAB] using e3, ?_⟩
  rw [psL_succ hk]
  simpa [doAB] using e4
theorem do_last {L : List (Int × Int)} {l : List Int} {kind key val : Int} (h : Rep l (psL L L.length)) (hL : NiceP L) (h4 : L.length ≤ 4) (hk : 1 ≤ kind ∧ kind ≤ 3) (hy : 1 ≤ key ∧ key ≤ 9) (hv : 0 ≤ val ∧ val ≤ 99) :
    ∃ l2 s ps, runT 60 l (Tk.new kind key val 1) = (l2, s) ∧ s.done = true ∧ s.ans = (doP L kind key val).2 ∧ Rep l2 ps ∧ prs ps = (doP L kind key val).1 ∧ Up ps ∧ ps.length ≤ 5 := by
  have hup : Up (psL L L.length) := by apply NiceP.up; rw [psL_prs]; exact hL
  obtain ⟨A, B, hab, hA, hB, hC⟩ := split_up key hup
  have hll : A.length ≤ 20 := by
    have h1 : (psL L L.length).length = L.length := psL_length (Nat.le_refl _)
    rw [hab, List.length_append] at h1
    omega
  have hno : (1 : Int) ∉ nds (A ++ B) := by
    rw [← hab]
    intro hm
    simp only [nds, List.mem_map] at hm
    obtain ⟨p, hp, hpe⟩ := hm
    obtain ⟨i, hi, he, _⟩ := psL_mem hp
    omega
  obtain ⟨l2, s, e1, e2, e3, e4⟩ := do_alone (kind := kind) (key := key) (val := val) (node := 1) (A := A) (B := B) (by rw [← hab]; exact h) ⟨by omega, by omega, by omega, by omega⟩ hA hB hC hll (fun _ => hno)
  have hd := doAB_prs (kind := kind) (val := val) (node := 1) hk hA hB hC
  rw [← hab, psL_prs] at hd
  have hd1 : prs (doAB kind key val 1 A B).1 = (doP L kind key val).1 := by rw [← hd]
  have hd2 : (doAB kind key val 1 A B).2 = (doP L kind key val).2 := by rw [← hd]
  refine ⟨l2, s, _, e1, e2, by rw [e3, hd2], e4, hd1, ?_, ?_⟩
  · apply NiceP.up
    rw [hd1]
    exact doP_nice hL kind key val hy hv
  · have h1 : (prs (doAB kind key val 1 A B).1).length = (doAB kind key val 1 A B).1.length := by simp [prs]
    rw [hd1] at h1
    have h2 := doP_length L kind key val
    omega
theorem last_value {l : List Int} {ps : List (Int × Int × Int)} (h : Rep l ps) (hu : Up ps) (hl : ps.length ≤ 20) {i : Nat} (hi : i < (prs ps).length) : valueL l (prs ps)[i].1 = (prs ps)[i].2 + 1 := by
  have hi' : i < ps.length := by simpa [prs] using hi
  have e : (prs ps)[i] = ps[i].2 := by simp [prs]
  rw [e, h.value hl, find_up hu ps[i] (List.getElem_mem hi')]
theorem last_none {l : List Int} {ps : List (Int × Int × Int)} (h : Rep l ps) (hn : NiceP (prs ps)) (hl : ps.length ≤ 20) : valueL l 99 = 0 := by
  have : ps.find? (fun p => decide (p.2.1 = 99)) = none := by
    rw [List.find?_eq_none]
    intro p hp
    have := hn.2 p.2 (by simp only [prs, List.mem_map]; exact ⟨p, hp, rfl⟩)
    simp
    omega
  rw [h.value hl, this]
end Go.Proofs.Ytockgojdmaladab
