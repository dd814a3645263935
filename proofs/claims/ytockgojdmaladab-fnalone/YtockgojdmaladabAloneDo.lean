/- A task that steps alone: what it leaves. Plain, no program. -/
import Derived.Test.YtockgojdmaladabAloneRun
namespace Go.Proofs.Ytockgojdmaladab
open Go.RowKit

/-- The list l holds the nodes ps, each once. -/
structure Rep (l : List Int) (ps : List (Int × Int × Int)) : Prop where
  good : Good l
  seg : Seg l (cellL6 l 0) ps 0
  once : (nds ps).Nodup
theorem nds_append (A B : List (Int × Int × Int)) : nds (A ++ B) = nds A ++ nds B := by simp [nds]

/-- Cells of other nodes stay. -/
theorem word_other {l : List Int} {m n z : Int} (hm : 0 ≤ m ∧ m ≤ 20) (hn : 1 ≤ n ∧ n ≤ 20) (hne : ¬ n = m) : cellL6 (setL6 l (wordC m) z) (3 * n) = cellL6 l (3 * n) ∧ cellL6 (setL6 l (wordC m) z) (3 * n + 1) = cellL6 l (3 * n + 1) ∧ cellL6 (setL6 l (wordC m) z) (3 * n + 2) = cellL6 l (3 * n + 2) := by
  have hb := wordC_bd hm
  have hw : wordC m = 0 ∨ wordC m = 3 * m + 2 := by unfold wordC; split <;> simp
  refine ⟨cell_set_ne (by omega) (by omega) ?_, cell_set_ne (by omega) (by omega) ?_, cell_set_ne (by omega) (by omega) ?_⟩ <;> rcases hw with h | h <;> omega

set_option maxHeartbeats 1000000 in
/-- A node is put between A and B. -/
theorem put_between {l : List Int} {key val node : Int} {A B : List (Int × Int × Int)} {pc nx mk : Int} (h : Rep l (A ++ B)) (hr : Rt 2 key val node) (hnew : node ∉ nds (A ++ B)) (hnx : 0 ≤ nx ∧ nx ≤ 20) (hmk : 0 ≤ mk ∧ mk ≤ 1) :
    ∃ l2, Goes 1 (nobodyL l (At 2 key val node pc (lastN A) (headN B) nx mk)).1 (nobodyL l (At 2 key val node pc (lastN A) (headN B) nx mk)).2 l2 ⟨2, key, val, node, 4, lastN A, headN B, nx, mk, true, 1⟩ ∧ Rep l2 (A ++ (node, key, val) :: B) := by
  obtain ⟨hg, hs, hd⟩ := h
  obtain ⟨z, hA, hB⟩ := seg_append.1 hs
  have hl := lastN_bd hA
  have hh := seg_head hB
  have hhb := headN_bd hB
  obtain ⟨_, hkey, hval, hnode⟩ := hr
  rw [nds_append] at hnew hd
  have hnA : node ∉ nds A := fun h => hnew (List.mem_append.2 (.inl h))
  have hnB : node ∉ nds B := fun h => hnew (List.mem_append.2 (.inr h))
  have hdA := (List.nodup_append.1 hd).1
  have hdB := (List.nodup_append.1 hd).2.1
  have hdd := (List.nodup_append.1 hd).2.2
  have e0 : nobodyL l (At 2 key val node pc (lastN A) (headN B) nx mk) = (setL6 (setL6 (setL6 l (3 * node) key) (3 * node + 1) val) (3 * node + 2) (2 * headN B), At 2 key val node 4 (lastN A) (headN B) nx mk) := by
    simp [nobodyL, At]
  rw [e0]
  obtain ⟨l1, hl1⟩ : ∃ l1, setL6 (setL6 (setL6 l (3 * node) key) (3 * node + 1) val) (3 * node + 2) (2 * headN B) = l1 := ⟨_, rfl⟩
  have hg1 : Good l1 := by rw [← hl1]; exact ((hg.set _ (by omega)).set _ (by omega)).set _ (by omega)
  have hk1 : cellL6 l1 (3 * node) = key := by
    rw [← hl1, cell_set_ne (by omega) (by omega) (by omega), cell_set_ne (by omega) (by omega) (by omega), cell_set_eq hg (by omega)]
  have hv1 : cellL6 l1 (3 * node + 1) = val := by
    rw [← hl1, cell_set_ne (by omega) (by omega) (by omega), cell_set_eq (hg.set _ (by omega)) (by omega)]
  have hw1 : cellL6 l1 (3 * node + 2) = 2 * headN B := by
    rw [← hl1, cell_set_eq ((hg.set _ (by omega)).set _ (by omega)) (by omega)]
  have hother : ∀ i, 0 ≤ i → ¬ i = 3 * node → ¬ i = 3 * node + 1 → ¬ i = 3 * node + 2 → cellL6 l1 i = cellL6 l i := by
    intro i h0 h1 h2 h3
    rw [← hl1, cell_set_ne (by omega) (by omega) h3, cell_set_ne (by omega) (by omega) h2, cell_set_ne (by omega) (by omega) h1]
  have fr : ∀ n, (1 ≤ n ∧ n ≤ 20) → ¬ n = node → cellL6 l1 (3 * n) = cellL6 l (3 * n) ∧ cellL6 l1 (3 * n + 1) = cellL6 l (3 * n + 1) ∧ cellL6 l1 (3 * n + 2) = cellL6 l (3 * n + 2) := fun n hn hne =>
    ⟨hother _ (by omega) (by omega) (by omega) (by omega), hother _ (by omega) (by omega) (by omega) (by omega), hother _ (by omega) (by omega) (by omega) (by omega)⟩
  have hA1 : Seg l1 (cellL6 l1 0) A z := by
    rw [hother 0 (by omega) (by omega) (by omega) (by omega)]
    exact seg_frame (fun n hn => fr n (seg_bd hA n hn) (fun e => hnA (by rw [← e]; exact hn))) hA
  have hB1 : Seg l1 z B 0 := seg_frame (fun n hn => fr n (seg_bd hB n hn) (fun e => hnB (by rw [← e]; exact hn))) hB
  rw [hl1]
  clear hl1 hother fr
  have hsw : swapW l1 (lastN A) (2 * headN B) (2 * node) = (setL6 l1 (wordC (lastN A)) (2 * node), true) := by
    unfold swapW
    rw [if_pos (by rw [head_last hA1, hh])]
  have hlne : ¬ node = lastN A := by
    intro e
    cases A with
    | nil => simp [lastN] at e; omega
    | cons p r => exact hnA (by rw [e]; exact lastN_mem (by simp))
  refine ⟨setL6 l1 (wordC (lastN A)) (2 * node), Goes.one rfl ?_, ⟨hg1.set _ (by omega), ?_, ?_⟩⟩
  · rw [step_go hg1 rfl (At.ok ⟨by omega, hkey, hval, hnode⟩ (by omega) hl hhb hnx hmk), goL4 rfl hsw]
    rfl
  · refine seg_append.2 ⟨2 * node, head_relast hg1 hdA hA1, rfl, hnode, ?_, ?_, ?_⟩
    · rw [(word_other hl hnode hlne).1]; exact hk1
    · rw [(word_other hl hnode hlne).2.1]; exact hv1
    · rw [(word_other hl hnode hlne).2.2, hw1, ← hh]
      refine seg_frame (fun n hn => word_other hl (seg_bd hB n hn) ?_) hB1
      intro e
      cases A with
      | nil => have := seg_bd hB n hn; simp [lastN] at e; omega
      | cons p r => exact hdd (lastN (p :: r)) (lastN_mem (by simp)) n hn e.symm
  · rw [nds_append, List.nodup_append]
    refine ⟨hdA, ?_, ?_⟩
    · show (node :: nds B).Nodup
      exact List.nodup_cons.2 ⟨hnB, hdB⟩
    · intro a ha b hb
      have hb' : b = node ∨ b ∈ nds B := by simpa [nds] using hb
      rcases hb' with rfl | hb'
      · exact fun e => hnA (by rw [← e]; exact ha)
      · exact hdd a ha b hb'

/-- The node with the key is reached. -/
theorem go_found {l : List Int} {kind key val node nx mk : Int} {A r : List (Int × Int × Int)} {p : Int × Int × Int} (h : Rep l (A ++ p :: r)) (hr : Rt kind key val node) (hk : p.2.1 = key) (hnx : 0 ≤ nx ∧ nx ≤ 20) (hmk : 0 ≤ mk ∧ mk ≤ 1) :
    Goes 2 l (At kind key val node 1 (lastN A) p.1 nx mk) l (At kind key val node 3 (lastN A) p.1 (headN r) 0) := by
  obtain ⟨hg, hs, _⟩ := h
  obtain ⟨z, hA, hz, hb, hk1, hv1, hR⟩ := seg_append.1 hs
  have hl := lastN_bd hA
  have hw : wordC p.1 = 3 * p.1 + 2 := by unfold wordC; rw [if_neg (by omega)]
  have hh := seg_head hR
  have hhb := headN_bd hR
  have e1 : stepL l (At kind key val node 1 (lastN A) p.1 nx mk) = (l, At kind key val node 2 (lastN A) p.1 (headN r) 0) := by
    rw [step_go hg rfl (At.ok hr (by omega) hl (by omega) hnx hmk), goL1' rfl (show ¬ p.1 = 0 by omega)]
    show (l, _) = _
    have e : cellL6 l (wordC (At kind key val node 1 (lastN A) p.1 nx mk).cur) = 2 * headN r := by show cellL6 l (wordC p.1) = _; rw [hw]; exact hh
    rw [e, nodeC_two hhb, show (2 * headN r) % 2 = 0 by omega]
    rfl
  have e2 : stepL l (At kind key val node 2 (lastN A) p.1 (headN r) 0) = (l, At kind key val node 3 (lastN A) p.1 (headN r) 0) := by
    rw [step_go hg rfl (At.ok hr (by omega) hl (by omega) hhb (by omega)), goL2 rfl]
    simp [lookL, At, hk1, hk]
  exact (Goes.one rfl e1).trans (Goes.one rfl e2)
/-- It is found, or there already. -/
theorem found_here {l : List Int} {kind key val node nx : Int} {A r : List (Int × Int × Int)} {p : Int × Int × Int} (h : Rep l (A ++ p :: r)) (hr : Rt kind key val node) (hk : p.2.1 = key) (hnx : 0 ≤ nx ∧ nx ≤ 20) (h3 : ¬ kind = 3) :
    Goes 1 l (At kind key val node 3 (lastN A) p.1 nx 0) l ⟨kind, key, val, node, 3, lastN A, p.1, nx, 0, true, if kind = 1 then p.2.2 + 1 else 0⟩ := by
  obtain ⟨hg, hs, _⟩ := h
  obtain ⟨z, hA, hz, hb, hk1, hv1, hR⟩ := seg_append.1 hs
  have hl := lastN_bd hA
  refine Goes.one rfl ?_
  rw [step_go hg rfl (At.ok hr (by omega) hl (by omega) hnx (by omega)), goL3 rfl]
  have hkd := hr.1
  by_cases h1 : kind = 1
  · subst h1
    simp [foundL, At, hk1, hv1, hk]
  · have h2 : kind = 2 := by omega
    subst h2
    simp [foundL, At, hk1, hk]

set_option maxHeartbeats 1000000 in
/-- It is taken out. -/
theorem take_out {l : List Int} {key val node nx : Int} {A r : List (Int × Int × Int)} {p : Int × Int × Int} (h : Rep l (A ++ p :: r)) (hr : Rt 3 key val node) (hk : p.2.1 = key) (hnx : nx = headN r) :
    ∃ l2, Goes 3 l (At 3 key val node 3 (lastN A) p.1 nx 0) l2 ⟨3, key, val, node, 6, lastN A, p.1, nx, 0, true, 1⟩ ∧ Rep l2 (A ++ r) := by
  subst hnx
  obtain ⟨hg, hs, hd⟩ := h
  obtain ⟨z, hA, hz, hb, hk1, hv1, hR⟩ := seg_append.1 hs
  have hl := lastN_bd hA
  have hhb := headN_bd hR
  have hh := seg_head hR
  have hw : wordC p.1 = 3 * p.1 + 2 := by unfold wordC; rw [if_neg (by omega)]
  rw [nds_append] at hd
  have hdA := (List.nodup_append.1 hd).1
  have hdB : (p.1 :: nds r).Nodup := (List.nodup_append.1 hd).2.1
  have hdd := (List.nodup_append.1 hd).2.2
  have hpr := (List.nodup_cons.1 hdB).1
  have hdr := (List.nodup_cons.1 hdB).2
  have hpA : p.1 ∉ nds A := fun h => hdd _ h p.1 (by simp [nds]) rfl
  have hlne : ¬ p.1 = lastN A := by
    intro e
    cases A with
    | nil => simp [lastN] at e; omega
    | cons q s => exact hpA (by rw [e]; exact lastN_mem (by simp))
  have e3 : stepL l (At 3 key val node 3 (lastN A) p.1 (headN r) 0) = (l, At 3 key val node 5 (lastN A) p.1 (headN r) 0) := by
    rw [step_go hg rfl (At.ok hr (by omega) hl (by omega) hhb (by omega)), goL3 rfl]
    simp [foundL, At, hk1, hk]
  have hsw5 : swapW l p.1 (2 * headN r) (2 * headN r + 1) = (setL6 l (wordC p.1) (2 * headN r + 1), true) := by
    unfold swapW
    rw [if_pos (by rw [hw]; exact hh)]
  have e5 : stepL l (At 3 key val node 5 (lastN A) p.1 (headN r) 0) = (setL6 l (wordC p.1) (2 * headN r + 1), At 3 key val node 6 (lastN A) p.1 (headN r) 0) := by
    rw [step_go hg rfl (At.ok hr (by omega) hl (by omega) hhb (by omega)), goL5 rfl hsw5]
    rfl
  obtain ⟨l1, hl1⟩ : ∃ l1, setL6 l (wordC p.1) (2 * headN r + 1) = l1 := ⟨_, rfl⟩
  have hg1 : Good l1 := by rw [← hl1]; exact hg.set _ (by omega)
  have fr : ∀ n, (1 ≤ n ∧ n ≤ 20) → ¬ n = p.1 → cellL6 l1 (3 * n) = cellL6 l (3 * n) ∧ cellL6 l1 (3 * n + 1) = cellL6 l (3 * n + 1) ∧ cellL6 l1 (3 * n + 2) = cellL6 l (3 * n + 2) := fun n hn hne => by rw [← hl1]; exact word_other (by omega) hn hne
  have h00 : cellL6 l1 0 = cellL6 l 0 := by rw [← hl1, hw]; exact cell_set_ne (by omega) (by omega) (by omega)
  have hA1 : Seg l1 (cellL6 l1 0) A z := by
    rw [h00]
    exact seg_frame (fun n hn => fr n (seg_bd hA n hn) (fun e => hpA (by rw [← e]; exact hn))) hA
  have hR1 : Seg l1 (2 * headN r) r 0 := by
    rw [← hh]
    exact seg_frame (fun n hn => fr n (seg_bd hR n hn) (fun e => hpr (by rw [← e]; exact hn))) hR
  have hsw6 : swapW l1 (lastN A) (2 * p.1) (2 * headN r) = (setL6 l1 (wordC (lastN A)) (2 * headN r), true) := by
    unfold swapW
    rw [if_pos (by rw [head_last hA1, hz])]
  rw [hl1] at e5
  have e6 : stepL l1 (At 3 key val node 6 (lastN A) p.1 (headN r) 0) = (setL6 l1 (wordC (lastN A)) (2 * headN r), ⟨3, key, val, node, 6, lastN A, p.1, headN r, 0, true, 1⟩) := by
    rw [step_go hg1 rfl (At.ok hr (by omega) hl (by omega) hhb (by omega)), goL6 rfl hsw6]
    rfl
  refine ⟨setL6 l1 (wordC (lastN A)) (2 * headN r), ((Goes.one rfl e3).trans (Goes.one rfl e5)).trans (Goes.one rfl e6), ⟨hg1.set _ (by omega), ?_, ?_⟩⟩
  · refine seg_append.2 ⟨2 * headN r, head_relast hg1 hdA hA1, ?_⟩
    refine seg_frame (fun n hn => word_other hl (seg_bd hR n hn) ?_) hR1
    intro e
    cases A with
    | nil => have := seg_bd hR n hn; simp [lastN] at e; omega
    | cons q s => exact hdd (lastN (q :: s)) (lastN_mem (by simp)) n (by simp only [nds, List.map_cons, List.mem_cons]; exact .inr hn) e.symm
  · rw [nds_append, List.nodup_append]
    exact ⟨hdA, hdr, fun a ha b hb => hdd a ha b (by simp only [nds, List.map_cons, List.mem_cons]; exact .inr hb)⟩
end Go.Proofs.Ytockgojdmaladab
