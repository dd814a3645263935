/- A task that steps alone does what it does in a list. Plain, no program. -/
import Derived.Test.YtockgojdmaladabAloneDo
namespace Go.Proofs.Ytockgojdmaladab
open Go.RowKit

/-- Keys go up. -/
def Up (ps : List (Int × Int × Int)) : Prop := (kys ps).Pairwise (· < ·)
/-- Nodes whose keys are below, and the others. -/
theorem split_up (key : Int) : ∀ {ps : List (Int × Int × Int)}, Up ps → ∃ A B, ps = A ++ B ∧ (∀ p ∈ A, p.2.1 < key) ∧ (∀ p ∈ B, key ≤ p.2.1) ∧ (∀ p r, B = p :: r → ∀ q ∈ r, p.2.1 < q.2.1)
  | [], _ => ⟨[], [], rfl, by simp, by simp, by simp⟩
  | p :: ps, h => by
    have h1 : (∀ k ∈ kys ps, p.2.1 < k) ∧ Up ps := by simpa [Up, kys] using List.pairwise_cons.1 h
    by_cases hp : p.2.1 < key
    · obtain ⟨A, B, e, hA, hB, hC⟩ := split_up key h1.2
      refine ⟨p :: A, B, by rw [e]; rfl, ?_, hB, hC⟩
      intro q hq
      rcases List.mem_cons.1 hq with rfl | hq
      · exact hp
      · exact hA q hq
    · refine ⟨[], p :: ps, rfl, by simp, ?_, ?_⟩
      · intro q hq
        rcases List.mem_cons.1 hq with rfl | hq
        · omega
        · have := h1.1 q.2.1 (by simp only [kys, List.mem_map]; exact ⟨q, hq, rfl⟩)
          omega
      · intro q r e s hs
        cases e
        exact h1.1 s.2.1 (by simp only [kys, List.mem_map]; exact ⟨s, hs, rfl⟩)

/-- What a task does to nodes whose keys go up, A below its key and B not: what is left, and its answer. -/
def doAB (kind key val node : Int) (A B : List (Int × Int × Int)) : List (Int × Int × Int) × Int :=
  match B with
  | p :: r => if p.2.1 = key then (if kind = 1 then (A ++ B, p.2.2 + 1) else if kind = 2 then (A ++ B, 0) else (A ++ r, 1)) else if kind = 2 then (A ++ (node, key, val) :: B, 1) else (A ++ B, 0)
  | [] => if kind = 2 then (A ++ [(node, key, val)], 1) else (A, 0)

theorem do_alone {l : List Int} {kind key val node : Int} {A B : List (Int × Int × Int)} (h : Rep l (A ++ B)) (hr : Rt kind key val node) (hA : ∀ p ∈ A, p.2.1 < key) (hB : ∀ p ∈ B, key ≤ p.2.1) (hC : ∀ p r, B = p :: r → ∀ q ∈ r, p.2.1 < q.2.1) (hlen : A.length ≤ 20) (hnew : kind = 2 → node ∉ nds (A ++ B)) :
    ∃ l2 s, runT 60 l (At kind key val node 0 0 0 0 0) = (l2, s) ∧ s.done = true ∧ s.ans = (doAB kind key val node A B).2 ∧ Rep l2 (doAB kind key val node A B).1 := by
  have h1 := go_first (kind := kind) (key := key) (val := val) (node := node) h.good hr h.seg
  obtain ⟨nx, mk, hnx, hmk, h2⟩ := go_past (C := A) (A := []) (B := B) (nx := 0) (mk := 0) h.good hr (by simpa using h.seg) hA (by omega) (by omega)
  have h12 := h1.trans (show Goes (2 * A.length) l (At kind key val node 1 0 (headN (A ++ B)) 0 0) l _ from h2)
  rw [List.nil_append] at h12
  -- nobody has the key
  have none_way : (∀ p ∈ B, key < p.2.1) → ∃ l2 s, runT 60 l (At kind key val node 0 0 0 0 0) = (l2, s) ∧ s.done = true ∧ s.ans = (if kind = 2 then 1 else 0) ∧ Rep l2 (if kind = 2 then A ++ (node, key, val) :: B else A ++ B) := by
    intro hst
    obtain ⟨j, m, s, hj, hgo, pc, nx', mk', hpc, hnx', hmk', hms⟩ := go_none h.good hr h.seg hst hnx hmk
    by_cases hk2 : kind = 2
    · subst hk2
      obtain ⟨l2, hp, hrep⟩ := put_between (pc := pc) h hr (hnew rfl) hnx' hmk'
      rw [← hms] at hp
      refine ⟨l2, _, ((h12.trans hgo).trans hp).run rfl (by omega), rfl, by simp, by simpa using hrep⟩
    · rw [go_nobody hk2 _ rfl] at hms
      obtain ⟨rfl, rfl⟩ := Prod.mk.inj hms
      refine ⟨m, _, (h12.trans hgo).run rfl (by omega), rfl, by simp [hk2], by simpa [hk2] using h⟩
  cases B with
  | nil =>
    obtain ⟨l2, s, e1, e2, e3, e4⟩ := none_way (by simp)
    refine ⟨l2, s, e1, e2, ?_, ?_⟩
    · rw [e3]; unfold doAB; split <;> rfl
    · by_cases hk2 : kind = 2
      · simpa [doAB, hk2] using e4
      · simpa [doAB, hk2] using e4
  | cons p r =>
    by_cases hp : p.2.1 = key
    · have hf := go_found (kind := kind) (val := val) (node := node) h hr hp hnx hmk
      have hhb := headN_bd (seg_append.1 h.seg).choose_spec.2.2.2.2.2
      by_cases h3 : kind = 3
      · subst h3
        obtain ⟨l2, ht, hrep⟩ := take_out (nx := headN r) h hr hp rfl
        refine ⟨l2, _, ((h12.trans hf).trans ht).run rfl (by omega), rfl, ?_, ?_⟩
        · simp [doAB, hp]
        · simpa [doAB, hp] using hrep
      · have hh := found_here (nx := headN r) h hr hp hhb h3
        refine ⟨l, _, ((h12.trans hf).trans hh).run rfl (by omega), rfl, ?_, ?_⟩
        · have := hr.1
          by_cases h1 : kind = 1
          · simp [doAB, hp, h1]
          · have h2 : kind = 2 := by omega
            simp [doAB, hp, h2]
        · have := hr.1
          by_cases h1 : kind = 1
          · simpa [doAB, hp, h1] using h
          · have h2 : kind = 2 := by omega
            simpa [doAB, hp, h2] using h
    · have hst : ∀ q ∈ p :: r, key < q.2.1 := by
        intro q hq
        have h0 := hB p (by simp)
        rcases List.mem_cons.1 hq with rfl | hq
        · omega
        · have := hC p r rfl q hq
          omega
      obtain ⟨l2, s, e1, e2, e3, e4⟩ := none_way hst
      refine ⟨l2, s, e1, e2, ?_, ?_⟩
      · rw [e3]; unfold doAB; simp only [hp, if_false]; split <;> rfl
      · unfold doAB
        by_cases hk2 : kind = 2
        · simpa [hp, hk2] using e4
        · simpa [hp, hk2] using e4

theorem nodes_seg {l : List Int} : ∀ {ps : List (Int × Int × Int)} {x : Int} {k : Nat}, Seg l x ps 0 → ps.length ≤ k → nodesL l k (headN ps) = nds ps
  | [], _, k, _, _ => nodesL_end l k
  | p :: r, x, 0, _, hk => by simp at hk
  | p :: r, x, k + 1, ⟨_, hb, _, _, hR⟩, hk => by
    have hh := seg_head hR
    have hw : cellL6 l (wordC p.1) = 2 * headN r := by unfold wordC; rw [if_neg (by omega)]; exact hh
    show nodesL l (k + 1) p.1 = _
    rw [nodesL_even (by omega) (by rw [hw]; omega), hw, nodeC_two (headN_bd hR), nodes_seg hR (by simpa using hk)]
    rfl
theorem Rep.live {l : List Int} {ps : List (Int × Int × Int)} (h : Rep l ps) (hl : ps.length ≤ 20) : liveL l = nds ps := by
  rw [liveL_on h.good.1, seg_head h.seg, nodeC_two (headN_bd h.seg)]
  exact nodes_seg h.seg hl
theorem seg_cells {l : List Int} : ∀ {ps : List (Int × Int × Int)} {x y : Int}, Seg l x ps y → ∀ p ∈ ps, cellL6 l (3 * p.1) = p.2.1 ∧ cellL6 l (3 * p.1 + 1) = p.2.2
  | [], _, _, _, p, hp => by simp at hp
  | q :: r, x, y, ⟨_, _, h3, h4, h5⟩, p, hp => by
    rcases List.mem_cons.1 hp with rfl | hp
    · exact ⟨h3, h4⟩
    · exact seg_cells h5 p hp
theorem Rep.keys {l : List Int} {ps : List (Int × Int × Int)} (h : Rep l ps) (hl : ps.length ≤ 20) : keysL l = kys ps := by
  unfold keysL
  rw [h.live hl]
  unfold nds kys
  rw [List.map_map]
  exact List.map_congr_left fun p hp => (seg_cells h.seg p hp).1
theorem find_key {l : List Int} : ∀ {ps : List (Int × Int × Int)} {key : Int}, (∀ p ∈ ps, cellL6 l (3 * p.1) = p.2.1) → (nds ps).find? (fun n => decide (cellL6 l (3 * n) = key)) = (ps.find? (fun p => decide (p.2.1 = key))).map (·.1)
  | [], _, _ => rfl
  | p :: r, key, h => by
    have hp := h p (by simp)
    show (p.1 :: nds r).find? _ = _
    by_cases hk : p.2.1 = key
    · simp [hp, hk]
    · simp only [List.find?_cons, hp, hk, decide_false]
      exact find_key fun q hq => h q (by simp [hq])
theorem Rep.value {l : List Int} {ps : List (Int × Int × Int)} (h : Rep l ps) (hl : ps.length ≤ 20) (key : Int) :
    valueL l key = match ps.find? (fun p => decide (p.2.1 = key)) with | some p => p.2.2 + 1 | none => 0 := by
  unfold valueL
  rw [h.live hl, find_key fun p hp => (seg_cells h.seg p hp).1]
  cases hf : ps.find? (fun p => decide (p.2.1 = key)) with
  | none => rfl
  | some p =>
    have hm := List.mem_of_find?_eq_some hf
    have hc := (seg_cells h.seg p hm).2
    have hb := seg_bd h.seg p.1 (by simp only [nds, List.mem_map]; exact ⟨p, hm, rfl⟩)
    have hv := okC_cell h.good.okC (j := (3 * p.1 + 1).toNat) (by have := h.good.1; omega)
    simp only [Option.map_some]
    rw [hc]
    have hv2 : 0 ≤ p.2.2 ∧ p.2.2 ≤ 1000000000 := by rw [← hc]; exact hv
    unfold wrap64
    omega
theorem Rep.new : Rep (List.replicate 63 0) [] := by
  refine ⟨⟨by simp, by decide⟩, ?_, by simp [nds]⟩
  show cellL6 _ 0 = 0
  decide
/-- Of keys that go up, one that is there is found. -/
theorem find_up : ∀ {ps : List (Int × Int × Int)}, Up ps → ∀ p ∈ ps, ps.find? (fun q => decide (q.2.1 = p.2.1)) = some p
  | [], _, p, hp => by simp at hp
  | q :: r, h, p, hp => by
    have h1 : (∀ k ∈ kys r, q.2.1 < k) ∧ Up r := by simpa [Up, kys] using List.pairwise_cons.1 h
    rcases List.mem_cons.1 hp with rfl | hp
    · simp
    · have : q.2.1 < p.2.1 := h1.1 p.2.1 (by simp only [kys, List.mem_map]; exact ⟨p, hp, rfl⟩)
      have hne : ¬ q.2.1 = p.2.1 := by omega
      simp only [List.find?_cons, hne, decide_false]
      exact find_up h1.2 p hp
end Go.Proofs.Ytockgojdmaladab
