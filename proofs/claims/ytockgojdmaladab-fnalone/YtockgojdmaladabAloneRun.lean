/- A task that steps alone, step by step: plain, no program. -/
import Derived.Test.YtockgojdmaladabAlonePlain
namespace Go.Proofs.Ytockgojdmaladab
open Go.RowKit

/-- At most k steps, until the task is done. -/
def runT : Nat → List Int → Tk → List Int × Tk
  | 0, l, t => (l, t)
  | k + 1, l, t => if t.done then (l, t) else runT k (stepL l t).1 (stepL l t).2
/-- j steps lead from there to here; ahead of each the task is not done. -/
def Goes : Nat → List Int → Tk → List Int → Tk → Prop
  | 0, l, t, l', t' => l' = l ∧ t' = t
  | j + 1, l, t, l', t' => t.done = false ∧ Goes j (stepL l t).1 (stepL l t).2 l' t'
theorem Goes.here (l : List Int) (t : Tk) : Goes 0 l t l t := ⟨rfl, rfl⟩
theorem Goes.step {j : Nat} {l m l' : List Int} {t s t' : Tk} (h1 : t.done = false) (h2 : stepL l t = (m, s)) (h3 : Goes j m s l' t') : Goes (j + 1) l t l' t' := ⟨h1, by rw [h2]; exact h3⟩
theorem Goes.trans {m n : List Int} {s u : Tk} : ∀ {i j : Nat} {l : List Int} {t : Tk}, Goes i l t m s → Goes j m s n u → Goes (i + j) l t n u
  | 0, j, l, t, h, k => by
    obtain ⟨rfl, rfl⟩ := h
    simpa using k
  | i + 1, j, l, t, h, k => by
    rw [Nat.add_right_comm]
    exact ⟨h.1, Goes.trans h.2 k⟩
theorem Goes.one {l m : List Int} {t s : Tk} (h1 : t.done = false) (h2 : stepL l t = (m, s)) : Goes 1 l t m s := Goes.step h1 h2 (Goes.here _ _)
theorem Goes.run {l' : List Int} {t' : Tk} (hd : t'.done = true) : ∀ {j : Nat} {l : List Int} {t : Tk}, Goes j l t l' t' → ∀ {k : Nat}, j ≤ k → runT k l t = (l', t')
  | 0, l, t, h, k, _ => by
    obtain ⟨rfl, rfl⟩ := h
    cases k with
    | zero => rfl
    | succ k => unfold runT; rw [if_pos hd]
  | j + 1, l, t, h, k, hk => by
    cases k with
    | zero => omega
    | succ k =>
      unfold runT
      rw [h.1]
      exact Goes.run hd h.2 (by omega)

theorem step_go {l : List Int} {t : Tk} (hg : Good l) (hd : t.done = false) (hok : t.ok = true) : stepL l t = goL l t := by
  unfold stepL ready
  rw [hd, hok, decide_eq_true hg.1, hg.okC]
  rfl

def headN : List (Int × Int × Int) → Int
  | [] => 0
  | p :: _ => p.1
theorem seg_head {l : List Int} {B : List (Int × Int × Int)} {w : Int} (h : Seg l w B 0) : w = 2 * headN B := by
  cases B with
  | nil => simp only [Seg] at h; simp [headN, h]
  | cons p r => exact h.1
theorem headN_bd {l : List Int} {B : List (Int × Int × Int)} {w : Int} (h : Seg l w B 0) : 0 ≤ headN B ∧ headN B ≤ 20 := by
  cases B with
  | nil => simp [headN]
  | cons p r => have := h.2.1; simp only [headN]; omega
theorem nodeC_two {n : Int} (h : 0 ≤ n ∧ n ≤ 20) : nodeC (2 * n) = n := by
  unfold nodeC
  rw [if_pos (by omega)]
  omega

/-- A task under way. -/
def At (kind key val node pc prev cur next mark : Int) : Tk := ⟨kind, key, val, node, pc, prev, cur, next, mark, false, 0⟩
def Rt (kind key val node : Int) : Prop := (1 ≤ kind ∧ kind ≤ 3) ∧ (1 ≤ key ∧ key ≤ 99) ∧ (0 ≤ val ∧ val ≤ 99) ∧ (1 ≤ node ∧ node ≤ 20)
theorem At.ok {kind key val node pc prev cur next mark : Int} (h : Rt kind key val node) (h1 : 0 ≤ pc ∧ pc ≤ 6) (h2 : 0 ≤ prev ∧ prev ≤ 20) (h3 : 0 ≤ cur ∧ cur ≤ 20) (h4 : 0 ≤ next ∧ next ≤ 20) (h5 : 0 ≤ mark ∧ mark ≤ 1) : (At kind key val node pc prev cur next mark).ok = true :=
  Tk.ok_iff.2 ⟨h.1, h.2.1, h.2.2.1, h.2.2.2, h1, h2, h3, h4, h5⟩

/-- The first step. -/
theorem go_first {l : List Int} {kind key val node : Int} {ps : List (Int × Int × Int)} (hg : Good l) (hr : Rt kind key val node) (hs : Seg l (cellL6 l 0) ps 0) :
    Goes 1 l (At kind key val node 0 0 0 0 0) l (At kind key val node 1 0 (headN ps) 0 0) := by
  refine Goes.one rfl ?_
  rw [step_go hg rfl (At.ok hr (by omega) (by omega) (by omega) (by omega) (by omega)), goL0 rfl, seg_head hs, nodeC_two (headN_bd hs)]
  rfl
/-- A node is passed by. -/
theorem go_next {l : List Int} {kind key val node nx mk : Int} {A B : List (Int × Int × Int)} {p : Int × Int × Int} (hg : Good l) (hr : Rt kind key val node) (hs : Seg l (cellL6 l 0) (A ++ p :: B) 0) (hk : p.2.1 < key) (hnx : 0 ≤ nx ∧ nx ≤ 20) (hmk : 0 ≤ mk ∧ mk ≤ 1) :
    Goes 2 l (At kind key val node 1 (lastN A) p.1 nx mk) l (At kind key val node 1 (lastN (A ++ [p])) (headN B) (headN B) 0) := by
  obtain ⟨z, hA, hz, hb, hk1, hv1, hB⟩ := seg_append.1 hs
  have hl := lastN_bd hA
  have hw : wordC p.1 = 3 * p.1 + 2 := by unfold wordC; rw [if_neg (by omega)]
  have hh := seg_head hB
  have hhb := headN_bd hB
  have e1 : stepL l (At kind key val node 1 (lastN A) p.1 nx mk) = (l, At kind key val node 2 (lastN A) p.1 (headN B) 0) := by
    rw [step_go hg rfl (At.ok hr (by omega) hl (by omega) hnx hmk), goL1' rfl (show ¬ p.1 = 0 by omega)]
    show (l, _) = _
    have e : cellL6 l (wordC (At kind key val node 1 (lastN A) p.1 nx mk).cur) = 2 * headN B := by show cellL6 l (wordC p.1) = _; rw [hw]; exact hh
    rw [e, nodeC_two hhb, show (2 * headN B) % 2 = 0 by omega]
    rfl
  have e2 : stepL l (At kind key val node 2 (lastN A) p.1 (headN B) 0) = (l, At kind key val node 1 p.1 (headN B) (headN B) 0) := by
    rw [step_go hg rfl (At.ok hr (by omega) hl (by omega) hhb (by omega)), goL2 rfl]
    simp [lookL, At, hk1, hk]
  rw [lastN_snoc]
  exact (Goes.one rfl e1).trans (Goes.one rfl e2)
/-- All nodes with a key below are passed by. -/
theorem go_past {l : List Int} {kind key val node : Int} (hg : Good l) (hr : Rt kind key val node) : ∀ {C A B : List (Int × Int × Int)} {nx mk : Int}, Seg l (cellL6 l 0) (A ++ (C ++ B)) 0 → (∀ p ∈ C, p.2.1 < key) → (0 ≤ nx ∧ nx ≤ 20) → (0 ≤ mk ∧ mk ≤ 1) →
    ∃ nx' mk', (0 ≤ nx' ∧ nx' ≤ 20) ∧ (0 ≤ mk' ∧ mk' ≤ 1) ∧ Goes (2 * C.length) l (At kind key val node 1 (lastN A) (headN (C ++ B)) nx mk) l (At kind key val node 1 (lastN (A ++ C)) (headN B) nx' mk')
  | [], A, B, nx, mk, _, _, hnx, hmk => ⟨nx, mk, hnx, hmk, by simpa using Goes.here _ _⟩
  | p :: C, A, B, nx, mk, hs, hk, hnx, hmk => by
    have hs2 : Seg l (cellL6 l 0) ((A ++ [p]) ++ (C ++ B)) 0 := by simpa using hs
    have h1 := go_next (A := A) (B := C ++ B) (p := p) hg hr (by simpa using hs) (hk p (by simp)) hnx hmk
    obtain ⟨z, _, _, _, _, _, hB⟩ := seg_append.1 (show Seg l (cellL6 l 0) (A ++ p :: (C ++ B)) 0 by simpa using hs)
    obtain ⟨nx', mk', q1, q2, h2⟩ := go_past hg hr (C := C) (A := A ++ [p]) (B := B) (nx := headN (C ++ B)) (mk := 0) hs2 (fun q hq => hk q (by simp [hq])) (headN_bd hB) (by omega)
    refine ⟨nx', mk', q1, q2, ?_⟩
    have h3 := h1.trans h2
    rw [show 2 + 2 * C.length = 2 * (p :: C).length by simp; omega] at h3
    simpa [headN] using h3

/-- Nobody is there: nothing is put. -/
theorem go_nobody {l : List Int} {kind : Int} (hk : ¬ kind = 2) (t : Tk) (ht : t.kind = kind) : nobodyL l t = (l, { t with done := true, ans := 0 }) := by
  unfold nobodyL
  rw [if_neg (by rw [ht]; exact hk)]

/-- What has no such key: two or three steps more. -/
theorem go_none {l : List Int} {kind key val node nx mk : Int} {A B : List (Int × Int × Int)} (hg : Good l) (hr : Rt kind key val node) (hs : Seg l (cellL6 l 0) (A ++ B) 0) (hst : ∀ p ∈ B, key < p.2.1) (hnx : 0 ≤ nx ∧ nx ≤ 20) (hmk : 0 ≤ mk ∧ mk ≤ 1) :
    ∃ j m s, j ≤ 3 ∧ Goes j l (At kind key val node 1 (lastN A) (headN B) nx mk) m s ∧
      ∃ pc nx' mk', (0 ≤ pc ∧ pc ≤ 6) ∧ (0 ≤ nx' ∧ nx' ≤ 20) ∧ (0 ≤ mk' ∧ mk' ≤ 1) ∧ (m, s) = nobodyL l (At kind key val node pc (lastN A) (headN B) nx' mk') := by
  obtain ⟨z, hA, hB⟩ := seg_append.1 hs
  have hl := lastN_bd hA
  cases B with
  | nil =>
    refine ⟨1, (nobodyL l (At kind key val node 1 (lastN A) 0 nx mk)).1, (nobodyL l (At kind key val node 1 (lastN A) 0 nx mk)).2, by omega, Goes.one rfl ?_, 1, nx, mk, by omega, hnx, hmk, rfl⟩
    rw [step_go hg rfl (At.ok hr (by omega) hl (by simp [headN]) hnx hmk), goL1 rfl rfl]
    rfl
  | cons p r =>
    obtain ⟨hz, hb, hk1, hv1, hR⟩ := hB
    have hw : wordC p.1 = 3 * p.1 + 2 := by unfold wordC; rw [if_neg (by omega)]
    have hh := seg_head hR
    have hhb := headN_bd hR
    have hkp := hst p (by simp)
    have e1 : stepL l (At kind key val node 1 (lastN A) p.1 nx mk) = (l, At kind key val node 2 (lastN A) p.1 (headN r) 0) := by
      rw [step_go hg rfl (At.ok hr (by omega) hl (by omega) hnx hmk), goL1' rfl (show ¬ p.1 = 0 by omega)]
      show (l, _) = _
      have e : cellL6 l (wordC (At kind key val node 1 (lastN A) p.1 nx mk).cur) = 2 * headN r := by show cellL6 l (wordC p.1) = _; rw [hw]; exact hh
      rw [e, nodeC_two hhb, show (2 * headN r) % 2 = 0 by omega]
      rfl
    have e2 : stepL l (At kind key val node 2 (lastN A) p.1 (headN r) 0) = (l, At kind key val node 3 (lastN A) p.1 (headN r) 0) := by
      rw [step_go hg rfl (At.ok hr (by omega) hl (by omega) hhb (by omega)), goL2 rfl]
      have : ¬ p.2.1 < key := by omega
      simp [lookL, At, hk1, this]
    have e3 : stepL l (At kind key val node 3 (lastN A) p.1 (headN r) 0) = nobodyL l (At kind key val node 3 (lastN A) p.1 (headN r) 0) := by
      rw [step_go hg rfl (At.ok hr (by omega) hl (by omega) hhb (by omega)), goL3 rfl]
      have : ¬ p.2.1 = key := by omega
      unfold foundL
      rw [if_neg (by show ¬ cellL6 l (3 * p.1) = key; rw [hk1]; exact this)]
    exact ⟨3, _, _, by omega, ((Goes.one rfl e1).trans (Goes.one rfl e2)).trans (Goes.one rfl e3), 3, headN r, 0, by omega, hhb, by omega, rfl⟩
end Go.Proofs.Ytockgojdmaladab
