/- Texts that stand in one: LawKit, CellPlain. -/
import Derived.Test.YtpgcfgbhkodmeaaFilesLaw
import Derived.Deep.RegionHeld3
import Derived.Test.YtpgcfgbhkodmeaaSkBaseJ
namespace Go.Proofs.Ytpgcfgbhkodmeaa
open Go.RowKit Go.Sort

theorem FAt.on {w w' : World} {a : Option Addr} {L : List Fil} (h : FAt w a L w.heap.size) (hb : Below w.heap.size w w') : FAt w' a L w'.heap.size := (h.below hb (Nat.le_refl _)).mono hb.size
theorem bthen {a b c : World} (h : Below a.heap.size a b) (k : Below b.heap.size b c) : Below a.heap.size a c := h.trans (k.mono h.size)
theorem bplus {a b : World} (h : Below a.heap.size a b) (o : Obj) : Below a.heap.size a (b.alloc o) := h.alloc h.size o
theorem OwnF.at {w : World} {base : Nat} {e : TypeId} {v : Value} {L : List Fil} (h : OwnF w base e v L) : ∃ a cap, v = .slice a L.length cap ∧ FAt w a L w.heap.size := by
  obtain ⟨a, cap, hv, _, _, hA, _⟩ := h.shape
  exact ⟨a, cap, hv, hA⟩

/-- What is kept while a law compares what it handed in. -/
theorem kept2 {w0 w1 w2 : World} {p q : Addr} {u v : Value} (h : Below w0.heap.size w0 w1 ∧ w1.cell? p = some u ∧ w1.cell? q = some v) (hp : p.block < w0.heap.size) (hq : q.block < w0.heap.size) (hb : Below w1.heap.size w1 w2) :
    Below w0.heap.size w0 w2 ∧ w2.cell? p = some u ∧ w2.cell? q = some v :=
  ⟨bthen h.1 hb, (hb.cell (Nat.lt_of_lt_of_le hp h.1.size)).trans h.2.1, (hb.cell (Nat.lt_of_lt_of_le hq h.1.size)).trans h.2.2⟩
end Go.Proofs.Ytpgcfgbhkodmeaa

namespace Go.Proofs.Ytpgcfgbhkodmeaa
open Go.RowKit

/-- A number that a cell may hold. -/
def nOkC (n : Int) : Bool := decide (0 ≤ n ∧ n ≤ 1000000000)
/-- There is such a place. -/
def inC (l : List Int) (p : Int) : Bool := decide (0 ≤ p ∧ p < l.length)
def ldC (l : List Int) (p : Int) : Int × Bool := if inC l p then (l.getD p.toNat 0, true) else (0, false)
def stC (l : List Int) (p n : Int) : List Int × Bool := if inC l p && nOkC n then (l.set p.toNat n, true) else (l, false)
def swC (l : List Int) (p o n : Int) : List Int × Bool := if inC l p && nOkC n && decide (l.getD p.toNat 0 = o) then (l.set p.toNat n, true) else (l, false)
def adC (l : List Int) (p n : Int) : List Int × Int := if inC l p then (l.set p.toNat ((l.getD p.toNat 0 + n) % 1000000001), l.getD p.toNat 0) else (l, 0)
def okC (l : List Int) : Bool := decide (1 ≤ l.length ∧ l.length ≤ 80) && l.all nOkC

theorem inC_iff {l : List Int} {p : Int} : inC l p = true ↔ 0 ≤ p ∧ p < l.length := by simp [inC]
theorem inC_nat {l : List Int} {p : Nat} (h : p < l.length) : inC l p = true := inC_iff.2 (by omega)
theorem inC_out {l : List Int} {p : Int} (h : p < 0 ∨ (l.length : Int) ≤ p) : inC l p = false := by
  unfold inC; exact decide_eq_false (by omega)
theorem stC_out {l : List Int} {p n : Int} (h : p < 0 ∨ (l.length : Int) ≤ p) : stC l p n = (l, false) := by simp [stC, inC_out h]
theorem swC_out {l : List Int} {p o n : Int} (h : p < 0 ∨ (l.length : Int) ≤ p) : swC l p o n = (l, false) := by simp [swC, inC_out h]
theorem adC_out {l : List Int} {p n : Int} (h : p < 0 ∨ (l.length : Int) ≤ p) : adC l p n = (l, 0) := by simp [adC, inC_out h]
theorem ldC_out {l : List Int} {p : Int} (h : p < 0 ∨ (l.length : Int) ≤ p) : ldC l p = (0, false) := by simp [ldC, inC_out h]
theorem stC_bad {l : List Int} {p n : Int} (h : nOkC n = false) : stC l p n = (l, false) := by simp [stC, h]
theorem swC_bad {l : List Int} {p o n : Int} (h : nOkC n = false) : swC l p o n = (l, false) := by simp [swC, h]
theorem stC_in {l : List Int} {p : Nat} {n : Int} (hp : p < l.length) (h : nOkC n = true) : stC l p n = (l.set p n, true) := by simp [stC, inC_nat hp, h]
theorem swC_miss {l : List Int} {p : Nat} {o n : Int} (h : ¬ l.getD p 0 = o) : swC l p o n = (l, false) := by simp [swC] at *; simp [h]
theorem swC_hit {l : List Int} {p : Nat} {o n : Int} (hp : p < l.length) (hn : nOkC n = true) (h : l.getD p 0 = o) : swC l p o n = (l.set p n, true) := by simp [swC, inC_nat hp, hn] at *; simp [h]
theorem adC_in {l : List Int} {p : Nat} {n : Int} (hp : p < l.length) : adC l p n = (l.set p ((l.getD p 0 + n) % 1000000001), l.getD p 0) := by simp [adC, inC_nat hp]
theorem ldC_in {l : List Int} {p : Nat} (hp : p < l.length) : ldC l p = (l.getD p 0, true) := by simp [ldC, inC_nat hp]

theorem stC_len (l : List Int) (p n : Int) : (stC l p n).1.length = l.length := by unfold stC; split <;> simp
theorem swC_len (l : List Int) (p o n : Int) : (swC l p o n).1.length = l.length := by unfold swC; split <;> simp
theorem adC_len (l : List Int) (p n : Int) : (adC l p n).1.length = l.length := by unfold adC; split <;> simp

theorem range_getD (l : List Int) : (List.range l.length).map (fun j => l.getD j 0) = l := by
  apply List.ext_getElem (by simp)
  intro i h1 h2
  simp [List.getD, h2]
theorem range_set (l : List Int) (p : Nat) (z : Int) : (List.range l.length).map (fun i => if i = p then z else l.getD i 0) = l.set p z := by
  apply List.ext_getElem (by simp)
  intro i h1 h2
  have h3 : i < l.length := by simpa using h2
  by_cases h : p = i
  · subst h; simp
  · have h' : ¬ i = p := fun e => h e.symm
    simp [List.getD, h3, h, h']
theorem okC_short {l : List Int} (h : l.length < 1) : okC l = false := by
  unfold okC; rw [decide_eq_false (by omega)]; rfl
theorem okC_long {l : List Int} (h : 80 < l.length) : okC l = false := by
  unfold okC; rw [decide_eq_false (by omega)]; rfl
theorem okC_bad {l : List Int} {k : Nat} (hk : k < l.length) (h : nOkC l[k] = false) : okC l = false := by
  have : l.all nOkC = false := List.all_eq_false.2 ⟨l[k], List.getElem_mem hk, by simp [h]⟩
  unfold okC; rw [this, Bool.and_false]
theorem okC_true {l : List Int} (h1 : 1 ≤ l.length) (h2 : l.length ≤ 80) (h : l.all nOkC = true) : okC l = true := by
  unfold okC; rw [decide_eq_true ⟨h1, h2⟩, h]; rfl
theorem all_step {l : List Int} {k : Nat} (hk : k < l.length) (h : (l.take k).all nOkC = true) (h2 : nOkC l[k] = true) : (l.take (k + 1)).all nOkC = true := by
  rw [List.take_succ_eq_append_getElem hk, List.all_append, h]
  simp [h2]
theorem tmod_cases (n : Int) : (0 ≤ n ∧ n.tmod 1000000001 = n % 1000000001) ∨ (n < 0 ∧ n.tmod 1000000001 = -((-n) % 1000000001)) := by
  by_cases h : 0 ≤ n
  · exact .inl ⟨h, Int.tmod_eq_emod_of_nonneg h⟩
  · refine .inr ⟨by omega, ?_⟩
    have e : n.tmod 1000000001 = -((-n).tmod 1000000001) := by rw [Int.neg_tmod, Int.neg_neg]
    rw [e, Int.tmod_eq_emod_of_nonneg (by omega)]
theorem round_one (n : Int) : (wrap64 (n.tmod 1000000001 + 1000000001)).tmod 1000000001 = n % 1000000001 := by
  have e : wrap64 (n.tmod 1000000001 + 1000000001) = n.tmod 1000000001 + 1000000001 := by
    rcases tmod_cases n with ⟨_, h⟩ | ⟨_, h⟩ <;> unfold wrap64 <;> omega
  rw [e]
  have h2 : 0 ≤ n.tmod 1000000001 + 1000000001 := by rcases tmod_cases n with ⟨_, h⟩ | ⟨_, h⟩ <;> omega
  rw [Int.tmod_eq_emod_of_nonneg h2]
  rcases tmod_cases n with ⟨_, h⟩ | ⟨_, h⟩ <;> omega
end Go.Proofs.Ytpgcfgbhkodmeaa
