/- Texts that stand in one: SkFlat, CellPlain. -/
import Derived.Test.YtbcjkinalghokafDoorSkKit
import Derived.Laws.CopyOwn
import Derived.Laws.Rows
import Derived.Laws.Tables
import Derived.Deep.WholeRow
import Derived.Test.YtbcjkinalghokafDoorSumPlainJ
namespace Go.Proofs.YtbcjkinalghokafDoor
open Go.RowKit

def All16 (rows : List (List Int)) : Prop := ∀ r ∈ rows, r.length = 16
theorem flat_len : ∀ (rows : List (List Int)), All16 rows → rows.flatten.length = 16 * rows.length
  | [], _ => rfl
  | r :: rs, h => by
    have h1 := h r (by simp)
    have h2 := flat_len rs (fun x hx => h x (by simp [hx]))
    simp only [List.flatten_cons, List.length_append, List.length_cons, h1, h2]
    omega
theorem flat_at : ∀ (rows : List (List Int)), All16 rows → ∀ (k p : Nat), p < 16 → rows.flatten[k * 16 + p]? = (rows.getD k [])[p]?
  | [], _, k, p, _ => by simp
  | r :: rs, h, 0, p, hp => by
    have h1 := h r (by simp)
    rw [List.flatten_cons, List.getElem?_append_left (by omega)]
    simp
  | r :: rs, h, k + 1, p, hp => by
    have h1 := h r (by simp)
    rw [List.flatten_cons, List.getElem?_append_right (by omega), show (k + 1) * 16 + p - r.length = k * 16 + p by omega, flat_at rs (fun x hx => h x (by simp [hx])) k p hp]
    simp
theorem flat_set : ∀ (rows : List (List Int)), All16 rows → ∀ (k p : Nat) (z : Int), p < 16 → k < rows.length → rows.flatten.set (k * 16 + p) z = (rows.set k ((rows.getD k []).set p z)).flatten
  | [], _, k, p, z, _, hk => by simp at hk
  | r :: rs, h, 0, p, z, hp, _ => by
    have h1 := h r (by simp)
    rw [List.flatten_cons, List.set_append_left _ _ (by omega)]
    simp
  | r :: rs, h, k + 1, p, z, hp, hk => by
    have h1 := h r (by simp)
    rw [List.flatten_cons, List.set_append_right _ _ (by omega), show (k + 1) * 16 + p - r.length = k * 16 + p by omega, flat_set rs (fun x hx => h x (by simp [hx])) k p z hp (by simpa using hk)]
    simp
theorem flat_splice : ∀ (rows : List (List Int)), All16 rows → ∀ (k : Nat) (q : List Int), q.length = 16 → k < rows.length → splice rows.flatten (k * 16) q = (rows.set k q).flatten
  | [], _, k, q, _, hk => by simp at hk
  | r :: rs, h, 0, q, hq, _ => by
    have h1 := h r (by simp)
    unfold splice
    rw [List.flatten_cons, hq, List.drop_append]
    simp [h1]
  | r :: rs, h, k + 1, q, hq, hk => by
    have h1 := h r (by simp)
    have ih := flat_splice rs (fun x hx => h x (by simp [hx])) k q hq (by simpa using hk)
    unfold splice at ih ⊢
    rw [List.flatten_cons, List.take_append, List.drop_append, List.take_of_length_le (by omega), List.drop_eq_nil_of_le (by omega), List.nil_append, show (k + 1) * 16 - r.length = k * 16 by omega, show (k + 1) * 16 + q.length - r.length = k * 16 + q.length by omega, List.append_assoc, ih]
    simp
theorem all16_set {rows : List (List Int)} (h : All16 rows) (k : Nat) {q : List Int} (hq : q.length = 16) : All16 (rows.set k q) := by
  intro r hr
  rcases List.mem_or_eq_of_mem_set hr with hr | rfl
  · exact h r hr
  · exact hq
theorem all16_zero : All16 (List.replicate 3 (List.replicate 16 0)) := by
  intro r hr
  obtain ⟨_, rfl⟩ := List.mem_replicate.1 hr
  simp
theorem all16_get {rows : List (List Int)} (h : All16 rows) {k : Nat} (hk : k < rows.length) : rows[k].length = 16 := h _ (List.getElem_mem hk)

/-- Rows as one array in the variable T. -/
def RBox (w : World) (T : Nat) (rows : List (List Int)) : Prop := w.heap[T]? = some (.cells (ints rows.flatten).toArray 70 (0, 0))
theorem RBox.lt {w : World} {T : Nat} {rows : List (List Int)} (h : RBox w T rows) : T < w.heap.size := (Array.getElem?_eq_some_iff.1 h).1
theorem RBox.new (w : World) (rows : List (List Int)) : RBox (w.alloc (.cells (ints rows.flatten).toArray 70)) w.heap.size rows := heap_alloc_new w _
theorem RBox.kept {w w' : World} {T : Nat} {rows : List (List Int)} (h : RBox w T rows) (hk : w'.heap[T]? = w.heap[T]?) : RBox w' T rows := hk.trans h
theorem RBox.on {w w' : World} {T : Nat} {rows : List (List Int)} (h : RBox w T rows) (hb : Below w.heap.size w w') : RBox w' T rows := h.kept (hb.block T h.lt)
theorem RBox.thaw {w : World} {T : Nat} {rows : List (List Int)} (h : RBox w T rows) (i : Nat) : w.frozen? ⟨T, i, none⟩ = false := by
  unfold RBox at h
  simp [World.frozen?, h]
theorem RBox.cell {w : World} {T : Nat} {rows : List (List Int)} (h : RBox w T rows) (h16 : All16 rows) {k p : Nat} (hk : k < rows.length) (hp : p < 16) : w.cell? ⟨T, k * 16 + p, none⟩ = some (.int .i64 ((rows.getD k []).getD p 0)) := by
  unfold RBox at h
  have hl : p < (rows.getD k []).length := by rw [List.getD_eq_getElem?_getD, List.getElem?_eq_getElem hk]; simpa [all16_get h16 hk] using hp
  rw [cell_of_row w T (k * 16 + p) _ _ (0, 0) h]
  simp only [ints, List.getElem?_toArray, List.getElem?_map, flat_at rows h16 k p hp, List.getElem?_eq_getElem hl, Option.map_some]
  have e : ∀ (r : List Int) (h : p < r.length), r[p] = r.getD p 0 := by intro r h; simp [List.getD_eq_getElem?_getD, h]
  rw [e _ hl]
theorem RBox.at {w : World} {T : Nat} {rows : List (List Int)} (h : RBox w T rows) (h16 : All16 rows) {k : Nat} (hk : k < rows.length) : IAt w (some ⟨T, k * 16, none⟩) rows[k] w.heap.size := by
  intro j hj
  have hl := all16_get h16 hk
  refine ⟨T, k * 16, rfl, h.lt, ?_⟩
  rw [h.cell h16 hk (by omega)]
  simp [List.getD_eq_getElem?_getD, List.getElem?_eq_getElem hk, List.getElem?_eq_getElem hj]
theorem RBox.set {w : World} {T : Nat} {rows : List (List Int)} (h : RBox w T rows) (h16 : All16 rows) {k p : Nat} (hk : k < rows.length) (hp : p < 16) (z : Int) : RBox (w.setCell ⟨T, k * 16 + p, none⟩ (.int .i64 z)) T (rows.set k ((rows.getD k []).set p z)) := by
  unfold RBox at *
  rw [setCell_eq_setRow w T _ _ _ (0, 0) _ h, setRow_heap w T _ _ _ _ h, ← flat_set rows h16 k p z hp hk]
  simp [ints, List.map_set]
theorem ints_all (l : List Int) : (ints l).toArray.all (·.oneCell') = true := by
  rw [Array.all_eq_true_iff_forall_mem]
  intro v hv
  simp only [List.mem_toArray, ints, List.mem_map] at hv
  obtain ⟨x, _, rfl⟩ := hv
  rfl
theorem ints_one (l : List Int) : ∀ u ∈ ints l, u.oneCell' = true := by
  intro u hu
  simp only [ints, List.mem_map] at hu
  obtain ⟨x, _, rfl⟩ := hu
  rfl
/-- The whole of it is loaded. -/
theorem RBox.load {P : Program} {w : World} {T : Nat} {rows : List (List Int)} (h : RBox w T rows) (hl : rows.flatten.length = 48) : (loadCellsFrom ⟨T, 0, none⟩ 0 48 #[]).run P w = .ok (ints rows.flatten).toArray w := by
  have h' : w.heap[T]? = some (.cells (ints rows.flatten).toArray 70 (0, 0)) := h
  have := run_loadCells_list (P := P) w ⟨T, 0, none⟩ (ints rows.flatten) (fun j v hv => by
    have hadd : (⟨T, 0, none⟩ : Addr).add j = ⟨T, j, none⟩ := by unfold Addr.add; split <;> simp_all
    rw [hadd, cell_of_row _ _ j _ _ (0, 0) h']
    simpa using hv)
  rw [ints_length, hl] at this
  simpa [loadCells] using this
theorem splice_all {α : Type} (L cs : List α) (h : L.length = cs.length) : L.take 0 ++ cs ++ L.drop (0 + cs.length) = cs := by
  rw [Nat.zero_add, ← h]
  simp
/-- The whole of it is stored. -/
theorem RBox.store {P : Program} {w : World} {T : Nat} {rows new : List (List Int)} (h : RBox w T rows) (hl : rows.flatten.length = 48) (hn : new.flatten.length = 48) : (storeCells ⟨T, 0, none⟩ (ints new.flatten) 0).run P w = .ok () (w.setRow T (ints new.flatten).toArray) := by
  have h' : w.heap[T]? = some (.cells (ints rows.flatten).toArray 70 (0, 0)) := h
  have := run_storeCells_at P T 0 70 (ints new.flatten) 0 _ w h' (Nat.le_of_eq (by rw [ints_length, List.size_toArray, ints_length, hn, hl])) (ints_one _)
  rw [this]
  simp only [Nat.add_zero]
  rw [splice_all _ _ (by rw [ints_length, ints_length, hl, hn])]
theorem RBox.stored {w : World} {T : Nat} {rows : List (List Int)} (h : RBox w T rows) (new : List (List Int)) : RBox (w.setRow T (ints new.flatten).toArray) T new := setRow_heap w T _ _ _ _ h
theorem zeros48 : (ints (List.replicate 3 (List.replicate 16 0)).flatten).toArray = Array.replicate 48 (Value.int .i64 0) := by rfl
end Go.Proofs.YtbcjkinalghokafDoor

namespace Go.Proofs.YtbcjkinalghokafDoor
open Go.RowKit

/-- A number that a cell may hold. -/
def nOkC (n : Int) : Bool := decide (0 ≤ n ∧ n ≤ 1000000000)
/-- There is such a place. -/
def inC (l : List Int) (p : Int) : Bool := decide (0 ≤ p ∧ p < l.length)
def ldC (l : List Int) (p : Int) : Int × Bool := if inC l p then (l.getD p.toNat 0, true) else (0, false)
def stC (l : List Int) (p n : Int) : List Int × Bool := if inC l p && nOkC n then (l.set p.toNat n, true) else (l, false)
def swC (l : List Int) (p o n : Int) : List Int × Bool := if inC l p && nOkC n && decide (l.getD p.toNat 0 = o) then (l.set p.toNat n, true) else (l, false)
def adC (l : List Int) (p n : Int) : List Int × Int := if inC l p then (l.set p.toNat ((l.getD p.toNat 0 + n) % 1000000001), l.getD p.toNat 0) else (l, 0)
def okC (l : List Int) : Bool := decide (1 ≤ l.length ∧ l.length ≤ 80) && l.all nOkC

theorem inC_iff {l : List Int} {p : Int} : inC l p = true ↔ 0 ≤ p ∧ p < l.length := by simp [inC]
theorem inC_nat {l : List Int} {p : Nat} (h : p < l.length) : inC l p = true := inC_iff.2 (by omega)
theorem inC_out {l : List Int} {p : Int} (h : p < 0 ∨ (l.length : Int) ≤ p) : inC l p = false := by
  unfold inC; exact decide_eq_false (by omega)
theorem stC_out {l : List Int} {p n : Int} (h : p < 0 ∨ (l.length : Int) ≤ p) : stC l p n = (l, false) := by simp [stC, inC_out h]
theorem swC_out {l : List Int} {p o n : Int} (h : p < 0 ∨ (l.length : Int) ≤ p) : swC l p o n = (l, false) := by simp [swC, inC_out h]
theorem adC_out {l : List Int} {p n : Int} (h : p < 0 ∨ (l.length : Int) ≤ p) : adC l p n = (l, 0) := by simp [adC, inC_out h]
theorem ldC_out {l : List Int} {p : Int} (h : p < 0 ∨ (l.length : Int) ≤ p) : ldC l p = (0, false) := by simp [ldC, inC_out h]
theorem stC_bad {l : List Int} {p n : Int} (h : nOkC n = false) : stC l p n = (l, false) := by simp [stC, h]
theorem swC_bad {l : List Int} {p o n : Int} (h : nOkC n = false) : swC l p o n = (l, false) := by simp [swC, h]
theorem stC_in {l : List Int} {p : Nat} {n : Int} (hp : p < l.length) (h : nOkC n = true) : stC l p n = (l.set p n, true) := by simp [stC, inC_nat hp, h]
theorem swC_miss {l : List Int} {p : Nat} {o n : Int} (h : ¬ l.getD p 0 = o) : swC l p o n = (l, false) := by simp [swC] at *; simp [h]
theorem swC_hit {l : List Int} {p : Nat} {o n : Int} (hp : p < l.length) (hn : nOkC n = true) (h : l.getD p 0 = o) : swC l p o n = (l.set p n, true) := by simp [swC, inC_nat hp, hn] at *; simp [h]
theorem adC_in {l : List Int} {p : Nat} {n : Int} (hp : p < l.length) : adC l p n = (l.set p ((l.getD p 0 + n) % 1000000001), l.getD p 0) := by simp [adC, inC_nat hp]
theorem ldC_in {l : List Int} {p : Nat} (hp : p < l.length) : ldC l p = (l.getD p 0, true) := by simp [ldC, inC_nat hp]

theorem stC_len (l : List Int) (p n : Int) : (stC l p n).1.length = l.length := by unfold stC; split <;> simp
theorem swC_len (l : List Int) (p o n : Int) : (swC l p o n).1.length = l.length := by unfold swC; split <;> simp
theorem adC_len (l : List Int) (p n : Int) : (adC l p n).1.length = l.length := by unfold adC; split <;> simp

theorem range_getD (l : List Int) : (List.range l.length).map (fun j => l.getD j 0) = l := by
  apply List.ext_getElem (by simp)
  intro i h1 h2
  simp [List.getD, h2]
theorem range_set (l : List Int) (p : Nat) (z : Int) : (List.range l.length).map (fun i => if i = p then z else l.getD i 0) = l.set p z := by
  apply List.ext_getElem (by simp)
  intro i h1 h2
  have h3 : i < l.length := by simpa using h2
  by_cases h : p = i
  · subst h; simp
  · have h' : ¬ i = p := fun e => h e.symm
    simp [List.getD, h3, h, h']
theorem okC_short {l : List Int} (h : l.length < 1) : okC l = false := by
  unfold okC; rw [decide_eq_false (by omega)]; rfl
theorem okC_long {l : List Int} (h : 80 < l.length) : okC l = false := by
  unfold okC; rw [decide_eq_false (by omega)]; rfl
theorem okC_bad {l : List Int} {k : Nat} (hk : k < l.length) (h : nOkC l[k] = false) : okC l = false := by
  have : l.all nOkC = false := List.all_eq_false.2 ⟨l[k], List.getElem_mem hk, by simp [h]⟩
  unfold okC; rw [this, Bool.and_false]
theorem okC_true {l : List Int} (h1 : 1 ≤ l.length) (h2 : l.length ≤ 80) (h : l.all nOkC = true) : okC l = true := by
  unfold okC; rw [decide_eq_true ⟨h1, h2⟩, h]; rfl
theorem all_step {l : List Int} {k : Nat} (hk : k < l.length) (h : (l.take k).all nOkC = true) (h2 : nOkC l[k] = true) : (l.take (k + 1)).all nOkC = true := by
  rw [List.take_succ_eq_append_getElem hk, List.all_append, h]
  simp [h2]
theorem tmod_cases (n : Int) : (0 ≤ n ∧ n.tmod 1000000001 = n % 1000000001) ∨ (n < 0 ∧ n.tmod 1000000001 = -((-n) % 1000000001)) := by
  by_cases h : 0 ≤ n
  · exact .inl ⟨h, Int.tmod_eq_emod_of_nonneg h⟩
  · refine .inr ⟨by omega, ?_⟩
    have e : n.tmod 1000000001 = -((-n).tmod 1000000001) := by rw [Int.neg_tmod, Int.neg_neg]
    rw [e, Int.tmod_eq_emod_of_nonneg (by omega)]
theorem round_one (n : Int) : (wrap64 (n.tmod 1000000001 + 1000000001)).tmod 1000000001 = n % 1000000001 := by
  have e : wrap64 (n.tmod 1000000001 + 1000000001) = n.tmod 1000000001 + 1000000001 := by
    rcases tmod_cases n with ⟨_, h⟩ | ⟨_, h⟩ <;> unfold wrap64 <;> omega
  rw [e]
  have h2 : 0 ≤ n.tmod 1000000001 + 1000000001 := by rcases tmod_cases n with ⟨_, h⟩ | ⟨_, h⟩ <;> omega
  rw [Int.tmod_eq_emod_of_nonneg h2]
  rcases tmod_cases n with ⟨_, h⟩ | ⟨_, h⟩ <;> omega
end Go.Proofs.YtbcjkinalghokafDoor
