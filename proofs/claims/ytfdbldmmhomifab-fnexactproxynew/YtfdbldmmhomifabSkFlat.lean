/- The rows of a sketch as one array, in a variable. Plain, no program. -/
import Derived.Test.YtfdbldmmhomifabSkKit
import Derived.Laws.CopyOwn
import Derived.Laws.Rows
import Derived.Laws.Tables
import Derived.Deep.WholeRow
namespace Go.Proofs.Ytfdbldmmhomifab
open Go.RowKit

def All16 (rows : List (List Int)) : Prop := ∀ r ∈ rows, r.length = 16
theorem flat_len : ∀ (rows : List (List Int)), All16 rows → rows.flatten.length = 16 * rows.length
  | [], _ => rfl
  | r :: rs, h => by
    have h1 := h r (by simp)
    have h2 := flat_len rs (fun x hx => h x (by simp [hx]))
    simp only [List.flatten_cons, List.length_append, List.length_cons, h1, h2]
    omega
theorem flat_at : ∀ (rows : List (List Int)), All16 rows → ∀ (k p : Nat), p < 16 → rows.flatten[k * 16 + p]? = (rows.getD k [])[p]?
  | [], _, k, p, _ => by simp
  | r :: rs, h, 0, p, hp => by
    have h1 := h r (by simp)
    rw [List.flatten_cons, List.getElem?_append_left (by omega)]
    simp
  | r :: rs, h, k + 1, p, hp => by
    have h1 := h r (by simp)
    rw [List.flatten_cons, List.getElem?_append_right (by omega), show (k + 1) * 16 + p - r.length = k * 16 + p by omega, flat_at rs (fun x hx => h x (by simp [hx])) k p hp]
    simp
theorem flat_set : ∀ (rows : List (List Int)), All16 rows → ∀ (k p : Nat) (z : Int), p < 16 → k < rows.length → rows.flatten.set (k * 16 + p) z = (rows.set k ((rows.getD k []).set p z)).flatten
  | [], _, k, p, z, _, hk => by simp at hk
  | r :: rs, h, 0, p, z, hp, _ => by
    have h1 := h r (by simp)
    rw [List.flatten_cons, List.set_append_left _ _ (by omega)]
    simp
  | r :: rs, h, k + 1, p, z, hp, hk => by
    have h1 := h r (by simp)
    rw [List.flatten_cons, List.set_append_right _ _ (by omega), show (k + 1) * 16 + p - r.length = k * 16 + p by omega, flat_set rs (fun x hx => h x (by simp [hx])) k p z hp (by simpa using hk)]
    simp
theorem flat_splice : ∀ (rows : List (List Int)), All16 rows → ∀ (k : Nat) (q : List Int), q.length = 16 → k < rows.length → splice rows.flatten (k * 16) q = (rows.set k q).flatten
  | [], _, k, q, _, hk => by simp at hk
  | r :: rs, h, 0, q, hq, _ => by
    have h1 := h r (by simp)
    unfold splice
    rw [List.flatten_cons, hq, List.drop_append]
    simp [h1]
  | r :: rs, h, k + 1, q, hq, hk => by
    have h1 := h r (by simp)
    have ih := flat_splice rs (fun x hx => h x (by simp [hx])) k q hq (by simpa using hk)
    unfold splice at ih ⊢
    rw [List.flatten_cons, List.take_append, List.drop_append, List.take_of_length_le (by omega), List.drop_eq_nil_of_le (by omega), List.nil_append, show (k + 1) * 16 - r.length = k * 16 by omega, show (k + 1) * 16 + q.length - r.length = k * 16 + q.length by omega, List.append_assoc, ih]
    simp
theorem all16_set {rows : List (List Int)} (h : All16 rows) (k : Nat) {q : List Int} (hq : q.length = 16) : All16 (rows.set k q) := by
  intro r hr
  rcases List.mem_or_eq_of_mem_set hr with hr | rfl
  · exact h r hr
  · exact hq
theorem all16_zero : All16 (List.replicate 3 (List.replicate 16 0)) := by
  intro r hr
  obtain ⟨_, rfl⟩ := List.mem_replicate.1 hr
  simp
theorem all16_get {rows : List (List Int)} (h : All16 rows) {k : Nat} (hk : k < rows.length) : rows[k].length = 16 := h _ (List.getElem_mem hk)

/-- Rows as one array in the variable T. -/
def RBox (w : World) (T : Nat) (rows : List (List Int)) : Prop := w.heap[T]? = some (.cells (ints rows.flatten).toArray 110 (0, 0))
theorem RBox.lt {w : World} {T : Nat} {rows : List (List Int)} (h : RBox w T rows) : T < w.heap.size := (Array.getElem?_eq_some_iff.1 h).1
theorem RBox.new (w : World) (rows : List (List Int)) : RBox (w.alloc (.cells (ints rows.flatten).toArray 110)) w.heap.size rows := heap_alloc_new w _
theorem RBox.kept {w w' : World} {T : Nat} {rows : List (List Int)} (h : RBox w T rows) (hk : w'.heap[T]? = w.heap[T]?) : RBox w' T rows := hk.trans h
theorem RBox.on {w w' : World} {T : Nat} {rows : List (List Int)} (h : RBox w T rows) (hb : Below w.heap.size w w') : RBox w' T rows := h.kept (hb.block T h.lt)
theorem RBox.thaw {w : World} {T : Nat} {rows : List (List Int)} (h : RBox w T rows) (i : Nat) : w.frozen? ⟨T, i, none⟩ = false := by
  unfold RBox at h
  simp [World.frozen?, h]
theorem RBox.cell {w : World} {T : Nat} {rows : List (List Int)} (h : RBox w T rows) (h16 : All16 rows) {k p : Nat} (hk : k < rows.length) (hp : p < 16) : w.cell? ⟨T, k * 16 + p, none⟩ = some (.int .i64 ((rows.getD k []).getD p 0)) := by
  unfold RBox at h
  have hl : p < (rows.getD k []).length := by rw [List.getD_eq_getElem?_getD, List.getElem?_eq_getElem hk]; simpa [all16_get h16 hk] using hp
  rw [cell_of_row w T (k * 16 + p) _ _ (0, 0) h]
  simp only [ints, List.getElem?_toArray, List.getElem?_map, flat_at rows h16 k p hp, List.getElem?_eq_getElem hl, Option.map_some]
  have e : ∀ (r : List Int) (h : p < r.length), r[p] = r.getD p 0 := by intro r h; simp [List.getD_eq_getElem?_getD, h]
  rw [e _ hl]
theorem RBox.at {w : World} {T : Nat} {rows : List (List Int)} (h : RBox w T rows) (h16 : All16 rows) {k : Nat} (hk : k < rows.length) : IAt w (some ⟨T, k * 16, none⟩) rows[k] w.heap.size := by
  intro j hj
  have hl := all16_get h16 hk
  refine ⟨T, k * 16, rfl, h.lt, ?_⟩
  rw [h.cell h16 hk (by omega)]
  simp [List.getD_eq_getElem?_getD, List.getElem?_eq_getElem hk, List.getElem?_eq_getElem hj]
theorem RBox.set {w : World} {T : Nat} {rows : List (List Int)} (h : RBox w T rows) (h16 : All16 rows) {k p : Nat} (hk : k < rows.length) (hp : p < 16) (z : Int) : RBox (w.setCell ⟨T, k * 16 + p, none⟩ (.int .i64 z)) T (rows.set k ((rows.getD k []).set p z)) := by
  unfold RBox at *
  rw [setCell_eq_setRow w T _ _ _ (0, 0) _ h, setRow_heap w T _ _ _ _ h, ← flat_set rows h16 k p z hp hk]
  simp [ints, List.map_set]
theorem ints_all (l : List Int) : (ints l).toArray.all (·.oneCell') = true := by
  rw [Array.all_eq_true_iff_forall_mem]
  intro v hv
  simp only [List.mem_toArray, ints, List.mem_map] at hv
  obtain ⟨x, _, rfl⟩ := hv
  rfl
theorem ints_one (l : List Int) : ∀ u ∈ ints l, u.oneCell' = true := by
  intro u hu
  simp only [ints, List.mem_map] at hu
  obtain ⟨x, _, rfl⟩ := hu
  rfl
/-- The whole of it is loaded. -/
theorem RBox.load {P : Program} {w : World} {T : Nat} {rows : List (List Int)} (h : RBox w T rows) (hl : rows.flatten.length = 48) : (loadCellsFrom ⟨T, 0, none⟩ 0 48 #[]).run P w = .ok (ints rows.flatten).toArray w := by
  have h' : w.heap[T]? = some (.cells (ints rows.flatten).toArray 110 (0, 0)) := h
  have := run_loadCells_list (P := P) w ⟨T, 0, none⟩ (ints rows.flatten) (fun j v hv => by
    have hadd : (⟨T, 0, none⟩ : Addr).add j = ⟨T, j, none⟩ := by unfold Addr.add; split <;> simp_all
    rw [hadd, cell_of_row _ _ j _ _ (0, 0) h']
    simpa using hv)
  rw [ints_length, hl] at this
  simpa [loadCells] using this
theorem splice_all {α : Type} (L cs : List α) (h : L.length = cs.length) : L.take 0 ++ cs ++ L.drop (0 + cs.length) = cs := by
  rw [Nat.zero_add, ← h]
  simp
/-- The whole of it is stored. -/
theorem RBox.store {P : Program} {w : World} {T : Nat} {rows new : List (List Int)} (h : RBox w T rows) (hl : rows.flatten.length = 48) (hn : new.flatten.length = 48) : (storeCells ⟨T, 0, none⟩ (ints new.flatten) 0).run P w = .ok () (w.setRow T (ints new.flatten).toArray) := by
  have h' : w.heap[T]? = some (.cells (ints rows.flatten).toArray 110 (0, 0)) := h
  have := run_storeCells_at P T 0 110 (ints new.flatten) 0 _ w h' (Nat.le_of_eq (by rw [ints_length, List.size_toArray, ints_length, hn, hl])) (ints_one _)
  rw [this]
  simp only [Nat.add_zero]
  rw [splice_all _ _ (by rw [ints_length, ints_length, hl, hn])]
theorem RBox.stored {w : World} {T : Nat} {rows : List (List Int)} (h : RBox w T rows) (new : List (List Int)) : RBox (w.setRow T (ints new.flatten).toArray) T new := setRow_heap w T _ _ _ _ h
theorem zeros48 : (ints (List.replicate 3 (List.replicate 16 0)).flatten).toArray = Array.replicate 48 (Value.int .i64 0) := by rfl
end Go.Proofs.Ytfdbldmmhomifab
