/- What goes out of a row. Plain. Written by mkdelx.py. -/
import Derived.Test.YtfdbldmmhomifacCopyMany
import Derived.Test.YtfdbldmmhomifacIntsJ
import Derived.Test.YtfdbldmmhomifacSkStepJ
namespace Go.Proofs.Ytfdbldmmhomifac
open Go.RowKit Go.Sort
def idxX {α : Type} (p : α → Bool) (L : List α) : Int := match L.findIdx? p with | some i => (i : Int) | none => -1
theorem idxX_hit {α : Type} {p : α → Bool} {L : List α} {k : Nat} (hk : k < L.length) (h : p L[k] = true) (hno : ∀ j (hj : j < k), p (L[j]'(by omega)) = false) : idxX p L = k := by
  have : L.findIdx? p = some k := by
    rw [List.findIdx?_eq_some_iff_getElem]
    exact ⟨hk, h, fun j hj => by simp [hno j hj]⟩
  simp [idxX, this]
theorem idxX_miss {α : Type} {p : α → Bool} {L : List α} (h : ∀ x ∈ L, p x = false) : idxX p L = -1 := by
  have : L.findIdx? p = none := by
    rw [List.findIdx?_eq_none_iff]
    exact h
  simp [idxX, this]
theorem idxX_cases {α : Type} (p : α → Bool) (L : List α) : (∃ (k : Nat) (hk : k < L.length), idxX p L = k ∧ p L[k] = true ∧ ∀ j (hj : j < k), p (L[j]'(by omega)) = false) ∨ (idxX p L = -1 ∧ ∀ x ∈ L, p x = false) := by
  cases h : L.findIdx? p with
  | none =>
    rw [List.findIdx?_eq_none_iff] at h
    exact .inr ⟨idxX_miss h, h⟩
  | some k =>
    have h0 := h
    rw [List.findIdx?_eq_some_iff_getElem] at h
    obtain ⟨hk, h1, h2⟩ := h
    exact .inl ⟨k, hk, by simp [idxX, h0], h1, fun j hj => by simpa using h2 j hj⟩

def keepX {α : Type} (p : α → Bool) (L : List α) : List α := L.filter fun x => !p x
theorem keepX_take {α : Type} {p : α → Bool} {L : List α} {k : Nat} (hk : k < L.length) : keepX p (L.take (k + 1)) = keepX p (L.take k) ++ if p L[k] = true then [] else [L[k]] := by
  unfold keepX
  rw [List.take_succ_eq_append_getElem hk, List.filter_append]
  cases h : p L[k] <;> simp [h]
theorem keepX_none {α : Type} {p : α → Bool} {L : List α} (h : ∀ x ∈ L, p x = false) : keepX p L = L := List.filter_eq_self.2 fun x hx => by rw [h x hx]; rfl
theorem keepX_step {α : Type} {p : α → Bool} {L : List α} {k : Nat} (hk : k < L.length) (hx : p L[k] = true) (hno : ∀ j (hj : j < k), p (L[j]'(by omega)) = false) : keepX p (L.take (k + 1)) = L.take k := by
  rw [keepX_take hk, if_pos hx, List.append_nil]
  refine keepX_none fun x hx => ?_
  obtain ⟨j, hj, rfl⟩ := List.getElem_of_mem hx
  rw [List.length_take] at hj
  rw [List.getElem_take]
  exact hno j (by omega)
/-- 'clear(s)' of elements of several cells. -/
theorem run_clear_x {P : Program} (w : World) (t e ty : TypeId) (z : Value) (ht : P.underlying t = some (.slice e)) (hv : ∀ w, (zeroValue e).run P w = .ok z w) (n : Nat) (hn : 0 < n) (h1 : ∀ v ∈ (Builtin.zeroCells z.cells n).toList, v.oneCell' = true) (g o c : Nat)
    (cur : List Value) (tt : TypeId) (hg : w.heap[g]? = some (.cells cur.toArray tt (0, 0))) (hfit : o + (Builtin.zeroCells z.cells n).toList.length ≤ cur.length) :
    (Builtin.clear_ #[t] ty #[.slice (some ⟨g, o, none⟩) n c]).run P w = .ok (.tuple #[]) (w.setRow g (splice cur o (Builtin.zeroCells z.cells n).toList).toArray) := by
  have hst := run_storeCells_at P g o tt (Builtin.zeroCells z.cells n).toList 0 cur.toArray w hg (by simpa using hfit) h1
  simp only [Nat.add_zero] at hst
  obtain ⟨m, rfl⟩ : ∃ m, n = m + 1 := ⟨n - 1, by omega⟩
  simp [Builtin.clear_, run_underlying ht, hv, hst, splice]
end Go.Proofs.Ytfdbldmmhomifac
