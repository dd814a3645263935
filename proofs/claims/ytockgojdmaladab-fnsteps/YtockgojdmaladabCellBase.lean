/- Cells: numbers in rows of eighty, the program's own. -/
import Derived.Test.YtockgojdmaladabRowed
import Derived.Test.YtockgojdmaladabBase
import Derived.Laws.OwnMore
import Derived.Laws.LoneSync
import Derived.Lib.QuietBelow
import Derived.BigQuiet
namespace Go.Proofs.Ytockgojdmaladab
open Go.RowKit Go.Sort

/-- The block g holds m rows of eighty numbers. -/
def CAt (w : World) (g m : Nat) (f : Nat → Int) : Prop := ∃ cur : Array Value, w.heap[g]? = some (.cells cur 117 (0, 0)) ∧ cur.size = m * 80 ∧ ∀ j, j < m * 80 → cur[j]? = some (.int .i64 (f j))
theorem CAt.lt {w : World} {g m : Nat} {f : Nat → Int} (h : CAt w g m f) : g < w.heap.size := by
  obtain ⟨cur, h1, _⟩ := h
  exact (Array.getElem?_eq_some_iff.1 h1).1
theorem CAt.kept {w w' : World} {g m : Nat} {f : Nat → Int} (h : CAt w g m f) (hk : w'.heap[g]? = w.heap[g]?) : CAt w' g m f := by
  obtain ⟨cur, h1, h2⟩ := h
  exact ⟨cur, hk.trans h1, h2⟩
theorem CAt.below {w w' : World} {g m B : Nat} {f : Nat → Int} (h : CAt w g m f) (hb : Below B w w') (hB : g < B) : CAt w' g m f := h.kept (hb.block g hB)
theorem CAt.on {w w' : World} {g m : Nat} {f : Nat → Int} (h : CAt w g m f) (hb : Below w.heap.size w w') : CAt w' g m f := h.kept (hb.block g h.lt)
theorem CAt.cell {w : World} {g m : Nat} {f : Nat → Int} (h : CAt w g m f) {j : Nat} (hj : j < m * 80) : w.cell? ⟨g, j, none⟩ = some (.int .i64 (f j)) := by
  obtain ⟨cur, h1, h2, h3⟩ := h
  simp [World.cell?, h1, h3 j hj]
theorem CAt.frozen {w : World} {g m : Nat} {f : Nat → Int} (h : CAt w g m f) (j : Nat) : w.frozen? ⟨g, j, none⟩ = false := by
  obtain ⟨cur, h1, h2, h3⟩ := h
  simp [World.frozen?, h1]
theorem CAt.set {w : World} {g m : Nat} {f : Nat → Int} (h : CAt w g m f) (j : Nat) (z : Int) : CAt (w.setCell ⟨g, j, none⟩ (.int .i64 z)) g m (fun i => if i = j then z else f i) := by
  obtain ⟨cur, h1, h2, h3⟩ := h
  refine ⟨cur.setIfInBounds j (.int .i64 z), ?_, by simpa using h2, fun i hi => ?_⟩
  · exact heap_setCell_same w g j cur _ _ h1
  · by_cases hij : j = i
    · subst hij
      simp [h2, hi]
    · have e : (if i = j then z else f i) = f i := if_neg (fun e => hij e.symm)
      rw [Array.getElem?_setIfInBounds_ne hij]
      show _ = some (Value.int .i64 (if i = j then z else f i))
      rw [e]
      exact h3 i hi
theorem CAt.congr {w : World} {g m : Nat} {f f' : Nat → Int} (h : CAt w g m f) (he : ∀ j, j < m * 80 → f j = f' j) : CAt w g m f' := by
  obtain ⟨cur, h1, h2, h3⟩ := h
  exact ⟨cur, h1, h2, fun j hj => by rw [← he j hj]; exact h3 j hj⟩

/-- A variable of two fields: rows and a number. -/
def CBox (w : World) (C : Nat) (u v : Value) : Prop := w.heap[C]? = some (.cells #[u, v] 75 (0, 0))
theorem CBox.lt {w : World} {C : Nat} {u v : Value} (h : CBox w C u v) : C < w.heap.size := (Array.getElem?_eq_some_iff.1 h).1
theorem CBox.new (w : World) (u v : Value) : CBox (w.alloc (.cells #[u, v] 75)) w.heap.size u v := heap_alloc_new w _
theorem CBox.cells {w : World} {C : Nat} {u v : Value} (h : CBox w C u v) : w.cell? ⟨C, 0, none⟩ = some u ∧ w.cell? ⟨C, 1, none⟩ = some v := by
  unfold CBox at h
  refine ⟨?_, ?_⟩ <;> simp [World.cell?, h]
theorem CBox.thaw {w : World} {C : Nat} {u v : Value} (h : CBox w C u v) : w.frozen? ⟨C, 0, none⟩ = false ∧ w.frozen? ⟨C, 1, none⟩ = false := by
  unfold CBox at h
  refine ⟨?_, ?_⟩ <;> simp [World.frozen?, h]
theorem CBox.kept {w w' : World} {C : Nat} {u v : Value} (h : CBox w C u v) (hk : w'.heap[C]? = w.heap[C]?) : CBox w' C u v := hk.trans h
theorem CBox.on {w w' : World} {C : Nat} {u v : Value} (h : CBox w C u v) (hb : Below w.heap.size w w') : CBox w' C u v := h.kept (hb.block C h.lt)
theorem CBox.ne {w : World} {C g m : Nat} {u v : Value} {f : Nat → Int} (h : CBox w C u v) (hc : CAt w g m f) : C ≠ g := by
  rintro rfl
  obtain ⟨cur, h1, _⟩ := hc
  have := h.symm.trans h1
  simp at this
theorem CBox.other {w : World} {C : Nat} {u v : Value} (h : CBox w C u v) {A : Addr} (hA : C ≠ A.block) (x : Value) : CBox (w.setCell A x) C u v := h.kept (heap_setCell_other w A C x hA)
theorem CBox.set0 {w : World} {C : Nat} {u v : Value} (h : CBox w C u v) (x : Value) : CBox (w.setCell ⟨C, 0, none⟩ x) C x v := by
  unfold CBox at *
  exact heap_setCell_same w C 0 _ _ x h
theorem CBox.set1 {w : World} {C : Nat} {u v : Value} (h : CBox w C u v) (x : Value) : CBox (w.setCell ⟨C, 1, none⟩ x) C u x := by
  unfold CBox at *
  exact heap_setCell_same w C 1 _ _ x h
theorem CAt.other {w : World} {g m : Nat} {f : Nat → Int} (h : CAt w g m f) {A : Addr} (hA : g ≠ A.block) (x : Value) : CAt (w.setCell A x) g m f := h.kept (heap_setCell_other w A g x hA)

set_option maxHeartbeats 1000000 in
theorem cellAt_in (w : World) (g m : Nat) (s p : Nat) (hs : s ≤ m * 80) (hm : m ≤ 1048576) (hp : p < s) :
    Calls Try.prog 51 #[.agg #[.slice (some ⟨g, 0, none⟩) m m, .int .i64 s], .int .i64 p] w fun e w' => e = .returned (.pointer (some ⟨g, p, none⟩)) ∧ Below w.heap.size w w' := by
  have hb := (Below.refl w.heap.size w).alloc (Nat.le_refl _) (.cells #[.slice (some ⟨g, 0, none⟩) m m, .int .i64 s] 75)
  have h1 : (0 : Int) ≤ (p : Int) := by omega
  have h2 : (p : Int) < (s : Int) := by omega
  go_enter Try.func51, Try.ntmps51
  go_wp2
  go_ret
  have hd : p / 80 * 80 + p % 80 = p := by omega
  refine ⟨?_, hb⟩
  show Ending.returned (.pointer (some ⟨g, p / 80 * 80 + p % 80, none⟩)) = _
  rw [hd]

theorem cellAt_out (w : World) (g m : Nat) (s : Nat) (p : Int) (hp : p < 0 ∨ (s : Int) ≤ p) :
    Calls Try.prog 51 #[.agg #[.slice (some ⟨g, 0, none⟩) m m, .int .i64 s], .int .i64 p] w fun e w' => e = .returned (.pointer none) ∧ Below w.heap.size w w' := by
  have hb := (Below.refl w.heap.size w).alloc (Nat.le_refl _) (.cells #[.slice (some ⟨g, 0, none⟩) m m, .int .i64 s] 75)
  by_cases h0 : p < 0
  · have h1 : decide (p < 0) = true := decide_eq_true h0
    go_enter Try.func51, Try.ntmps51
    go_wp2
    go_ret
    exact ⟨rfl, hb⟩
  · have h1 : decide (p < 0) = false := decide_eq_false h0
    have h2 : decide ((s : Int) ≤ p) = true := decide_eq_true (by omega)
    go_enter Try.func51, Try.ntmps51
    go_wp2
    go_ret
    exact ⟨rfl, hb⟩

theorem cellLoad_any (w : World) (g j : Nat) (x : Int) (hc : w.cell? ⟨g, j, none⟩ = some (.int .i64 x)) :
    Calls Try.prog 59 #[.pointer (some ⟨g, j, none⟩)] w fun e w' => e = .returned (.int .i64 x) ∧ w' = w := by
  have hl := run_call_load (P := Try.prog) Try.func91 (by kernel_rfl) (by kernel_rfl) (by kernel_rfl) .i64 (by kernel_rfl) hc
  go_enter Try.func59, Try.ntmps59
  go_wp2
  go_ret
  exact ⟨rfl, rfl⟩

theorem cellStore_any (w : World) (g j : Nat) (u : Value) (y : Int) (hc : w.cell? ⟨g, j, none⟩ = some u) (hf : w.frozen? ⟨g, j, none⟩ = false) :
    Calls Try.prog 54 #[.pointer (some ⟨g, j, none⟩), .int .i64 y] w fun e w' => e = .returned (.tuple #[]) ∧ w' = w.setCell ⟨g, j, none⟩ (.int .i64 y) := by
  have hl := run_call_store (P := Try.prog) Try.func88 (by kernel_rfl) (by kernel_rfl) (by kernel_rfl) (by kernel_rfl) (k := .i64) (y := y) hc hf
  go_enter Try.func54, Try.ntmps54
  go_wp2
  go_end0
  exact ⟨rfl, rfl⟩

theorem cellSwap_hit (w : World) (g j : Nat) (x y : Int) (hc : w.cell? ⟨g, j, none⟩ = some (.int .i64 x)) (hf : w.frozen? ⟨g, j, none⟩ = false) :
    Calls Try.prog 55 #[.pointer (some ⟨g, j, none⟩), .int .i64 x, .int .i64 y] w fun e w' => e = .returned (.bool true) ∧ w' = w.setCell ⟨g, j, none⟩ (.int .i64 y) := by
  have hl := run_call_cas_hit (P := Try.prog) Try.func89 (by kernel_rfl) (by kernel_rfl) (by kernel_rfl) .i64 (by kernel_rfl) (y := y) hc hf
  go_enter Try.func55, Try.ntmps55
  go_wp2
  go_ret
  exact ⟨rfl, rfl⟩

theorem cellSwap_miss (w : World) (g j : Nat) (x o y : Int) (hc : w.cell? ⟨g, j, none⟩ = some (.int .i64 x)) (hf : w.frozen? ⟨g, j, none⟩ = false) (hne : ¬ x = o) :
    Calls Try.prog 55 #[.pointer (some ⟨g, j, none⟩), .int .i64 o, .int .i64 y] w fun e w' => e = .returned (.bool false) ∧ w' = w := by
  have hl := run_call_cas_miss (P := Try.prog) Try.func89 (by kernel_rfl) (by kernel_rfl) (by kernel_rfl) .i64 (by kernel_rfl) (o := o) (y := y) hc hf hne
  go_enter Try.func55, Try.ntmps55
  go_wp2
  go_ret
  exact ⟨rfl, rfl⟩
end Go.Proofs.Ytockgojdmaladab
