/- What is left of a disk: the program's. -/
import Derived.Test.YtghladeamdhlhalDiskImpl
import Derived.Test.YtghladeamdhlhalLosePlain
import Derived.Test.YtghladeamdhlhalGather
import Derived.Test.YtghladeamdhlhalInts
import Derived.Test.YtghladeamdhlhalShelf
import Derived.Deep.RegionLaw
import Derived.Deep.RegionHeld3
namespace Go.Proofs.Ytghladeamdhlhal
open Go.RowKit Go.Sort

theorem clone_of (s : ByteArray) (w : World) (h : s.size ≤ 1048576) :
    Calls Try.prog 61 #[.string s] w fun e w' => e = .returned (.string s) ∧ Below w.heap.size w w' := by
  go_enter Try.func61, Try.ntmps61
  go_wp2_with fail
  refine (Try.stringslite_Clone s w (by omega)).mono ?_
  rintro e w1 ⟨rfl, hb⟩
  go_wp2
  go_ret
  exact ⟨rfl, hb⟩

/-- The cells of the file that came in, and of the one that goes out. -/
def Twin (B : Nat) (f : Fil) (w : World) : Prop :=
  w.cell? ⟨B, 0, none⟩ = some (.string f.nm) ∧ w.cell? ⟨B, 1, none⟩ = some (.string f.tx) ∧ w.cell? ⟨B, 2, none⟩ = some (.int .i64 f.kp) ∧
  w.cell? ⟨B + 1, 0, none⟩ = some (.string ⟨#[]⟩) ∧ w.cell? ⟨B + 1, 1, none⟩ = some (.string ⟨#[]⟩) ∧ w.cell? ⟨B + 1, 2, none⟩ = some (.int .i64 0) ∧
  w.frozen? ⟨B + 1, 0, none⟩ = false ∧ w.frozen? ⟨B + 1, 1, none⟩ = false ∧ w.frozen? ⟨B + 1, 2, none⟩ = false ∧ B + 1 < w.heap.size
theorem Twin.next {B : Nat} {f : Fil} {w w' : World} (h : Twin B f w) (hb : Below w.heap.size w w') : Twin B f w' := by
  obtain ⟨a0, a1, a2, b0, b1, b2, c0, c1, c2, hs⟩ := h
  exact ⟨(hb.cell (by simp; omega)).trans a0, (hb.cell (by simp; omega)).trans a1, (hb.cell (by simp; omega)).trans a2, (hb.cell (by simp; omega)).trans b0, (hb.cell (by simp; omega)).trans b1, (hb.cell (by simp; omega)).trans b2, (hb.frozen (by simp; omega)).trans c0, (hb.frozen (by simp; omega)).trans c1, (hb.frozen (by simp; omega)).trans c2, Nat.lt_of_lt_of_le hs hb.size⟩
theorem Twin.stored {B : Nat} {f : Fil} {w : World} (h : Twin B f w) : (((w.setCell ⟨B + 1, 0, none⟩ (.string f.nm)).setCell ⟨B + 1, 1, none⟩ (.string f.tx)).setCell ⟨B + 1, 2, none⟩ (.int .i64 f.kp)).cell? ⟨B, 0, none⟩ = some (.string f.nm) ∧ (((w.setCell ⟨B + 1, 0, none⟩ (.string f.nm)).setCell ⟨B + 1, 1, none⟩ (.string f.tx)).setCell ⟨B + 1, 2, none⟩ (.int .i64 f.kp)).cell? ⟨B, 1, none⟩ = some (.string f.tx) ∧ (((w.setCell ⟨B + 1, 0, none⟩ (.string f.nm)).setCell ⟨B + 1, 1, none⟩ (.string f.tx)).setCell ⟨B + 1, 2, none⟩ (.int .i64 f.kp)).cell? ⟨B, 2, none⟩ = some (.int .i64 f.kp) := by
  refine ⟨?_, ?_, ?_⟩ <;> rw [World.cell?_setCell_other _ _ _ _ (by simp), World.cell?_setCell_other _ _ _ _ (by simp), World.cell?_setCell_other _ _ _ _ (by simp)]
  · exact h.1
  · exact h.2.1
  · exact h.2.2.1
theorem Twin.result {B : Nat} {f : Fil} {w : World} (h : Twin B f w) : (((w.setCell ⟨B + 1, 0, none⟩ (.string f.nm)).setCell ⟨B + 1, 1, none⟩ (.string f.tx)).setCell ⟨B + 1, 2, none⟩ (.int .i64 f.kp)).cell? ⟨B + 1, 0, none⟩ = some (.string f.nm) ∧ (((w.setCell ⟨B + 1, 0, none⟩ (.string f.nm)).setCell ⟨B + 1, 1, none⟩ (.string f.tx)).setCell ⟨B + 1, 2, none⟩ (.int .i64 f.kp)).cell? ⟨B + 1, 1, none⟩ = some (.string f.tx) ∧ (((w.setCell ⟨B + 1, 0, none⟩ (.string f.nm)).setCell ⟨B + 1, 1, none⟩ (.string f.tx)).setCell ⟨B + 1, 2, none⟩ (.int .i64 f.kp)).cell? ⟨B + 1, 2, none⟩ = some (.int .i64 f.kp) := by
  obtain ⟨_, _, _, b0, b1, b2, _⟩ := h
  refine ⟨?_, ?_, ?_⟩
  · rw [World.cell?_setCell_other _ _ _ _ (by simp), World.cell?_setCell_other _ _ _ _ (by simp)]; exact cell_set_same b0
  · rw [World.cell?_setCell_other _ _ _ _ (by simp)]; exact cell_set_same (by rw [World.cell?_setCell_other _ _ _ _ (by simp)]; exact b1)
  · exact cell_set_same (by rw [World.cell?_setCell_other _ _ _ _ (by simp), World.cell?_setCell_other _ _ _ _ (by simp)]; exact b2)
theorem Twin.drew {B : Nat} {f : Fil} {w : World} (h : Twin B f w) : Twin B f w.drew := h

set_option maxHeartbeats 1000000 in
theorem fileCopy_any (f : Fil) (w : World) (h1 : f.nm.size ≤ 1048576) (h2 : f.tx.size ≤ 1048576) :
    Calls Try.prog 49 #[.agg #[.string f.nm, .string f.tx, .int .i64 f.kp]] w fun e w' => e = .returned (.agg #[.string f.nm, .string f.tx, .int .i64 f.kp]) ∧ Below w.heap.size w w' := by
  obtain ⟨wb, hwb⟩ : ∃ wb, (w.alloc (.cells #[.string f.nm, .string f.tx, .int .i64 f.kp] 63)).alloc (.cells #[.string ⟨#[]⟩, .string ⟨#[]⟩, .int .i64 0] 63) = wb := ⟨_, rfl⟩
  have hb : Below w.heap.size w wb := by rw [← hwb]; exact ((Below.refl _ _).alloc (Nat.le_refl _) _).alloc (by simp) _
  have hbs : wb.heap.size = w.heap.size + 1 + 1 := by rw [← hwb]; simp
  have hbox : wb.heap[w.heap.size]? = some (.cells #[.string f.nm, .string f.tx, .int .i64 f.kp] 63 (0, 0)) := by rw [← hwb, Below.heap_alloc _ _ _ (by simp), heap_alloc_new]
  have hres : wb.heap[w.heap.size + 1]? = some (.cells #[.string ⟨#[]⟩, .string ⟨#[]⟩, .int .i64 0] 63 (0, 0)) := by
    rw [← hwb]
    have := heap_alloc_new (w.alloc (.cells #[.string f.nm, .string f.tx, .int .i64 f.kp] 63)) (.cells #[.string ⟨#[]⟩, .string ⟨#[]⟩, .int .i64 0] 63)
    simpa using this
  have HW : Hid ((w.alloc (.cells #[.string f.nm, .string f.tx, .int .i64 f.kp] 63)).alloc (.cells #[.string ⟨#[]⟩, .string ⟨#[]⟩, .int .i64 0] 63) = wb) := hwb
  have x0 : wb.cell? ⟨w.heap.size, 0, none⟩ = some (.string f.nm) := by simp [World.cell?, hbox]
  have x1 : wb.cell? ⟨w.heap.size, 1, none⟩ = some (.string f.tx) := by simp [World.cell?, hbox]
  have x2 : wb.cell? ⟨w.heap.size, 2, none⟩ = some (.int .i64 f.kp) := by simp [World.cell?, hbox]
  have y0 : wb.cell? ⟨w.heap.size + 1, 0, none⟩ = some (.string ⟨#[]⟩) := by simp [World.cell?, hres]
  have y1 : wb.cell? ⟨w.heap.size + 1, 1, none⟩ = some (.string ⟨#[]⟩) := by simp [World.cell?, hres]
  have y2 : wb.cell? ⟨w.heap.size + 1, 2, none⟩ = some (.int .i64 0) := by simp [World.cell?, hres]
  have z0 : wb.frozen? ⟨w.heap.size + 1, 0, none⟩ = false := by simp [World.frozen?, hres]
  have z1 : wb.frozen? ⟨w.heap.size + 1, 1, none⟩ = false := by simp [World.frozen?, hres]
  have z2 : wb.frozen? ⟨w.heap.size + 1, 2, none⟩ = false := by simp [World.frozen?, hres]
  clear hwb
  go_enter Try.func49, Try.ntmps49
  go_wp2
  rw [HW.out]
  have hS : Twin w.heap.size f wb.drew := ⟨x0, x1, x2, y0, y1, y2, z0, z1, z2, by simp; omega⟩
  have hT : Below w.heap.size w wb.drew := hb.trans ⟨rfl, rfl, rfl, Nat.le_refl _, fun _ _ => rfl⟩
  clear hbox hres
  clear x0 x1 x2 y0 y1 y2 z0 z1 z2
  go_region_held3 (fun w' => w'.cell? ⟨w.heap.size, 0, none⟩ = some (.string f.nm) ∧ w'.cell? ⟨w.heap.size, 1, none⟩ = some (.string f.tx) ∧ w'.cell? ⟨w.heap.size, 2, none⟩ = some (.int .i64 f.kp))
    (first | exact ⟨hS.1, hS.2.1, hS.2.2.1⟩ | exact hS.stored)
    (first
      | (go_at_call 61; refine (clone_of _ _ (by first | exact h1 | exact h2)).mono ?_; rintro e w1 ⟨rfl, hb1⟩; have hS := Twin.next hS hb1; have hT := hT.trans (hb1.mono hT.size); obtain ⟨a0, a1, a2, b0, b1, b2, c0, c1, c2, _⟩ := id hS))
  have hR := hS.result
  go_wp2
  refine bodyPost_ret (v := .agg #[.string f.nm, .string f.tx, .int .i64 f.kp]) (by simp [results, Try.results49, go_sem, hR]) rfl ⟨rfl, ?_⟩
  exact ((hT.setCell (by simp) _).setCell (by simp) _).setCell (by simp) _
end Go.Proofs.Ytghladeamdhlhal
