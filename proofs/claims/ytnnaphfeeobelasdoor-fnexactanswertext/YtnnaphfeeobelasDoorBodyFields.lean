/- Whether a head tells a length, and whether it tells parts: the program. -/
import Derived.Test.YtnnaphfeeobelasDoorBodyPlain
import Derived.Test.YtnnaphfeeobelasDoorFieldOfImpl
namespace Go.Proofs.YtnnaphfeeobelasDoor
open Go.RowKit Go.Sort
set_option maxHeartbeats 4000000 in
theorem bodyFields_any (w : World) (a : Option Addr) (c : Nat) (line : ByteArray) (L : List (ByteArray × ByteArray)) (hA : DAt w a L w.heap.size) (hz : HdSz line L) :
    Calls Tryd.prog 15 #[.agg #[.string line, .slice a L.length c]] w fun e w' => e = .returned (.tuple #[.bool (fieldOfS L clN).2, .bool (fieldOfS L teN).2]) ∧ Below w.heap.size w w' := by
  obtain ⟨wb, hwb⟩ : ∃ wb, w.alloc (.cells #[.string line, .slice a L.length c] 30) = wb := ⟨_, rfl⟩
  have hb : Below w.heap.size w wb := by rw [← hwb]; exact (Below.refl _ _).alloc (Nat.le_refl _) _
  have hX : wb.heap[w.heap.size]? = some (.cells #[.string line, .slice a L.length c] 30 (0, 0)) := by rw [← hwb]; exact heap_alloc_new w _
  have HX : Hid (∀ wi, Below wb.heap.size wb wi → wi.cell? ⟨w.heap.size, 0, none⟩ = some (.string line) ∧ wi.cell? ⟨w.heap.size, 1, none⟩ = some (.slice a L.length c)) := fun wi hi => KBz_cells ((hi.block _ (Array.getElem?_eq_some_iff.1 hX).1).trans hX)
  obtain ⟨b0, b1⟩ := KBz_cells hX
  rw [← hwb] at b0 b1
  have HW : Hid (w.alloc (.cells #[.string line, .slice a L.length c] 30) = wb) := hwb
  have hAb := hA.on hb
  have c1 := implFieldOf_any wb a c line L clN hAb hz (by decide)
  have C2 : Hid (∀ wi, Below wb.heap.size wb wi → Calls Tryd.prog 25 #[.agg #[.string line, .slice a L.length c], .string teN] wi fun e w' => e = .returned (.tuple #[.string (fieldOfS L teN).1, .bool (fieldOfS L teN).2]) ∧ Below wi.heap.size wi w') := fun wi hi => implFieldOf_any wi a c line L teN (hAb.on hi) hz (by decide)
  have HB : Hid (Below w.heap.size w wb) := hb
  generalize (fieldOfS L clN).1 = f1 at c1
  generalize (fieldOfS L clN).2 = g1 at c1
  generalize (fieldOfS L teN).1 = f2 at C2
  generalize (fieldOfS L teN).2 = g2 at C2
  clear hwb hA hAb hb hX hz
  go_enter Tryd.func15, Tryd.ntmps15
  go_wp2_with fail
  rw [HW.out] at b0 b1 ⊢
  refine c1.mono ?_
  rintro e w1 ⟨rfl, hb1⟩
  clear c1 b0 b1
  have c2 := C2.out w1 hb1
  obtain ⟨b0, b1⟩ := HX.out w1 hb1
  clear C2
  go_wp2_with fail
  refine c2.mono ?_
  rintro e w2 ⟨rfl, hb2⟩
  have HB2 : Hid (Below w.heap.size w w2) := HB.out.trans ((hb1.trans (hb2.mono hb1.size)).mono HB.out.size)
  clear c2 b0 b1
  go_wp2_with fail
  go_ret2
  exact ⟨rfl, HB2.out⟩
end Go.Proofs.YtnnaphfeeobelasDoor
