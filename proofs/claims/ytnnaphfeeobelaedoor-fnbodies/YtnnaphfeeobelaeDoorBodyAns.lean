/- What is answered of a body, out of an error or none. -/
import Derived.Test.YtnnaphfeeobelaeDoorChunkRead
namespace Go.Proofs.YtnnaphfeeobelaeDoor
open Go.RowKit Go.Sort
set_option maxHeartbeats 4000000 in
theorem bodyAns_nil (s : ByteArray) (n : Int) (w : World) :
    Calls Tryd.prog 23 #[.string s, .int .i64 n, .nilIface] w fun e w' => e = .returned (.tuple #[.string s, .int .i64 n, .int .i64 0]) ∧ Below w.heap.size w w' := by
  obtain ⟨w1, hw1⟩ : ∃ x, w.alloc (.cells #[.int .i64 0] 71) = x := ⟨_, rfl⟩
  have c1 := as_nil (.iface 73 (.pointer (some ⟨w.heap.size, 0, none⟩))) w1
  have HB : Hid (Below w.heap.size w w1) := by show Below _ _ _; rw [← hw1]; exact (Below.refl _ _).alloc (Nat.le_refl _) _
  have HW : Hid (w.alloc (.cells #[.int .i64 0] 71) = w1) := hw1
  clear hw1
  go_enter Tryd.func23, Tryd.ntmps23
  go_wp2_with fail
  rw [HW.out]
  refine c1.mono ?_
  rintro e w2 ⟨rfl, hw⟩
  rw [hw]
  clear c1
  go_wp2_with fail
  go_ret3
  exact ⟨rfl, HB.out⟩
set_option maxHeartbeats 4000000 in
theorem bodyAns_flt (s : ByteArray) (n c : Int) (w : World) (hT : ErrT w) :
    Calls Tryd.prog 23 #[.string s, .int .i64 n, flt c] w fun e w' => e = .returned (.tuple #[.string ⟨#[]⟩, .int .i64 0, .int .i64 c]) ∧ Below w.heap.size w w' := by
  obtain ⟨w1, hw1⟩ : ∃ x, w.alloc (.cells #[.int .i64 0] 71) = x := ⟨_, rfl⟩
  have b1 : Below w.heap.size w w1 := by rw [← hw1]; exact (Below.refl _ _).alloc (Nat.le_refl _) _
  have hs1 : w1.heap.size = w.heap.size + 1 := by rw [← hw1]; simp
  have hc1 : w1.cell? ⟨w.heap.size, 0, none⟩ = some (.int .i64 0) := by rw [← hw1]; simp
  have hf1 : w1.frozen? ⟨w.heap.size, 0, none⟩ = false := by rw [← hw1]; simp
  have c1 := as_hit c ⟨w.heap.size, 0, none⟩ (.int .i64 0) w1 (hT.on b1 (Nat.le_refl _)) hc1 hf1
  obtain ⟨w2, hw2⟩ : ∃ x, ((((w1.alloc (.cells #[.pointer (some ⟨w.heap.size, 0, none⟩)] 73)).alloc (.cells #[.pointer (some ⟨4, 73, none⟩), .pointer (some ⟨w1.heap.size, 0, none⟩), .int .u64 150] 96)).alloc (.cells #[.pointer (some ⟨4, 73, none⟩), .pointer (some ⟨w1.heap.size, 0, none⟩), .int .u64 150] 96)).alloc (.cells #[.int .i64 c] 71)) = x := ⟨_, rfl⟩
  rw [hw2] at c1
  have b2 : Below w1.heap.size w1 w2 := by
    rw [← hw2]
    exact ((((Below.refl _ _).alloc (Nat.le_refl _) _).alloc (by simp) _).alloc (by simp; omega) _).alloc (by simp; omega) _
  have hT2 : w2.heap[w.heap.size]? = some (.cells #[.int .i64 0] 71 (0, 0)) := by
    refine (b2.block _ (by omega)).trans ?_
    rw [← hw1]
    exact heap_alloc_new w _
  have hc3 : (w2.setCell ⟨w.heap.size, 0, none⟩ (.int .i64 c)).cell? ⟨w.heap.size, 0, none⟩ = some (.int .i64 c) := by
    simp only [World.cell?, World.setCell, Array.getElem?_modify, hT2]
    simp
  have b3 : Below w.heap.size w (w2.setCell ⟨w.heap.size, 0, none⟩ (.int .i64 c)) := by
    refine (b1.trans (b2.mono b1.size)).trans ⟨rfl, rfl, rfl, by simp [World.setCell], fun j hj => Below.heap_setCell _ _ _ _ (by simp only; omega)⟩
  obtain ⟨w3, hw3⟩ : ∃ x, w2.setCell ⟨w.heap.size, 0, none⟩ (.int .i64 c) = x := ⟨_, rfl⟩
  rw [hw3] at c1 hc3 b3
  have HB : Hid (Below w.heap.size w w3) := b3
  have HW : Hid (w.alloc (.cells #[.int .i64 0] 71) = w1) := hw1
  unfold flt
  clear hw1 b1 hs1 hc1 hf1 hw2 b2 hT2 hw3 b3 hT
  go_enter Tryd.func23, Tryd.ntmps23
  go_wp2_with fail
  rw [HW.out]
  refine c1.mono ?_
  rintro e w4 ⟨rfl, hw⟩
  rw [hw]
  clear c1 hw
  go_wp2_with fail
  go_quiet (fail)
  have HD : Hid (Below w.heap.size w (w3.drewN nq)) := HB.out.trans ⟨rfl, rfl, rfl, Nat.le_refl _, fun _ _ => rfl⟩
  generalize w3.drewN nq = w5 at HD ⊢
  go_wp2_with fail
  go_ret3
  exact ⟨rfl, HD.out⟩
set_option maxHeartbeats 4000000 in
theorem implReadChunks_any (t : ByteArray) (w : World) (ht : t.size ≤ 1048576) (hT : ErrT w) :
    Calls Tryd.prog 9 #[.string t] w fun e w' => e = .returned (.tuple #[.string ⟨(chunksI t.data.toList).1.toArray⟩, .int .i64 (chunksI t.data.toList).2.1, .int .i64 (chunksI t.data.toList).2.2]) ∧ Below w.heap.size w w' := by
  obtain ⟨R, hR⟩ : ∃ R, chunksI t.data.toList = R := ⟨_, rfl⟩
  rw [hR]
  have c1 := readParts_any t w ht R hR
  have HT : Hid (ErrT w) := hT
  unfold flt at c1
  clear hR hT
  go_enter Tryd.func9, Tryd.ntmps9
  go_wp2_with fail
  refine c1.mono ?_
  rintro e w1 ⟨⟨g1, s, n, rfl⟩ | ⟨g1, s, n, rfl⟩ | ⟨g1, rfl⟩, hb1⟩
  · have c2 := bodyAns_flt s n 2 w1 (HT.out.on hb1 (Nat.le_refl _))
    have HG : Hid _ := g1
    unfold flt at c2
    clear c1 g1
    go_wp2_with fail
    refine c2.mono ?_
    rintro e w2 ⟨rfl, hb2⟩
    clear c2
    go_wp2_with fail
    go_ret3
    exact ⟨by rw [HG.out]; rfl, hb1.trans (hb2.mono hb1.size)⟩
  · have c2 := bodyAns_flt s n 1 w1 (HT.out.on hb1 (Nat.le_refl _))
    have HG : Hid _ := g1
    unfold flt at c2
    clear c1 g1
    go_wp2_with fail
    refine c2.mono ?_
    rintro e w2 ⟨rfl, hb2⟩
    clear c2
    go_wp2_with fail
    go_ret3
    exact ⟨by rw [HG.out]; rfl, hb1.trans (hb2.mono hb1.size)⟩
  · have c2 := bodyAns_nil ⟨R.1.toArray⟩ R.2.1 w1
    have HG : Hid (R.2.2 = 0) := g1
    clear c1 g1
    go_wp2_with fail
    refine c2.mono ?_
    rintro e w2 ⟨rfl, hb2⟩
    clear c2
    go_wp2_with fail
    go_ret3
    exact ⟨by rw [HG.out]; rfl, hb1.trans (hb2.mono hb1.size)⟩
end Go.Proofs.YtnnaphfeeobelaeDoor
