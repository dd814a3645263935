/- A right head, drawn of the bytes of a code. Written by mkhdraws.py. -/
import Derived.Test.YtlefccgdeafinacDoorHeadDraw2
namespace Go.Proofs.YtlefccgdeafinacDoor
open Go.RowKit Go.Sort
set_option maxRecDepth 100000 in
set_option maxHeartbeats 8000000 in
theorem drawHead_any (w : World) (ca : Option Addr) (n cap : Nat) (hcode : CodeAt w ca n w.heap.size) (hn : n ≤ 1048576) :
    Calls Tryd.prog 5 #[.slice ca n cap] w fun e w' => ∃ (line : ByteArray) (v : Value) (L : List (ByteArray × ByteArray)), e = .returned (.agg #[.string line, v]) ∧ (line ∈ hlL ∧ (∀ f ∈ L, FdD f) ∧ L.length ≤ 3) ∧ OwnD w' w.heap.size 50 v L ∧ Below w.heap.size w w' := by
  obtain ⟨w1, hw1⟩ : ∃ x, w.alloc (.cells #[.string ⟨#[]⟩, .slice none 0 0] 26) = x := ⟨_, rfl⟩
  have hb1 : Below w.heap.size w w1 := by rw [← hw1]; exact (Below.refl _ _).alloc (Nat.le_refl _) _
  have hR1 : HBx w1 w.heap.size 26 (.string ⟨#[]⟩) (.slice none 0 0) := by rw [← hw1]; exact HBx.new _ _ _ _
  have hc1 : CodeAt w1 ca n w1.heap.size := by
    intro j hj
    obtain ⟨b, off, z, h1, h2, h3, h4⟩ := hcode j hj
    exact ⟨b, off, z, h1, Nat.lt_of_lt_of_le h2 hb1.size, (hb1.cell (p := ⟨b, off + j, none⟩) h2).trans h3, h4⟩
  have c1 := new_any w1 ca n cap hc1 hn
  have HW : Hid (w.alloc (.cells #[.string ⟨#[]⟩, .slice none 0 0] 26) = w1) := hw1
  clear hcode hw1 hc1
  go_enter Tryd.func5, Tryd.ntmps5
  go_wp2_with fail
  rw [HW.out]
  refine c1.mono ?_
  rintro e w2 ⟨p, rfl, hp1, hp2, hc2, hcd2, hb2⟩
  have hR2 := hR1.on hb2
  have hb12 := hb1.trans (hb2.mono hb1.size)
  have c2 := l09Head_any w2 p ca n cap hc2 hcd2 hn
  have hws := hb1.size
  have hlt1 := hR1.lt
  clear c1 hb1 hR1 HW
  go_wp2_with fail
  refine c2.mono ?_
  rintro e w3 ⟨line, v, L, rfl, hh1, hh2, hh3, ho3, hl3⟩
  have hlt := hR2.lt
  have hR3 : HBx w3 w.heap.size 26 (.string ⟨#[]⟩) (.slice none 0 0) := hR2.kept (hl3.2.2.block _ hlt (fun e => by cases e; have := hb2.size; have := hb12.size; omega))
  have hb3 : Below w.heap.size w w3 := below_of_left hb12 (by omega) hl3
  have ho3' := ho3.mono (show w.heap.size ≤ w2.heap.size from hb12.size)
  obtain ⟨a, c, rfl, _⟩ := ho3.at
  obtain ⟨r0, r1⟩ := hR3.cells
  have f0 := hR3.thaw 0
  have f1 := hR3.thaw 1
  have HP : Hid ((line ∈ hlL ∧ (∀ f ∈ L, FdD f) ∧ L.length ≤ 3)) := ⟨hh1, hh2, hh3⟩
  have HB3 : Hid (HBx w3 w.heap.size 26 (.string ⟨#[]⟩) (.slice none 0 0) ∧ OwnD w3 w.heap.size 50 (.slice a L.length c) L ∧ Below w.heap.size w w3) := ⟨hR3, ho3', hb3⟩
  clear c2 ho3 ho3' hl3 hb2 hb12 hR2 hR3 hb3 hc2 hcd2 hh1 hh2 hh3
  go_wp2_with fail
  obtain ⟨hR, ho, hb⟩ := HB3.out
  obtain ⟨q0, q1⟩ := (hR.put (.string line) (.slice a L.length c)).cells
  refine bodyPost_ret (v := .agg #[.string line, .slice a L.length c]) (by simp [results, Tryd.results5, go_sem, q0, q1]) rfl ?_
  have hO := ho.kept (w' := (w3.setCell ⟨w.heap.size, 0, none⟩ (.string line)).setCell ⟨w.heap.size, 1, none⟩ (.slice a L.length c)) fun k hk => put2_other _ _ _ _ k (hR.neD (by decide) ho k hk)
  have hB := (hb.setCell (p := ⟨w.heap.size, 0, none⟩) (Nat.le_refl _) (.string line)).setCell (p := ⟨w.heap.size, 1, none⟩) (Nat.le_refl _) (.slice a L.length c)
  exact ⟨line, _, L, rfl, HP.out, hO, hB⟩
end Go.Proofs.YtlefccgdeafinacDoor
