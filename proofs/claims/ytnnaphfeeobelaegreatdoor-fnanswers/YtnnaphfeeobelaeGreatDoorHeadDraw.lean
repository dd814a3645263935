/- A head is drawn. -/
import Derived.Test.YtnnaphfeeobelaeGreatDoorDraws
import Derived.Test.YtnnaphfeeobelaeGreatDoorHeadLaw
import Derived.Deep.RegionLaw
import Derived.Deep.AppendLies
namespace Go.Proofs.YtnnaphfeeobelaeGreatDoor
open Go.RowKit Go.Sort

def fnL : List ByteArray := [⟨#[99, 97, 99, 104, 101, 45, 99, 111, 110, 116, 114, 111, 108]⟩, ⟨#[104, 111, 115, 116]⟩, ⟨#[99, 111, 110, 116, 101, 110, 116, 45, 108, 101, 110, 103, 116, 104]⟩, ⟨#[120]⟩, ⟨#[97, 117, 116, 104, 111, 114, 105, 122, 97, 116, 105, 111, 110]⟩, ⟨#[116, 114, 97, 110, 115, 102, 101, 114, 45, 101, 110, 99, 111, 100, 105, 110, 103]⟩]
def fvL : List ByteArray := [⟨#[]⟩, ⟨#[97]⟩, ⟨#[110, 111, 45, 115, 116, 111, 114, 101]⟩, ⟨#[109, 97, 120, 45, 97, 103, 101, 61, 54, 48]⟩, ⟨#[109, 97, 120, 45, 97, 103, 101, 61, 53, 44, 32, 112, 114, 105, 118, 97, 116, 101]⟩, ⟨#[115, 45, 109, 97, 120, 97, 103, 101, 61, 57]⟩, ⟨#[49, 50]⟩, ⟨#[99, 104, 117, 110, 107, 101, 100]⟩, ⟨#[98, 32, 32, 99]⟩, ⟨#[51]⟩]
def hlL : List ByteArray := [⟨#[71, 69, 84, 32, 47, 97, 32, 72, 84, 84, 80, 47, 49, 46, 49]⟩, ⟨#[71, 69, 84, 32, 47, 98, 32, 72, 84, 84, 80, 47, 49, 46, 49]⟩, ⟨#[72, 84, 84, 80, 47, 49, 46, 49, 32, 50, 48, 48, 32, 111, 107]⟩, ⟨#[72, 84, 84, 80, 47, 49, 46, 49, 32, 52, 48, 52, 32, 110, 111]⟩, ⟨#[80, 79, 83, 84, 32, 47, 97, 32, 72, 84, 84, 80, 47, 49, 46, 49]⟩, ⟨#[120]⟩]
/-- A field that is drawn for a head. -/
def FdD (f : ByteArray × ByteArray) : Prop := f.1 ∈ fnL ∧ f.2 ∈ fvL
theorem fnL_len : ∀ z ∈ fnL, z.size ≤ 17 := by decide
theorem fvL_len : ∀ z ∈ fvL, z.size ≤ 18 := by decide
theorem hlL_len : ∀ z ∈ hlL, z.size ≤ 16 := by decide
theorem kept_xD {w : World} {X i : Nat} {a : Value} (h : w.cell? ⟨X, i, none⟩ = some a) (o : Obj) : (w.alloc o).cell? ⟨X, i, none⟩ = some a := by
  have hX := World.block_lt_of_cell? w _ h
  rw [(((Below.refl w.heap.size w).alloc (Nat.le_refl _) o).cell hX)]
  exact h
/-- 'append(v, f)' of one field onto fields that are owned, at a step of a statement that leaves its order open; f lies in the block B. -/
theorem step_snocD {P : Program} {ops : Array Oper} {o : Oper} {a : Act} {K : Act → World → Prop} {Q : Exit → Act → World → Prop} {E : Prop} {w : World} (hgd : o.guard = none) (s x : Operand) (t : TypeId)
    (ho : o.op = .call { callee := .builtin .append, args := #[s, x], argTypes := #[t, t] }) (base : Nat) (e : TypeId) (ht : P.underlying t = some (.slice e))
    (hinfo : (P.info? e).map (fun i => (i.zero, i.size, i.bytes)) = some (some (.agg #[.string ⟨#[]⟩, .string ⟨#[]⟩]), 2, 32)) (v : Value) (L : List (ByteArray × ByteArray)) (hs : a.eval s = v) (hown : OwnD w base e v L)
    (B : Nat) (f : ByteArray × ByteArray) (fr : Nat × Nat) (hx : a.eval x = .slice (some ⟨B, 0, none⟩) 1 1) (hB : w.heap[B]? = some (.cells #[.string f.1, .string f.2] e fr)) (hlen : L.length < 10000000) (hbase : base ≤ w.heap.size)
    (h : ∀ g cap w', OwnD w' base e (.slice (some ⟨g, 0, none⟩) (L.length + 1) cap) (L ++ [f]) → w.grownBy w' v.ownBlock → K (a.put o.dst (.slice (some ⟨g, 0, none⟩) (L.length + 1) cap)) w') :
    if Region.wanted o (yielded ops a.tmps) = true then Oper.wp P o a w K Q else E := by
  obtain ⟨i0, hi, hz0, hz1, hz2⟩ := info_parts hinfo
  refine step_append_lies w hgd s x t ho base e i0 _ 2 32 ht hi hz0 hz1 hz2 rfl (by decide) v L.length (fdl L) hs hown ⟨B, 0, none⟩ 1 1 (fdl [f]) hx rfl (fun j u hu => World.news_of_block hB j u (by simpa [fdl, fdCells] using hu)) ?_ (by decide) (by unfold maxLen; omega) (by omega) hbase w.heap.size rfl ?_
  · intro u hu
    simp [fdl, fdCells] at hu
    rcases hu with rfl | rfl <;> rfl
  · intro g cap w' h1 h2 _ _
    refine h g cap w' ?_ h2
    unfold OwnD
    rw [show fdl (L ++ [f]) = fdl L ++ fdl [f] by simp [fdl], List.length_append, List.length_singleton]
    exact h1

set_option maxRecDepth 100000 in
set_option maxHeartbeats 4000000 in
theorem drawField_any (w : World) (p : Nat) (ca : Option Addr) (n cap : Nat) (hc : Cur w p ca n cap) (hcode : CodeAt w ca n p) (hn : n ≤ 1048576) :
    Calls Tryz.prog 64 #[.pointer (some ⟨p, 0, none⟩)] w fun e w' => ∃ f : ByteArray × ByteArray, FdD f ∧ e = .returned (.agg #[.string f.1, .string f.2]) ∧ Left w w' p ca n cap := by
  have hp := hc.lt
  obtain ⟨w1, hw1⟩ : ∃ x, w.alloc (.cells #[.string ⟨#[]⟩, .string ⟨#[]⟩] 29) = x := ⟨_, rfl⟩
  have hL1 : Left w w1 p ca n cap := by rw [← hw1]; exact (Left.refl hc hcode).plus hp _
  have hR1 : HBx w1 w.heap.size 29 (.string ⟨#[]⟩) (.string ⟨#[]⟩) := by rw [← hw1]; exact HBx.new _ _ _ _
  have s1 : w1.heap.size = w.heap.size + 1 := by rw [← hw1]; simp
  obtain ⟨w2, hw2⟩ : ∃ x, w1.alloc (.cells (strs fnL).toArray 9) = x := ⟨_, rfl⟩
  have hL2 : Left w1 w2 p ca n cap := by rw [← hw2]; exact (Left.refl hL1.1 hL1.2.1).plus (by omega) _
  have c1 := pick_any w2 p ca n cap w1.heap.size (.slice (some ⟨w1.heap.size, 0, none⟩) 6 6) fnL hL2.1 hL2.2.1 hn
      (by rw [← hw2]; exact (World.ownsRow_lit (base := w1.heap.size) (e := 9) (size := 1) w1 (strs fnL).toArray 6 (Nat.le_refl _) (by simp [maxLen]) (by rfl))) (by omega) (by decide) (by decide)
  have hR2 : HBx w2 w.heap.size 29 (.string ⟨#[]⟩) (.string ⟨#[]⟩) := hR1.kept (by rw [← hw2]; exact Below.heap_alloc _ _ _ hR1.lt)
  have HW : Hid (w.alloc (.cells #[.string ⟨#[]⟩, .string ⟨#[]⟩] 29) = w1) := hw1
  have HW2 : Hid (w1.alloc (.cells (strs fnL).toArray 9) = w2) := hw2
  have hL12 := hL1.trans hL2
  clear hc hcode hw1 hw2 hL1 hL2 hR1
  go_enter Tryz.func64, Tryz.ntmps64
  go_wp2_with fail
  rw [HW.out]
  rw [← s1]
  change Calls Tryz.prog 63 #[.pointer (some ⟨p, 0, none⟩), .slice (some ⟨w1.heap.size, 0, none⟩) 6 6] (w1.alloc (.cells (strs fnL).toArray 9)) _
  rw [HW2.out]
  refine c1.mono ?_
  rintro e w3 ⟨z1, hz1, rfl, hl3⟩
  have hR3 : HBx w3 w.heap.size 29 (.string ⟨#[]⟩) (.string ⟨#[]⟩) := hR2.kept (hl3.2.2.block _ hR2.lt (fun e => by cases e; omega))
  have hL3 := hL12.trans hl3
  have hs3 := hL3.2.2.size
  obtain ⟨w4, hw4⟩ : ∃ x, w3.alloc (.cells (strs fvL).toArray 9) = x := ⟨_, rfl⟩
  have hL4 : Left w3 w4 p ca n cap := by rw [← hw4]; exact (Left.refl hL3.1 hL3.2.1).plus (by omega) _
  have c2 := pick_any w4 p ca n cap w3.heap.size (.slice (some ⟨w3.heap.size, 0, none⟩) 10 10) fvL hL4.1 hL4.2.1 hn
      (by rw [← hw4]; exact (World.ownsRow_lit (base := w3.heap.size) (e := 9) (size := 1) w3 (strs fvL).toArray 10 (Nat.le_refl _) (by simp [maxLen]) (by rfl))) (by omega) (by decide) (by decide)
  have hR4 : HBx w4 w.heap.size 29 (.string ⟨#[]⟩) (.string ⟨#[]⟩) := hR3.kept (by rw [← hw4]; exact Below.heap_alloc _ _ _ hR3.lt)
  have HW4 : Hid (w3.alloc (.cells (strs fvL).toArray 9) = w4) := hw4
  have hL34 := hL3.trans hL4
  have HZ1 : Hid (z1 ∈ fnL) := hz1
  clear c1 hw4 hL3 hL4 hR3 hR2 hL12 hz1 hl3 HW2 HW
  go_wp2_with fail
  change Calls Tryz.prog 63 #[.pointer (some ⟨p, 0, none⟩), .slice (some ⟨w3.heap.size, 0, none⟩) 10 10] (w3.alloc (.cells (strs fvL).toArray 9)) _
  rw [HW4.out]
  refine c2.mono ?_
  rintro e w5 ⟨z2, hz2, rfl, hl5⟩
  have hR5 : HBx w5 w.heap.size 29 (.string ⟨#[]⟩) (.string ⟨#[]⟩) := hR4.kept (hl5.2.2.block _ hR4.lt (fun e => by cases e; omega))
  have hL5 := hL34.trans hl5
  have HZ2 : Hid (z2 ∈ fvL) := hz2
  obtain ⟨r0, r1⟩ := hR5.cells
  have f0 := hR5.thaw 0
  have f1 := hR5.thaw 1
  have HP : Hid (HBx ((w5.setCell ⟨w.heap.size, 0, none⟩ (.string z1)).setCell ⟨w.heap.size, 1, none⟩ (.string z2)) w.heap.size 29 (.string z1) (.string z2)) := hR5.put _ _
  have HL5 : Hid (Left w w5 p ca n cap) := hL5
  clear c2 hz2 hl5 hL5 hL34 hR4 hR5 HW4
  go_wp2_with fail
  obtain ⟨q0, q1⟩ := HP.out.cells
  refine bodyPost_ret (v := .agg #[.string z1, .string z2]) (by simp [results, Tryz.results64, go_sem, q0, q1]) rfl ⟨(z1, z2), ⟨HZ1.out, HZ2.out⟩, rfl, ?_⟩
  exact (HL5.out.set hp (by simp) _).set hp (by simp) _
end Go.Proofs.YtnnaphfeeobelaeGreatDoor
