/- Texts that stand in one: HeadDraw, HeadDraw2. -/
import Derived.Test.YtnnaphfeeobeladDoorDraws
import Derived.Test.YtnnaphfeeobeladDoorFieldLawJ
import Derived.Deep.RegionLaw
import Derived.Deep.AppendLies
namespace Go.Proofs.YtnnaphfeeobeladDoor
open Go.RowKit Go.Sort

def fnL : List ByteArray := [⟨#[99, 97, 99, 104, 101, 45, 99, 111, 110, 116, 114, 111, 108]⟩, ⟨#[104, 111, 115, 116]⟩, ⟨#[99, 111, 110, 116, 101, 110, 116, 45, 108, 101, 110, 103, 116, 104]⟩, ⟨#[120]⟩, ⟨#[97, 117, 116, 104, 111, 114, 105, 122, 97, 116, 105, 111, 110]⟩, ⟨#[116, 114, 97, 110, 115, 102, 101, 114, 45, 101, 110, 99, 111, 100, 105, 110, 103]⟩]
def fvL : List ByteArray := [⟨#[]⟩, ⟨#[97]⟩, ⟨#[110, 111, 45, 115, 116, 111, 114, 101]⟩, ⟨#[109, 97, 120, 45, 97, 103, 101, 61, 54, 48]⟩, ⟨#[109, 97, 120, 45, 97, 103, 101, 61, 53, 44, 32, 112, 114, 105, 118, 97, 116, 101]⟩, ⟨#[115, 45, 109, 97, 120, 97, 103, 101, 61, 57]⟩, ⟨#[49, 50]⟩, ⟨#[99, 104, 117, 110, 107, 101, 100]⟩, ⟨#[98, 32, 32, 99]⟩, ⟨#[51]⟩]
def hlL : List ByteArray := [⟨#[71, 69, 84, 32, 47, 97, 32, 72, 84, 84, 80, 47, 49, 46, 49]⟩, ⟨#[71, 69, 84, 32, 47, 98, 32, 72, 84, 84, 80, 47, 49, 46, 49]⟩, ⟨#[72, 84, 84, 80, 47, 49, 46, 49, 32, 50, 48, 48, 32, 111, 107]⟩, ⟨#[72, 84, 84, 80, 47, 49, 46, 49, 32, 52, 48, 52, 32, 110, 111]⟩, ⟨#[80, 79, 83, 84, 32, 47, 97, 32, 72, 84, 84, 80, 47, 49, 46, 49]⟩, ⟨#[120]⟩]
/-- A field that is drawn for a head. -/
def FdD (f : ByteArray × ByteArray) : Prop := f.1 ∈ fnL ∧ f.2 ∈ fvL
theorem fnL_len : ∀ z ∈ fnL, z.size ≤ 17 := by decide
theorem fvL_len : ∀ z ∈ fvL, z.size ≤ 18 := by decide
theorem hlL_len : ∀ z ∈ hlL, z.size ≤ 16 := by decide
theorem kept_xD {w : World} {X i : Nat} {a : Value} (h : w.cell? ⟨X, i, none⟩ = some a) (o : Obj) : (w.alloc o).cell? ⟨X, i, none⟩ = some a := by
  have hX := World.block_lt_of_cell? w _ h
  rw [(((Below.refl w.heap.size w).alloc (Nat.le_refl _) o).cell hX)]
  exact h
/-- 'append(v, f)' of one field onto fields that are owned, at a step of a statement that leaves its order open; f lies in the block B. -/
theorem step_snocD {P : Program} {ops : Array Oper} {o : Oper} {a : Act} {K : Act → World → Prop} {Q : Exit → Act → World → Prop} {E : Prop} {w : World} (hgd : o.guard = none) (s x : Operand) (t : TypeId)
    (ho : o.op = .call { callee := .builtin .append, args := #[s, x], argTypes := #[t, t] }) (base : Nat) (e : TypeId) (ht : P.underlying t = some (.slice e))
    (hinfo : (P.info? e).map (fun i => (i.zero, i.size, i.bytes)) = some (some (.agg #[.string ⟨#[]⟩, .string ⟨#[]⟩]), 2, 32)) (v : Value) (L : List (ByteArray × ByteArray)) (hs : a.eval s = v) (hown : OwnD w base e v L)
    (B : Nat) (f : ByteArray × ByteArray) (fr : Nat × Nat) (hx : a.eval x = .slice (some ⟨B, 0, none⟩) 1 1) (hB : w.heap[B]? = some (.cells #[.string f.1, .string f.2] e fr)) (hlen : L.length < 10000000) (hbase : base ≤ w.heap.size)
    (h : ∀ g cap w', OwnD w' base e (.slice (some ⟨g, 0, none⟩) (L.length + 1) cap) (L ++ [f]) → w.grownBy w' v.ownBlock → K (a.put o.dst (.slice (some ⟨g, 0, none⟩) (L.length + 1) cap)) w') :
    if Region.wanted o (yielded ops a.tmps) = true then Oper.wp P o a w K Q else E := by
  obtain ⟨i0, hi, hz0, hz1, hz2⟩ := info_parts hinfo
  refine step_append_lies w hgd s x t ho base e i0 _ 2 32 ht hi hz0 hz1 hz2 rfl (by decide) v L.length (fdl L) hs hown ⟨B, 0, none⟩ 1 1 (fdl [f]) hx rfl (fun j u hu => World.news_of_block hB j u (by simpa [fdl, fdCells] using hu)) ?_ (by decide) (by unfold maxLen; omega) (by omega) hbase w.heap.size rfl ?_
  · intro u hu
    simp [fdl, fdCells] at hu
    rcases hu with rfl | rfl <;> rfl
  · intro g cap w' h1 h2 _ _
    refine h g cap w' ?_ h2
    unfold OwnD
    rw [show fdl (L ++ [f]) = fdl L ++ fdl [f] by simp [fdl], List.length_append, List.length_singleton]
    exact h1

set_option maxRecDepth 100000 in
set_option maxHeartbeats 4000000 in
theorem drawField_any (w : World) (p : Nat) (ca : Option Addr) (n cap : Nat) (hc : Cur w p ca n cap) (hcode : CodeAt w ca n p) (hn : n ≤ 1048576) :
    Calls Tryd.prog 54 #[.pointer (some ⟨p, 0, none⟩)] w fun e w' => ∃ f : ByteArray × ByteArray, FdD f ∧ e = .returned (.agg #[.string f.1, .string f.2]) ∧ Left w w' p ca n cap := by
  have hp := hc.lt
  obtain ⟨w1, hw1⟩ : ∃ x, w.alloc (.cells #[.string ⟨#[]⟩, .string ⟨#[]⟩] 34) = x := ⟨_, rfl⟩
  have hL1 : Left w w1 p ca n cap := by rw [← hw1]; exact (Left.refl hc hcode).plus hp _
  have hR1 : HBx w1 w.heap.size 34 (.string ⟨#[]⟩) (.string ⟨#[]⟩) := by rw [← hw1]; exact HBx.new _ _ _ _
  have s1 : w1.heap.size = w.heap.size + 1 := by rw [← hw1]; simp
  obtain ⟨w2, hw2⟩ : ∃ x, w1.alloc (.cells (strs fnL).toArray 9) = x := ⟨_, rfl⟩
  have hL2 : Left w1 w2 p ca n cap := by rw [← hw2]; exact (Left.refl hL1.1 hL1.2.1).plus (by omega) _
  have c1 := pick_any w2 p ca n cap w1.heap.size (.slice (some ⟨w1.heap.size, 0, none⟩) 6 6) fnL hL2.1 hL2.2.1 hn
      (by rw [← hw2]; exact (World.ownsRow_lit (base := w1.heap.size) (e := 9) (size := 1) w1 (strs fnL).toArray 6 (Nat.le_refl _) (by simp [maxLen]) (by rfl))) (by omega) (by decide) (by decide)
  have hR2 : HBx w2 w.heap.size 34 (.string ⟨#[]⟩) (.string ⟨#[]⟩) := hR1.kept (by rw [← hw2]; exact Below.heap_alloc _ _ _ hR1.lt)
  have HW : Hid (w.alloc (.cells #[.string ⟨#[]⟩, .string ⟨#[]⟩] 34) = w1) := hw1
  have HW2 : Hid (w1.alloc (.cells (strs fnL).toArray 9) = w2) := hw2
  have hL12 := hL1.trans hL2
  clear hc hcode hw1 hw2 hL1 hL2 hR1
  go_enter Tryd.func54, Tryd.ntmps54
  go_wp2_with fail
  rw [HW.out]
  rw [← s1]
  change Calls Tryd.prog 55 #[.pointer (some ⟨p, 0, none⟩), .slice (some ⟨w1.heap.size, 0, none⟩) 6 6] (w1.alloc (.cells (strs fnL).toArray 9)) _
  rw [HW2.out]
  refine c1.mono ?_
  rintro e w3 ⟨z1, hz1, rfl, hl3⟩
  have hR3 : HBx w3 w.heap.size 34 (.string ⟨#[]⟩) (.string ⟨#[]⟩) := hR2.kept (hl3.2.2.block _ hR2.lt (fun e => by cases e; omega))
  have hL3 := hL12.trans hl3
  have hs3 := hL3.2.2.size
  obtain ⟨w4, hw4⟩ : ∃ x, w3.alloc (.cells (strs fvL).toArray 9) = x := ⟨_, rfl⟩
  have hL4 : Left w3 w4 p ca n cap := by rw [← hw4]; exact (Left.refl hL3.1 hL3.2.1).plus (by omega) _
  have c2 := pick_any w4 p ca n cap w3.heap.size (.slice (some ⟨w3.heap.size, 0, none⟩) 10 10) fvL hL4.1 hL4.2.1 hn
      (by rw [← hw4]; exact (World.ownsRow_lit (base := w3.heap.size) (e := 9) (size := 1) w3 (strs fvL).toArray 10 (Nat.le_refl _) (by simp [maxLen]) (by rfl))) (by omega) (by decide) (by decide)
  have hR4 : HBx w4 w.heap.size 34 (.string ⟨#[]⟩) (.string ⟨#[]⟩) := hR3.kept (by rw [← hw4]; exact Below.heap_alloc _ _ _ hR3.lt)
  have HW4 : Hid (w3.alloc (.cells (strs fvL).toArray 9) = w4) := hw4
  have hL34 := hL3.trans hL4
  have HZ1 : Hid (z1 ∈ fnL) := hz1
  clear c1 hw4 hL3 hL4 hR3 hR2 hL12 hz1 hl3 HW2 HW
  go_wp2_with fail
  change Calls Tryd.prog 55 #[.pointer (some ⟨p, 0, none⟩), .slice (some ⟨w3.heap.size, 0, none⟩) 10 10] (w3.alloc (.cells (strs fvL).toArray 9)) _
  rw [HW4.out]
  refine c2.mono ?_
  rintro e w5 ⟨z2, hz2, rfl, hl5⟩
  have hR5 : HBx w5 w.heap.size 34 (.string ⟨#[]⟩) (.string ⟨#[]⟩) := hR4.kept (hl5.2.2.block _ hR4.lt (fun e => by cases e; omega))
  have hL5 := hL34.trans hl5
  have HZ2 : Hid (z2 ∈ fvL) := hz2
  obtain ⟨r0, r1⟩ := hR5.cells
  have f0 := hR5.thaw 0
  have f1 := hR5.thaw 1
  have HP : Hid (HBx ((w5.setCell ⟨w.heap.size, 0, none⟩ (.string z1)).setCell ⟨w.heap.size, 1, none⟩ (.string z2)) w.heap.size 34 (.string z1) (.string z2)) := hR5.put _ _
  have HL5 : Hid (Left w w5 p ca n cap) := hL5
  clear c2 hz2 hl5 hL5 hL34 hR4 hR5 HW4
  go_wp2_with fail
  obtain ⟨q0, q1⟩ := HP.out.cells
  refine bodyPost_ret (v := .agg #[.string z1, .string z2]) (by simp [results, Tryd.results54, go_sem, q0, q1]) rfl ⟨(z1, z2), ⟨HZ1.out, HZ2.out⟩, rfl, ?_⟩
  exact (HL5.out.set hp (by simp) _).set hp (by simp) _
end Go.Proofs.YtnnaphfeeobeladDoor

namespace Go.Proofs.YtnnaphfeeobeladDoor
open Go.RowKit Go.Sort
/-- What stands while a head is drawn: it lies in the variable T, the answer's variable is R. -/
structure Lh (w0 : World) (p : Nat) (ca : Option Addr) (n cap : Nat) (R T : Nat) (line : ByteArray) (v : Value) (L : List (ByteArray × ByteArray)) (wi : World) : Prop where
  left : Left w0 wi p ca n cap
  hp : p < w0.heap.size
  hR : w0.heap.size ≤ R
  hT : w0.heap.size ≤ T
  ne : R ≠ T
  res : HBx wi R 27 (.string ⟨#[]⟩) (.slice none 0 0)
  box : HBx wi T 27 (.string line) v
  own : OwnD wi w0.heap.size 34 v L
theorem HBx.grownH {w w' : World} {T p : Nat} {e : TypeId} {a b : Value} (h : HBx w T e a b) (hg : w.grownBy w' (some p)) (hn : T ≠ p) : HBx w' T e a b := h.kept (hg.block T h.lt (fun e => hn (by cases e; rfl)))
theorem HBx.grownO {w w' : World} {T base : Nat} {a b v : Value} {L : List (ByteArray × ByteArray)} (h : HBx w T 27 a b) (ho : OwnD w base 34 v L) (hg : w.grownBy w' v.ownBlock) : HBx w' T 27 a b :=
  h.kept (hg.block T h.lt (fun e => h.neD (by decide) ho T e.symm rfl))
theorem Lh.go {w0 : World} {p : Nat} {ca : Option Addr} {n cap R T : Nat} {line : ByteArray} {v : Value} {L : List (ByteArray × ByteArray)} {wi wj : World} (h : Lh w0 p ca n cap R T line v L wi) (hl : Left wi wj p ca n cap) : Lh w0 p ca n cap R T line v L wj :=
  have hp := h.hp
  have hR := h.hR
  have hT := h.hT
  ⟨h.left.trans hl, hp, hR, hT, h.ne, h.res.grownH hl.2.2 (by omega), h.box.grownH hl.2.2 (by omega), h.own.grown hl.2.2 (fun k hk e => by have := (h.own.lt k hk).1; cases e; omega)⟩
theorem Lh.next {w0 : World} {p : Nat} {ca : Option Addr} {n cap R T : Nat} {line : ByteArray} {v : Value} {L : List (ByteArray × ByteArray)} {wi wj : World} (h : Lh w0 p ca n cap R T line v L wi) (hb : Below wi.heap.size wi wj) : Lh w0 p ca n cap R T line v L wj :=
  ⟨h.left.below (hb.mono h.left.2.2.size) h.hp, h.hp, h.hR, h.hT, h.ne, h.res.on hb, h.box.on hb, h.own.below hb (Nat.le_refl _)⟩
theorem Lh.at {w0 : World} {p : Nat} {ca : Option Addr} {n cap R T : Nat} {line : ByteArray} {v : Value} {L : List (ByteArray × ByteArray)} {wi : World} (h : Lh w0 p ca n cap R T line v L wi) : ∃ a c, v = .slice a L.length c ∧ DAt wi a L wi.heap.size := h.own.at
theorem Left.row {w0 wi wj : World} {p : Nat} {ca : Option Addr} {n cap : Nat} {v : Value} {L : List (ByteArray × ByteArray)} (h : Left w0 wi p ca n cap) (hp : p < w0.heap.size) (ho : OwnD wi w0.heap.size 34 v L) (hg : wi.grownBy wj v.ownBlock) : Left w0 wj p ca n cap := by
  have hs := h.2.2.size
  refine h.below ⟨hg.os, hg.tape, hg.output, hg.size, fun k hk => hg.block k (by omega) fun e => ?_⟩ hp
  have := (ho.lt k e.symm).1
  omega
/-- The row has grown, and is stored back. -/
theorem Lh.gather {w0 : World} {p : Nat} {ca : Option Addr} {n cap R T : Nat} {line : ByteArray} {v u : Value} {L M : List (ByteArray × ByteArray)} {wi W w2 : World} (h : Lh w0 p ca n cap R T line v L wi) (hW : Below wi.heap.size wi W) (hg : W.grownBy w2 v.ownBlock) (ho : OwnD w2 w0.heap.size 34 u M) :
    HBx w2 T 27 (.string line) v ∧ Lh w0 p ca n cap R T line u M (w2.setCell ⟨T, 1, none⟩ u) := by
  have h1 := h.next hW
  have bT := h1.box.grownO h1.own hg
  have bR := h1.res.grownO h1.own hg
  have left := h1.left.row h1.hp h1.own hg
  exact ⟨bT, left.set h.hp h.hT _, h.hp, h.hR, h.hT, h.ne, bR.kept (Below.heap_setCell _ _ _ _ (by exact h.ne)), bT.set1 u, ho.kept fun k hk => Below.heap_setCell _ _ _ _ (bT.neD (by decide) ho k hk)⟩
/-- Another line is stored. -/
theorem Lh.line {w0 : World} {p : Nat} {ca : Option Addr} {n cap R T : Nat} {line z : ByteArray} {v : Value} {L : List (ByteArray × ByteArray)} {wi : World} (h : Lh w0 p ca n cap R T line v L wi) :
    Lh w0 p ca n cap R T z v L (wi.setCell ⟨T, 0, none⟩ (.string z)) := by
  refine ⟨h.left.set h.hp h.hT _, h.hp, h.hR, h.hT, h.ne, h.res.kept (Below.heap_setCell _ _ _ _ (by exact h.ne)), ?_, h.own.kept fun k hk => Below.heap_setCell _ _ _ _ (h.box.neD (by decide) h.own k hk)⟩
  have hb := h.box
  unfold HBx at *
  simp only [World.setCell, Array.getElem?_modify, hb]
  simp
/-- Its row is written. -/
theorem Lh.row {w0 : World} {p : Nat} {ca : Option Addr} {n cap R T : Nat} {line : ByteArray} {v : Value} {L M : List (ByteArray × ByteArray)} {wi wj : World} (h : Lh w0 p ca n cap R T line v L wi) (ho : OwnD wj w0.heap.size 34 v M) (hg : wi.grownBy wj v.ownBlock) : Lh w0 p ca n cap R T line v M wj :=
  ⟨h.left.row h.hp h.own hg, h.hp, h.hR, h.hT, h.ne, h.res.grownO h.own hg, h.box.grownO h.own hg, ho⟩
/-- It is handed back. -/
theorem Lh.out {w0 : World} {p : Nat} {ca : Option Addr} {n cap R T : Nat} {line : ByteArray} {v : Value} {L : List (ByteArray × ByteArray)} {wi : World} (h : Lh w0 p ca n cap R T line v L wi) :
    HBx ((wi.setCell ⟨R, 0, none⟩ (.string line)).setCell ⟨R, 1, none⟩ v) R 27 (.string line) v ∧ OwnD ((wi.setCell ⟨R, 0, none⟩ (.string line)).setCell ⟨R, 1, none⟩ v) w0.heap.size 34 v L ∧ Left w0 ((wi.setCell ⟨R, 0, none⟩ (.string line)).setCell ⟨R, 1, none⟩ v) p ca n cap :=
  ⟨h.res.put _ _, h.own.kept fun k hk => put2_other _ _ _ _ k (h.res.neD (by decide) h.own k hk), (h.left.set h.hp h.hR _).set h.hp h.hR _⟩
set_option maxRecDepth 100000 in
set_option maxHeartbeats 8000000 in
theorem l09Head_any (w : World) (p : Nat) (ca : Option Addr) (n cap : Nat) (hc : Cur w p ca n cap) (hcode : CodeAt w ca n p) (hn : n ≤ 1048576) :
    Calls Tryd.prog 72 #[.pointer (some ⟨p, 0, none⟩)] w fun e w' => ∃ (line : ByteArray) (v : Value) (L : List (ByteArray × ByteArray)), e = .returned (.agg #[.string line, v]) ∧ line ∈ hlL ∧ (∀ f ∈ L, FdD f) ∧ L.length ≤ 3 ∧ OwnD w' w.heap.size 34 v L ∧ Left w w' p ca n cap := by
  have hp := hc.lt
  obtain ⟨w1, hw1⟩ : ∃ x, w.alloc (.cells #[.string ⟨#[]⟩, .slice none 0 0] 27) = x := ⟨_, rfl⟩
  have hL1 : Left w w1 p ca n cap := by rw [← hw1]; exact (Left.refl hc hcode).plus hp _
  have hR1 : HBx w1 w.heap.size 27 (.string ⟨#[]⟩) (.slice none 0 0) := by rw [← hw1]; exact HBx.new _ _ _ _
  have s1 : w1.heap.size = w.heap.size + 1 := by rw [← hw1]; simp
  obtain ⟨w2, hw2⟩ : ∃ x, w1.alloc (.cells (strs hlL).toArray 9) = x := ⟨_, rfl⟩
  have hL2 : Left w1 w2 p ca n cap := by rw [← hw2]; exact (Left.refl hL1.1 hL1.2.1).plus (by omega) _
  have c1 := pick_any w2 p ca n cap w1.heap.size (.slice (some ⟨w1.heap.size, 0, none⟩) 6 6) hlL hL2.1 hL2.2.1 hn
      (by rw [← hw2]; exact (World.ownsRow_lit (base := w1.heap.size) (e := 9) (size := 1) w1 (strs hlL).toArray 6 (Nat.le_refl _) (by simp [maxLen]) (by rfl))) (by omega) (by decide) (by decide)
  have hR2 : HBx w2 w.heap.size 27 (.string ⟨#[]⟩) (.slice none 0 0) := hR1.kept (by rw [← hw2]; exact Below.heap_alloc _ _ _ hR1.lt)
  have HW : Hid (w.alloc (.cells #[.string ⟨#[]⟩, .slice none 0 0] 27) = w1) := hw1
  have HW2 : Hid (w1.alloc (.cells (strs hlL).toArray 9) = w2) := hw2
  have hL12 := hL1.trans hL2
  clear hc hcode hw1 hw2 hL1 hL2 hR1
  go_enter Tryd.func72, Tryd.ntmps72
  go_wp2_with fail
  rw [HW.out]
  rw [← s1]
  change Calls Tryd.prog 55 #[.pointer (some ⟨p, 0, none⟩), .slice (some ⟨w1.heap.size, 0, none⟩) 6 6] (w1.alloc (.cells (strs hlL).toArray 9)) _
  rw [HW2.out]
  refine c1.mono ?_
  rintro e w3 ⟨line, hline, rfl, hl3⟩
  have hR3 : HBx w3 w.heap.size 27 (.string ⟨#[]⟩) (.slice none 0 0) := hR2.kept (hl3.2.2.block _ hR2.lt (fun e => by cases e; omega))
  have hL3 := hL12.trans hl3
  have HLN : Hid (line ∈ hlL) := hline
  obtain ⟨w4, hw4⟩ : ∃ x, w3.alloc (.cells #[.string line, .slice none 0 0] 27) = x := ⟨_, rfl⟩
  have hb4 : Below w3.heap.size w3 w4 := by rw [← hw4]; exact (Below.refl _ _).alloc (Nat.le_refl _) _
  have H4 : Lh w p ca n cap w.heap.size w3.heap.size line (.slice none 0 0) [] w4 := by
    have hlt := hR3.lt
    refine ⟨hL3.below (hb4.mono hL3.2.2.size) hp, hp, Nat.le_refl _, by omega, by omega, hR3.on hb4, ?_, ⟨rfl, .inl ⟨rfl, rfl⟩⟩⟩
    rw [← hw4]; exact HBx.new _ _ _ _
  have HW4 : Hid (w3.alloc (.cells #[.string line, .slice none 0 0] 27) = w4) := hw4
  have HH4 : Hid (Lh w p ca n cap w.heap.size w3.heap.size line (.slice none 0 0) [] w4) := H4
  clear c1 hw4 hb4 hL12 hL3 hR2 hR3 H4 hline hl3 HW2 HW
  obtain ⟨T, hT⟩ : ∃ T, w3.heap.size = T := ⟨_, rfl⟩
  rw [hT] at HH4
  go_wp2_with fail
  rw [HW4.out]
  clear hT HW4
  go_loopw [4] (fun i wr => Box (∃ (k : Nat) (v : Value) (L : List (ByteArray × ByteArray)), k ≤ 3 ∧ i = .int .i64 k ∧ Hid (L.length = k) ∧ Hid (∀ f ∈ L, FdD f) ∧ Lh w p ca n cap w.heap.size T line v L wr))
    (fun i _ => 3 - (intOf i).toNat)
  case atStart => exact ⟨⟨0, _, [], by omega, rfl, rfl, fun f hf => by simp at hf, HH4.out⟩⟩
  case round =>
    obtain ⟨k, v, L, hk, rfl, HLk, HF, H⟩ := hrel.out
    clear hrel HH4
    have c5 := below_any wr p ca n cap 4 H.left.1 H.left.2.1 hn (by omega) (by omega)
    go_wp2_with fail
    refine c5.mono ?_
    rintro e w5 ⟨x, hx, _, rfl, hl5⟩
    have hx2 := hx (by omega)
    have H5 := H.go hl5
    clear c5 H hx hl5
    obtain ⟨a, c, rfl, _⟩ := H5.at
    obtain ⟨y0, y1⟩ := H5.box.cells
    by_cases hlt : (k : Int) < (x : Int)
    · have H6 := H5.next (⟨rfl, rfl, rfl, Nat.le_refl _, fun _ _ => rfl⟩ : Below w5.heap.size w5 w5.drew)
      have hLl : L.length ≤ 3 := by have := HLk.out; omega
      have hk2 : k ≤ 2 := by omega
      clear H5
      go_wp2_with fail
      go_region_law (first
        | (go_simp; go_at_call 54; refine (drawField_any _ p ca n cap H6.left.1 H6.left.2.1 hn).mono ?_; rintro e w7 ⟨f, hf, rfl, hl7⟩; have H7 := H6.go hl7; obtain ⟨q0, q1⟩ := H7.box.cells; have q0' := fun o => kept_xD (w := w7) q0 o; have q1' := fun o => kept_xD (w := w7) q1 o; have hs7 := H7.left.2.2.size)
        | (refine step_snocD (by rfl) _ _ 25 (by rfl) w.heap.size 34 Tryd.underlying25 Tryd.infoFd _ L (by rfl) (by exact H7.own.alloc _) w7.heap.size f (0, 0) (by rfl) (by exact heap_alloc_new w7 _) (by omega) (by simp; omega) ?_; intro g2 cap2 w8 hown2 hgr2; have hk2 := H7.gather (hW := (Below.refl _ _).alloc (Nat.le_refl _) _) hgr2 hown2; have q9 := hk2.1.cells.2; have z9 := hk2.1.thaw 1))
      all_goals (
        have H9 := hk2.2
        have HL1 : Hid ((L ++ [f]).length = k + 1) := by show _ = _; rw [List.length_append, HLk.out]; rfl
        have HF1 : Hid (∀ g ∈ L ++ [f], FdD g) := by
          intro g hg
          rcases List.mem_append.1 hg with h | h
          · exact HF.out g h
          · rw [List.mem_singleton] at h; subst h; exact hf
        have HH : Hid _ := H9
        clear hk2 hown2 hgr2 q9 z9 q0 q1 q0' q1' H7 H6 hs7 H9 hl7
        go_wp2_with fail
        refine ⟨?_, ?_⟩
        · exact ⟨⟨k + 1, _, _, by omega, by go_num, HL1, HF1, HH.out⟩⟩
        · simp [intOf]; omega)
    · obtain ⟨r0, r1⟩ := H5.res.cells
      have f0 := H5.res.thaw 0
      have f1 := H5.res.thaw 1
      have HO : Hid _ := H5.out
      have HLe : Hid (L.length ≤ 3) := by show _ ≤ _; have := HLk.out; omega
      clear H5
      go_wp2_with fail
      obtain ⟨hb, ho, hl⟩ := HO.out
      obtain ⟨q0, q1⟩ := hb.cells
      exact bodyPost_ret (v := .agg #[.string line, .slice a L.length c]) (by simp [results, Tryd.results72, go_sem, q0, q1]) rfl ⟨line, _, L, rfl, HLN.out, HF.out, HLe.out, ho, hl⟩
end Go.Proofs.YtnnaphfeeobeladDoor
