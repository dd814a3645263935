/- Variables that hold a disk, and what a law has at hand of them. -/
import Derived.Test.YtepfblabdibggabDoorFilesLaw
import Derived.Test.YtepfblabdibggabDoorLawKitJ
namespace Go.Proofs.YtepfblabdibggabDoor
open Go.RowKit Go.Sort

/-- A variable's block. -/
def DBox (w : World) (P : Nat) (v : Value) : Prop := w.heap[P]? = some (.cells #[v] 41 (0, 0))
theorem DBox.new (w : World) (v : Value) : DBox (w.alloc (.cells #[v] 41)) w.heap.size v := heap_alloc_new w _
theorem DBox.lt {w : World} {P : Nat} {v : Value} (h : DBox w P v) : P < w.heap.size := (Array.getElem?_eq_some_iff.1 h).1
theorem DBox.on {w w' : World} {P : Nat} {v : Value} (h : DBox w P v) (hb : Below w.heap.size w w') : DBox w' P v := (hb.block P h.lt).trans h
theorem DBox.cell {w : World} {P : Nat} {v : Value} (h : DBox w P v) : w.cell? ⟨P, 0, none⟩ = some v := by unfold DBox at h; simp [World.cell?, h]
theorem DBox.thaw {w : World} {P : Nat} {v : Value} (h : DBox w P v) : w.frozen? ⟨P, 0, none⟩ = false := by unfold DBox at h; simp [World.frozen?, h]
theorem DBox.set {w : World} {P : Nat} {v : Value} (h : DBox w P v) (u : Value) : DBox (w.setCell ⟨P, 0, none⟩ u) P u := by
  unfold DBox at *
  simp only [World.setCell, Array.getElem?_modify, h]
  simp
theorem DBox.ne {w : World} {P : Nat} {v u : Value} {b : Nat} {L : List Fil} (h : DBox w P v) (ho : OwnF w b 90 u L) : ∀ k, u.ownBlock = some k → k ≠ P := by
  rintro k hk rfl
  rcases ho.2 with ⟨rfl, _⟩ | ⟨g, cap, cur, rfl, _, hg, _⟩
  · simp [Value.ownBlock] at hk
  · simp [Value.ownBlock] at hk
    subst hk
    have := h.symm.trans hg
    simp at this
theorem OwnF.setBox {w : World} {P b : Nat} {v u x : Value} {L : List Fil} (ho : OwnF w b 90 u L) (h : DBox w P v) : OwnF (w.setCell ⟨P, 0, none⟩ x) b 90 u L :=
  ho.kept fun k hk => heap_setCell_other _ _ _ _ (by simpa using h.ne ho k hk)

/-- What a law holds of the disks that it has at hand: the other text's answer v0, what was handed in vx, the program's answer vg, each in a variable of its own. -/
structure Hnd (P0 X0 G0 : Nat) (v0 vx vg : Value) (L M : List Fil) (wi : World) : Prop where
  c0 : DBox wi P0 v0
  cx : DBox wi X0 vx
  cg : DBox wi G0 vg
  o0 : OwnF wi 0 90 v0 M
  og : OwnF wi 0 90 vg L
theorem Hnd.next {P0 X0 G0 : Nat} {v0 vx vg : Value} {L M : List Fil} {wi wj : World} (h : Hnd P0 X0 G0 v0 vx vg L M wi) (hb : Below wi.heap.size wi wj) : Hnd P0 X0 G0 v0 vx vg L M wj :=
  ⟨h.c0.on hb, h.cx.on hb, h.cg.on hb, h.o0.below hb (Nat.le_refl _), h.og.below hb (Nat.le_refl _)⟩
theorem DBox.grown {w w' : World} {P : Nat} {v : Value} {row : Option Nat} (h : DBox w P v) (hg : w.grownBy w' row) (hn : ∀ k, row = some k → k ≠ P) : DBox w' P v := (hg.block P h.lt (fun e => hn P e.symm rfl)).trans h
/-- What was handed in is marked. -/
theorem Hnd.grown {P0 X0 G0 : Nat} {v0 vx vg : Value} {L M X : List Fil} {wi wj : World} {b : Nat} (h : Hnd P0 X0 G0 v0 vx vg L M wi) (hg : wi.grownBy wj vx.ownBlock) (ho : OwnF wi b 90 vx X) (h0 : ∀ k, vx.ownBlock = some k → v0.ownBlock ≠ some k) (h1 : ∀ k, vx.ownBlock = some k → vg.ownBlock ≠ some k) : Hnd P0 X0 G0 v0 vx vg L M wj :=
  ⟨h.c0.grown hg (h.c0.ne ho), h.cx.grown hg (h.cx.ne ho), h.cg.grown hg (h.cg.ne ho), h.o0.grown hg (fun k hk e => h0 k e hk), h.og.grown hg (fun k hk e => h1 k e hk)⟩
/-- The answer's own marks are laid. -/
theorem Hnd.marked {P0 X0 G0 : Nat} {v0 vx vg : Value} {L M N : List Fil} {wi wj : World} {b : Nat} (h : Hnd P0 X0 G0 v0 vx vg L M wi) (hg : wi.grownBy wj vg.ownBlock) (h0 : ∀ k, vg.ownBlock = some k → v0.ownBlock ≠ some k) (ho : OwnF wj b 90 vg N) : Hnd P0 X0 G0 v0 vx vg N M wj :=
  ⟨h.c0.grown hg (h.c0.ne h.og), h.cx.grown hg (h.cx.ne h.og), h.cg.grown hg (h.cg.ne h.og), h.o0.grown hg (fun k hk e => h0 k e hk), ho.mono (Nat.zero_le _)⟩

end Go.Proofs.YtepfblabdibggabDoor
