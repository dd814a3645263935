/- Worlds in memory. Plain, no program. Written by mkwld.py. -/
import Derived.Test.YtpgcfgbhkodmeaaPrxBase
import Derived.Test.YtpgcfgbhkodmeaaLawKitJ
import Derived.Test.YtpgcfgbhkodmeaaCellSpec
namespace Go.Proofs.Ytpgcfgbhkodmeaa
open Go.RowKit Go.Sort

structure Wld where
  px : Prx
  fl : List Fil
  cd : List Int
  bd : List En
/-- The values of a world's lists. -/
structure Wc where
  x : Pc
  d : Value
  n : Value
  b : Value
/-- Twelve cells in a variable. -/
def TB (w : World) (T : Nat) (t : TypeId) (a0 a1 a2 a3 a4 a5 a6 a7 a8 a9 a10 a11 : Value) : Prop := w.heap[T]? = some (.cells #[a0, a1, a2, a3, a4, a5, a6, a7, a8, a9, a10, a11] t (0, 0))
theorem TB.lt {w : World} {T : Nat} {t : TypeId} {a0 a1 a2 a3 a4 a5 a6 a7 a8 a9 a10 a11 : Value} (h : TB w T t a0 a1 a2 a3 a4 a5 a6 a7 a8 a9 a10 a11) : T < w.heap.size := (Array.getElem?_eq_some_iff.1 h).1
theorem TB.new (w : World) (t : TypeId) (a0 a1 a2 a3 a4 a5 a6 a7 a8 a9 a10 a11 : Value) : TB (w.alloc (.cells #[a0, a1, a2, a3, a4, a5, a6, a7, a8, a9, a10, a11] t)) w.heap.size t a0 a1 a2 a3 a4 a5 a6 a7 a8 a9 a10 a11 := heap_alloc_new w _
theorem TB.kept {w w' : World} {T : Nat} {t : TypeId} {a0 a1 a2 a3 a4 a5 a6 a7 a8 a9 a10 a11 : Value} (h : TB w T t a0 a1 a2 a3 a4 a5 a6 a7 a8 a9 a10 a11) (hk : w'.heap[T]? = w.heap[T]?) : TB w' T t a0 a1 a2 a3 a4 a5 a6 a7 a8 a9 a10 a11 := hk.trans h
theorem TB.on {w w' : World} {T : Nat} {t : TypeId} {a0 a1 a2 a3 a4 a5 a6 a7 a8 a9 a10 a11 : Value} (h : TB w T t a0 a1 a2 a3 a4 a5 a6 a7 a8 a9 a10 a11) (hb : Below w.heap.size w w') : TB w' T t a0 a1 a2 a3 a4 a5 a6 a7 a8 a9 a10 a11 := h.kept (hb.block T h.lt)
theorem TB.thaw {w : World} {T : Nat} {t : TypeId} {a0 a1 a2 a3 a4 a5 a6 a7 a8 a9 a10 a11 : Value} (h : TB w T t a0 a1 a2 a3 a4 a5 a6 a7 a8 a9 a10 a11) (i : Nat) : w.frozen? ⟨T, i, none⟩ = false := by
  unfold TB at h
  simp [World.frozen?, h]
theorem TB.cells {w : World} {T : Nat} {t : TypeId} {a0 a1 a2 a3 a4 a5 a6 a7 a8 a9 a10 a11 : Value} (h : TB w T t a0 a1 a2 a3 a4 a5 a6 a7 a8 a9 a10 a11) : w.cell? ⟨T, 0, none⟩ = some a0 ∧ w.cell? ⟨T, 1, none⟩ = some a1 ∧ w.cell? ⟨T, 2, none⟩ = some a2 ∧ w.cell? ⟨T, 3, none⟩ = some a3 ∧ w.cell? ⟨T, 4, none⟩ = some a4 ∧ w.cell? ⟨T, 5, none⟩ = some a5 ∧ w.cell? ⟨T, 6, none⟩ = some a6 ∧ w.cell? ⟨T, 7, none⟩ = some a7 ∧ w.cell? ⟨T, 8, none⟩ = some a8 ∧ w.cell? ⟨T, 9, none⟩ = some a9 ∧ w.cell? ⟨T, 10, none⟩ = some a10 ∧ w.cell? ⟨T, 11, none⟩ = some a11 := by
  unfold TB at h
  refine ⟨?_, ?_, ?_, ?_, ?_, ?_, ?_, ?_, ?_, ?_, ?_, ?_⟩
  · rw [cell_of_row w T 0 _ _ (0, 0) h]; rfl
  · rw [cell_of_row w T 1 _ _ (0, 0) h]; rfl
  · rw [cell_of_row w T 2 _ _ (0, 0) h]; rfl
  · rw [cell_of_row w T 3 _ _ (0, 0) h]; rfl
  · rw [cell_of_row w T 4 _ _ (0, 0) h]; rfl
  · rw [cell_of_row w T 5 _ _ (0, 0) h]; rfl
  · rw [cell_of_row w T 6 _ _ (0, 0) h]; rfl
  · rw [cell_of_row w T 7 _ _ (0, 0) h]; rfl
  · rw [cell_of_row w T 8 _ _ (0, 0) h]; rfl
  · rw [cell_of_row w T 9 _ _ (0, 0) h]; rfl
  · rw [cell_of_row w T 10 _ _ (0, 0) h]; rfl
  · rw [cell_of_row w T 11 _ _ (0, 0) h]; rfl
theorem TB.set0 {w : World} {T : Nat} {t : TypeId} {a0 a1 a2 a3 a4 a5 a6 a7 a8 a9 a10 a11 : Value} (h : TB w T t a0 a1 a2 a3 a4 a5 a6 a7 a8 a9 a10 a11) (x : Value) : TB (w.setCell ⟨T, 0, none⟩ x) T t x a1 a2 a3 a4 a5 a6 a7 a8 a9 a10 a11 := by
  unfold TB at *
  simp only [World.setCell, Array.getElem?_modify, h]
  simp
theorem TB.set1 {w : World} {T : Nat} {t : TypeId} {a0 a1 a2 a3 a4 a5 a6 a7 a8 a9 a10 a11 : Value} (h : TB w T t a0 a1 a2 a3 a4 a5 a6 a7 a8 a9 a10 a11) (x : Value) : TB (w.setCell ⟨T, 1, none⟩ x) T t a0 x a2 a3 a4 a5 a6 a7 a8 a9 a10 a11 := by
  unfold TB at *
  simp only [World.setCell, Array.getElem?_modify, h]
  simp
theorem TB.set2 {w : World} {T : Nat} {t : TypeId} {a0 a1 a2 a3 a4 a5 a6 a7 a8 a9 a10 a11 : Value} (h : TB w T t a0 a1 a2 a3 a4 a5 a6 a7 a8 a9 a10 a11) (x : Value) : TB (w.setCell ⟨T, 2, none⟩ x) T t a0 a1 x a3 a4 a5 a6 a7 a8 a9 a10 a11 := by
  unfold TB at *
  simp only [World.setCell, Array.getElem?_modify, h]
  simp
theorem TB.set3 {w : World} {T : Nat} {t : TypeId} {a0 a1 a2 a3 a4 a5 a6 a7 a8 a9 a10 a11 : Value} (h : TB w T t a0 a1 a2 a3 a4 a5 a6 a7 a8 a9 a10 a11) (x : Value) : TB (w.setCell ⟨T, 3, none⟩ x) T t a0 a1 a2 x a4 a5 a6 a7 a8 a9 a10 a11 := by
  unfold TB at *
  simp only [World.setCell, Array.getElem?_modify, h]
  simp
theorem TB.set4 {w : World} {T : Nat} {t : TypeId} {a0 a1 a2 a3 a4 a5 a6 a7 a8 a9 a10 a11 : Value} (h : TB w T t a0 a1 a2 a3 a4 a5 a6 a7 a8 a9 a10 a11) (x : Value) : TB (w.setCell ⟨T, 4, none⟩ x) T t a0 a1 a2 a3 x a5 a6 a7 a8 a9 a10 a11 := by
  unfold TB at *
  simp only [World.setCell, Array.getElem?_modify, h]
  simp
theorem TB.set5 {w : World} {T : Nat} {t : TypeId} {a0 a1 a2 a3 a4 a5 a6 a7 a8 a9 a10 a11 : Value} (h : TB w T t a0 a1 a2 a3 a4 a5 a6 a7 a8 a9 a10 a11) (x : Value) : TB (w.setCell ⟨T, 5, none⟩ x) T t a0 a1 a2 a3 a4 x a6 a7 a8 a9 a10 a11 := by
  unfold TB at *
  simp only [World.setCell, Array.getElem?_modify, h]
  simp
theorem TB.set6 {w : World} {T : Nat} {t : TypeId} {a0 a1 a2 a3 a4 a5 a6 a7 a8 a9 a10 a11 : Value} (h : TB w T t a0 a1 a2 a3 a4 a5 a6 a7 a8 a9 a10 a11) (x : Value) : TB (w.setCell ⟨T, 6, none⟩ x) T t a0 a1 a2 a3 a4 a5 x a7 a8 a9 a10 a11 := by
  unfold TB at *
  simp only [World.setCell, Array.getElem?_modify, h]
  simp
theorem TB.set7 {w : World} {T : Nat} {t : TypeId} {a0 a1 a2 a3 a4 a5 a6 a7 a8 a9 a10 a11 : Value} (h : TB w T t a0 a1 a2 a3 a4 a5 a6 a7 a8 a9 a10 a11) (x : Value) : TB (w.setCell ⟨T, 7, none⟩ x) T t a0 a1 a2 a3 a4 a5 a6 x a8 a9 a10 a11 := by
  unfold TB at *
  simp only [World.setCell, Array.getElem?_modify, h]
  simp
theorem TB.set8 {w : World} {T : Nat} {t : TypeId} {a0 a1 a2 a3 a4 a5 a6 a7 a8 a9 a10 a11 : Value} (h : TB w T t a0 a1 a2 a3 a4 a5 a6 a7 a8 a9 a10 a11) (x : Value) : TB (w.setCell ⟨T, 8, none⟩ x) T t a0 a1 a2 a3 a4 a5 a6 a7 x a9 a10 a11 := by
  unfold TB at *
  simp only [World.setCell, Array.getElem?_modify, h]
  simp
theorem TB.set9 {w : World} {T : Nat} {t : TypeId} {a0 a1 a2 a3 a4 a5 a6 a7 a8 a9 a10 a11 : Value} (h : TB w T t a0 a1 a2 a3 a4 a5 a6 a7 a8 a9 a10 a11) (x : Value) : TB (w.setCell ⟨T, 9, none⟩ x) T t a0 a1 a2 a3 a4 a5 a6 a7 a8 x a10 a11 := by
  unfold TB at *
  simp only [World.setCell, Array.getElem?_modify, h]
  simp
theorem TB.set10 {w : World} {T : Nat} {t : TypeId} {a0 a1 a2 a3 a4 a5 a6 a7 a8 a9 a10 a11 : Value} (h : TB w T t a0 a1 a2 a3 a4 a5 a6 a7 a8 a9 a10 a11) (x : Value) : TB (w.setCell ⟨T, 10, none⟩ x) T t a0 a1 a2 a3 a4 a5 a6 a7 a8 a9 x a11 := by
  unfold TB at *
  simp only [World.setCell, Array.getElem?_modify, h]
  simp
theorem TB.set11 {w : World} {T : Nat} {t : TypeId} {a0 a1 a2 a3 a4 a5 a6 a7 a8 a9 a10 a11 : Value} (h : TB w T t a0 a1 a2 a3 a4 a5 a6 a7 a8 a9 a10 a11) (x : Value) : TB (w.setCell ⟨T, 11, none⟩ x) T t a0 a1 a2 a3 a4 a5 a6 a7 a8 a9 a10 x := by
  unfold TB at *
  simp only [World.setCell, Array.getElem?_modify, h]
  simp
theorem TB.put {w : World} {T : Nat} {t : TypeId} {a0 a1 a2 a3 a4 a5 a6 a7 a8 a9 a10 a11 : Value} (h : TB w T t a0 a1 a2 a3 a4 a5 a6 a7 a8 a9 a10 a11) (x0 x1 x2 x3 x4 x5 x6 x7 x8 x9 x10 x11 : Value) : TB ((((((((((((w.setCell ⟨T, 0, none⟩ x0).setCell ⟨T, 1, none⟩ x1).setCell ⟨T, 2, none⟩ x2).setCell ⟨T, 3, none⟩ x3).setCell ⟨T, 4, none⟩ x4).setCell ⟨T, 5, none⟩ x5).setCell ⟨T, 6, none⟩ x6).setCell ⟨T, 7, none⟩ x7).setCell ⟨T, 8, none⟩ x8).setCell ⟨T, 9, none⟩ x9).setCell ⟨T, 10, none⟩ x10).setCell ⟨T, 11, none⟩ x11) T t x0 x1 x2 x3 x4 x5 x6 x7 x8 x9 x10 x11 := ((((((((((((h.set0 _).set1 _).set2 _).set3 _).set4 _).set5 _).set6 _).set7 _).set8 _).set9 _).set10 _).set11 _)
theorem put12_other (w : World) (T : Nat) (x0 x1 x2 x3 x4 x5 x6 x7 x8 x9 x10 x11 : Value) (k : Nat) (hk : k ≠ T) : ((((((((((((w.setCell ⟨T, 0, none⟩ x0).setCell ⟨T, 1, none⟩ x1).setCell ⟨T, 2, none⟩ x2).setCell ⟨T, 3, none⟩ x3).setCell ⟨T, 4, none⟩ x4).setCell ⟨T, 5, none⟩ x5).setCell ⟨T, 6, none⟩ x6).setCell ⟨T, 7, none⟩ x7).setCell ⟨T, 8, none⟩ x8).setCell ⟨T, 9, none⟩ x9).setCell ⟨T, 10, none⟩ x10).setCell ⟨T, 11, none⟩ x11).heap[k]? = w.heap[k]? := by
  rw [Below.heap_setCell _ _ _ _ (by exact hk), Below.heap_setCell _ _ _ _ (by exact hk), Below.heap_setCell _ _ _ _ (by exact hk), Below.heap_setCell _ _ _ _ (by exact hk), Below.heap_setCell _ _ _ _ (by exact hk), Below.heap_setCell _ _ _ _ (by exact hk), Below.heap_setCell _ _ _ _ (by exact hk), Below.heap_setCell _ _ _ _ (by exact hk), Below.heap_setCell _ _ _ _ (by exact hk), Below.heap_setCell _ _ _ _ (by exact hk), Below.heap_setCell _ _ _ _ (by exact hk), Below.heap_setCell _ _ _ _ (by exact hk)]
theorem put12_size (w : World) (T : Nat) (x0 x1 x2 x3 x4 x5 x6 x7 x8 x9 x10 x11 : Value) : ((((((((((((w.setCell ⟨T, 0, none⟩ x0).setCell ⟨T, 1, none⟩ x1).setCell ⟨T, 2, none⟩ x2).setCell ⟨T, 3, none⟩ x3).setCell ⟨T, 4, none⟩ x4).setCell ⟨T, 5, none⟩ x5).setCell ⟨T, 6, none⟩ x6).setCell ⟨T, 7, none⟩ x7).setCell ⟨T, 8, none⟩ x8).setCell ⟨T, 9, none⟩ x9).setCell ⟨T, 10, none⟩ x10).setCell ⟨T, 11, none⟩ x11).heap.size = w.heap.size := by simp
theorem Below.put12 {B : Nat} {a w : World} (h : Below B a w) {T : Nat} (hT : B ≤ T) (x0 x1 x2 x3 x4 x5 x6 x7 x8 x9 x10 x11 : Value) : Below B a ((((((((((((w.setCell ⟨T, 0, none⟩ x0).setCell ⟨T, 1, none⟩ x1).setCell ⟨T, 2, none⟩ x2).setCell ⟨T, 3, none⟩ x3).setCell ⟨T, 4, none⟩ x4).setCell ⟨T, 5, none⟩ x5).setCell ⟨T, 6, none⟩ x6).setCell ⟨T, 7, none⟩ x7).setCell ⟨T, 8, none⟩ x8).setCell ⟨T, 9, none⟩ x9).setCell ⟨T, 10, none⟩ x10).setCell ⟨T, 11, none⟩ x11) := ((((((((((((h.setCell (by exact hT) _).setCell (by exact hT) _).setCell (by exact hT) _).setCell (by exact hT) _).setCell (by exact hT) _).setCell (by exact hT) _).setCell (by exact hT) _).setCell (by exact hT) _).setCell (by exact hT) _).setCell (by exact hT) _).setCell (by exact hT) _).setCell (by exact hT) _)

def FilV (w : World) (v : Value) (L : List Fil) (B : Nat) : Prop := ∃ a cap, v = .slice a L.length cap ∧ FAt w a L B
theorem FilV.on {w w' : World} {v : Value} {L : List Fil} (h : FilV w v L w.heap.size) (hb : Below w.heap.size w w') : FilV w' v L w'.heap.size := by
  obtain ⟨a, cap, rfl, hA⟩ := h
  exact ⟨a, cap, rfl, hA.on hb⟩
def IntV (w : World) (v : Value) (L : List Int) (B : Nat) : Prop := ∃ a cap, v = .slice a L.length cap ∧ IAt w a L B
theorem IntV.on {w w' : World} {v : Value} {L : List Int} (h : IntV w v L w.heap.size) (hb : Below w.heap.size w w') : IntV w' v L w'.heap.size := by
  obtain ⟨a, cap, rfl, hA⟩ := h
  exact ⟨a, cap, rfl, hA.on hb⟩
/-- The world R lies in memory. -/
structure WAt (w : World) (X : Wc) (R : Wld) (B : Nat) : Prop where
  x : PxAt w X.x R.px B
  d : FilV w X.d R.fl B
  n : IntV w X.n R.cd B
  b : EnsV w X.b R.bd B
theorem WAt.on {w w' : World} {X : Wc} {R : Wld} (h : WAt w X R w.heap.size) (hb : Below w.heap.size w w') : WAt w' X R w'.heap.size := ⟨h.x.on hb, h.d.on hb, h.n.on hb, h.b.on hb⟩
theorem WAt.slices {w : World} {X : Wc} {R : Wld} {B : Nat} (h : WAt w X R B) : ∃ (e0 : Option Addr) (e1 : Nat) (w0 : Option Addr) (w1 : Nat) (m0 : Option Addr) (m1 : Nat) (k0 : Option Addr) (k1 : Nat) (f0 : Option Addr) (f1 : Nat) (c0 : Option Addr) (c1 : Nat) (d0 : Option Addr) (d1 : Nat) (n0 : Option Addr) (n1 : Nat) (b0 : Option Addr) (b1 : Nat), X = ⟨⟨.slice e0 R.px.ents.length e1, .slice w0 R.px.pol.win.length w1, .slice m0 R.px.pol.main.length m1, .slice k0 R.px.pol.sk.rows.length k1, .slice f0 R.px.fes.length f1, .slice c0 R.px.cls.length c1⟩, .slice d0 R.fl.length d1, .slice n0 R.cd.length n1, .slice b0 R.bd.length b1⟩ := by
  obtain ⟨⟨xe, xw, xm, xk, xf, xc⟩, xd, xn, xb⟩ := X
  obtain ⟨⟨⟨e0, e1, h1, _⟩, ⟨w0, w1, h2, _⟩, ⟨m0, m1, h3, _⟩, ⟨k0, k1, h4, _⟩, ⟨f0, f1, h5, _⟩, ⟨c0, c1, h6, _⟩⟩, ⟨d0, d1, h7, _⟩, ⟨n0, n1, h8, _⟩, ⟨b0, b1, h9, _⟩⟩ := h
  dsimp only at *
  subst h1 h2 h3 h4 h5 h6 h7 h8 h9
  exact ⟨_, _, _, _, _, _, _, _, _, _, _, _, _, _, _, _, _, _, rfl⟩
def wgtW (R : Wld) : Nat := wgtX R.px + (R.fl.length + wgt R.fl) + R.cd.length + (R.bd.length + ewg R.bd)
def WSz (R : Wld) : Prop := wgtW R ≤ 1048576
theorem WSz.parts {R : Wld} (h : WSz R) : PxSz R.px ∧ R.fl.length ≤ 1048576 ∧ R.cd.length ≤ 1048576 ∧ R.bd.length ≤ 1048576 := by
  unfold WSz wgtW at h
  refine ⟨?_, by omega, by omega, by omega⟩
  unfold PxSz
  omega
/-- What a machine may hold of it. -/
structure WM (R : Wld) : Prop where
  x : PxM R.px
  ds : Sized R.fl
  dl : R.fl.length ≤ maxLen
  nl : R.cd.length ≤ maxLen
  bs : SizedN R.bd
  bl : R.bd.length ≤ maxLen
end Go.Proofs.Ytpgcfgbhkodmeaa
