/- What the laws on disks share. -/
import Derived.Test.YtghladeamdhlhalFilesLaw
import Derived.Deep.RegionHeld3
namespace Go.Proofs.Ytghladeamdhlhal
open Go.RowKit Go.Sort

theorem FAt.on {w w' : World} {a : Option Addr} {L : List Fil} (h : FAt w a L w.heap.size) (hb : Below w.heap.size w w') : FAt w' a L w'.heap.size := (h.below hb (Nat.le_refl _)).mono hb.size
theorem bthen {a b c : World} (h : Below a.heap.size a b) (k : Below b.heap.size b c) : Below a.heap.size a c := h.trans (k.mono h.size)
theorem bplus {a b : World} (h : Below a.heap.size a b) (o : Obj) : Below a.heap.size a (b.alloc o) := h.alloc h.size o
theorem OwnF.at {w : World} {base : Nat} {e : TypeId} {v : Value} {L : List Fil} (h : OwnF w base e v L) : ∃ a cap, v = .slice a L.length cap ∧ FAt w a L w.heap.size := by
  obtain ⟨a, cap, hv, _, _, hA, _⟩ := h.shape
  exact ⟨a, cap, hv, hA⟩

/-- What is kept while a law compares what it handed in. -/
theorem kept2 {w0 w1 w2 : World} {p q : Addr} {u v : Value} (h : Below w0.heap.size w0 w1 ∧ w1.cell? p = some u ∧ w1.cell? q = some v) (hp : p.block < w0.heap.size) (hq : q.block < w0.heap.size) (hb : Below w1.heap.size w1 w2) :
    Below w0.heap.size w0 w2 ∧ w2.cell? p = some u ∧ w2.cell? q = some v :=
  ⟨bthen h.1 hb, (hb.cell (Nat.lt_of_lt_of_le hp h.1.size)).trans h.2.1, (hb.cell (Nat.lt_of_lt_of_le hq h.1.size)).trans h.2.2⟩
end Go.Proofs.Ytghladeamdhlhal
