/- Epochs that lie in rows of their types: no variable is one of them. Plain, no program. -/
import Derived.Test.YtockgojdmaladacEpochMore
namespace Go.Proofs.Ytockgojdmaladac
open Go.RowKit

/-- The block of an address is a row of the type e. -/
def ITy (w : World) (a : Option Addr) (e : TypeId) : Prop := ∀ ad, a = some ad → ∃ cur fr, w.heap[ad.block]? = some (.cells cur e fr)
theorem ITy.keep {w w' : World} {a : Option Addr} {e : TypeId} (h : ITy w a e) (hk : ∀ ad, a = some ad → w'.heap[ad.block]? = w.heap[ad.block]?) : ITy w' a e := fun ad e' => by
  obtain ⟨cur, fr, hc⟩ := h ad e'
  exact ⟨cur, fr, (hk ad e').trans hc⟩
theorem ITy.on {w w' : World} {a : Option Addr} {e : TypeId} (h : ITy w a e) (hb : Below w.heap.size w w') : ITy w' a e := h.keep fun ad e' => by
  obtain ⟨cur, fr, hc⟩ := h ad e'
  exact hb.block _ (Array.getElem?_eq_some_iff.1 hc).1
theorem OwnV.ty {w : World} {base : Nat} {a : Option Addr} {n c : Nat} {xs : List Value} (h : OwnV w base 3 (.slice a n c) xs) : ITy w a 3 := fun ad e => by
  rcases h.2 with ⟨hv, _⟩ | ⟨g, cap, cur, hv, _, hg, _⟩
  · simp only [Value.slice.injEq] at hv; rw [hv.1] at e; cases e
  · simp only [Value.slice.injEq] at hv
    rw [hv.1] at e
    cases e
    exact ⟨cur, (0, 0), hg⟩
theorem OwnP.ty {w : World} {base : Nat} {a : Option Addr} {n c : Nat} {L : List (Int × Int)} (h : OwnP w base 101 (.slice a n c) L) : ITy w a 101 := fun ad e => by
  rcases h.2 with ⟨hv, _⟩ | ⟨g, cap, cur, hv, _, hg, _⟩
  · simp only [Value.slice.injEq] at hv; rw [hv.1] at e; cases e
  · simp only [Value.slice.injEq] at hv
    rw [hv.1] at e
    cases e
    exact ⟨cur, (0, 0), hg⟩
/-- Epochs that lie in rows of their types. -/
structure ETy (w : World) (a1 a2 : Option Addr) (E : Ep) : Prop where
  at' : EAt w a1 a2 E w.heap.size
  t1 : ITy w a1 3
  t2 : ITy w a2 101
theorem ETy.on {w w' : World} {a1 a2 : Option Addr} {E : Ep} (h : ETy w a1 a2 E) (hb : Below w.heap.size w w') : ETy w' a1 a2 E := ⟨h.at'.on hb, h.t1.on hb, h.t2.on hb⟩
theorem ITy.ne {w : World} {a : Option Addr} {e : TypeId} {T : Nat} {x y z : Value} (h : ITy w a e) (he : e ≠ 50) (hB : EBox w T x y z) {ad : Addr} (hd : a = some ad) : ad.block ≠ T := by
  rintro rfl
  obtain ⟨cur, fr, hc⟩ := h ad hd
  have := hc.symm.trans hB
  simp only [Option.some.injEq, Obj.cells.injEq] at this
  exact he this.2.1
/-- They stay where a variable is written. -/
theorem ETy.put {w : World} {a1 a2 : Option Addr} {E : Ep} {T : Nat} {x y z : Value} (h : ETy w a1 a2 E) (hB : EBox w T x y z) (u v s : Value) : ETy (((w.setCell ⟨T, 0, none⟩ u).setCell ⟨T, 1, none⟩ v).setCell ⟨T, 2, none⟩ s) a1 a2 E := by
  have k : ∀ j, j ≠ T → (((w.setCell ⟨T, 0, none⟩ u).setCell ⟨T, 1, none⟩ v).setCell ⟨T, 2, none⟩ s).heap[j]? = w.heap[j]? := fun j hj => put3_other w T u v s j hj
  have hs : (((w.setCell ⟨T, 0, none⟩ u).setCell ⟨T, 1, none⟩ v).setCell ⟨T, 2, none⟩ s).heap.size = w.heap.size := by simp
  refine ⟨⟨fun j hj => ?_, fun j hj => ?_⟩, h.t1.keep fun ad e => k _ (h.t1.ne (by decide) hB e), h.t2.keep fun ad e => k _ (h.t2.ne (by decide) hB e)⟩
  · obtain ⟨g, off, ha, hg, hc⟩ := h.at'.1 j hj
    refine ⟨g, off, ha, by rw [hs]; exact hg, ?_⟩
    rw [World.cell?_of_block (w := w) (k g (h.t1.ne (by decide) hB ha))]
    exact hc
  · obtain ⟨g, off, ha, hg, hc0, hc1⟩ := h.at'.2 j hj
    refine ⟨g, off, ha, by rw [hs]; exact hg, ?_, ?_⟩
    · rw [World.cell?_of_block (w := w) (k g (h.t2.ne (by decide) hB ha))]
      exact hc0
    · rw [World.cell?_of_block (w := w) (k g (h.t2.ne (by decide) hB ha))]
      exact hc1
theorem EOwn.ty {w : World} {base : Nat} {a1 a2 : Option Addr} {c1 c2 : Nat} {E : Ep} (h : EOwn w base (.agg #[.int .i64 E.now, .slice a1 E.pins.length c1, .slice a2 E.gone.length c2]) E) : ETy w a1 a2 E := by
  obtain ⟨now, pins, gone⟩ := E
  obtain ⟨h1, h2⟩ := h.parts
  obtain ⟨q, q', hv1, hI⟩ := h1.ints
  obtain ⟨r, r', hv2, hP⟩ := h2.at
  simp only [Value.slice.injEq] at hv1 hv2
  obtain ⟨rfl, _, rfl⟩ := hv1
  obtain ⟨rfl, _, rfl⟩ := hv2
  exact ⟨⟨hI, hP⟩, h1.ty, h2.ty⟩
end Go.Proofs.Ytockgojdmaladac
