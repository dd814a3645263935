/- Texts that stand in one: ReadPlain, HexPlain, UnhexPlain, Trip, EntPlain, EnLaw. -/
import Derived.Test.YtaahjcljanckaaaGreatDoorPolLaw2J
import Derived.Test.YtaahjcljanckaaaGreatDoorSkLaw3J
import Derived.Lib.Bytealg
import Derived.Test.YtaahjcljanckaaaGreatDoorSkBaseJ
namespace Go.Proofs.YtaahjcljanckaaaGreatDoor
open Go.RowKit
theorem size_zeroE {s : ByteArray} (h : s.size = 0) : s = ⟨#[]⟩ := by
 cases s with | mk d => simp [ByteArray.size] at h; simp [h]
theorem not_emptyE {s : ByteArray} (h : 1 ≤ s.size) : s.toList.isEmpty = false := by
 rw [ByteArray.toList_eq]
 cases s with | mk d =>
 cases hd : d.toList with
 | nil => simp [ByteArray.size] at h; have : d = #[] := by simpa using hd
          subst this; simp at h
 | cons => simp
structure En where
 key : ByteArray
 st : Int
 lf : Int
 bd : ByteArray
def zen : En := ⟨⟨#[]⟩, 0, 0,⟨#[]⟩⟩
def enKey (s : ByteArray) : Bool := decide (1 ≤ s.size ∧ s.size ≤ 30)
def enOk (E : En) : Bool := enKey E.key && (inB E.st 0 1000000000 && (inB E.lf 1 999999 && decide (E.bd.size ≤ 400)))
theorem enOk_iff {E : En} : enOk E = true ↔ (1 ≤ E.key.size ∧ E.key.size ≤ 30) ∧ (0 ≤ E.st ∧ E.st ≤ 1000000000) ∧ (1 ≤ E.lf ∧ E.lf ≤ 999999) ∧ E.bd.size ≤ 400 := by
 simp [enOk,enKey,inB]
def En.wg (E : En) : Nat := E.key.size + E.bd.size
def En.Sized (E : En) : Prop := (E.key.size ≤ maxLen ∧ E.bd.size ≤ maxLen) ∧ (Lit.int .i64 E.st).wf = true ∧ (Lit.int .i64 E.lf).wf = true
def EnB (w : World) (T : Nat) (t : TypeId) (E : En) : Prop := w.heap[T]? = some (.cells #[.string E.key,.int .i64 E.st,.int .i64 E.lf,.string E.bd] t (0, 0))
theorem EnB.lt {w : World} {T : Nat} {t : TypeId} {E : En} (h : EnB w T t E) : T < w.heap.size := (Array.getElem?_eq_some_iff.1 h).1
theorem EnB.on {w w' : World} {T : Nat} {t : TypeId} {E : En} (h : EnB w T t E) (hb : Below w.heap.size w w') : EnB w' T t E := (hb.block T h.lt).trans h
theorem EnB.cells {w : World} {T : Nat} {t : TypeId} {E : En} (h : EnB w T t E) : w.cell? ⟨T, 0,none⟩ = some (.string E.key) ∧ w.cell? ⟨T, 1,none⟩ = some (.int .i64 E.st) ∧ w.cell? ⟨T, 2,none⟩ = some (.int .i64 E.lf) ∧ w.cell? ⟨T, 3,none⟩ = some (.string E.bd) := by
 unfold EnB at h
 exact ⟨by simp [World.cell?,h],by simp [World.cell?,h],by simp [World.cell?,h],by simp [World.cell?,h]⟩
theorem EnB.new (w : World) (t : TypeId) (E : En) : EnB (w.alloc (.cells #[.string E.key,.int .i64 E.st,.int .i64 E.lf,.string E.bd] t)) w.heap.size t E := heap_alloc_new w _
theorem EnB.thaw {w : World} {T : Nat} {t : TypeId} {E : En} (h : EnB w T t E) (i : Nat) : w.frozen? ⟨T,i,none⟩ = false := by unfold EnB at h; simp [World.frozen?,h]
def putE (w : World) (T : Nat) (F : En) : World := (((w.setCell ⟨T, 0,none⟩ (.string F.key)).setCell ⟨T, 1,none⟩ (.int .i64 F.st)).setCell ⟨T, 2,none⟩ (.int .i64 F.lf)).setCell ⟨T, 3,none⟩ (.string F.bd)
theorem EnB.put {w : World} {T : Nat} {t : TypeId} {E : En} (h : EnB w T t E) (F : En) : EnB (putE w T F) T t F := by
 unfold EnB putE at *
 simp only [World.setCell,Array.getElem?_modify,h]
 simp
theorem EnB.set3 {w : World} {T : Nat} {t : TypeId} {E : En} (h : EnB w T t E) (x : ByteArray) : EnB (w.setCell ⟨T, 3,none⟩ (.string x)) T t ⟨E.key,E.st,E.lf,x⟩ := by
 unfold EnB at *
 simp only [World.setCell,Array.getElem?_modify,h]
 simp
theorem EnB.far {w : World} {T T' : Nat} {t : TypeId} {E : En} (h : EnB w T t E) (hn : T ≠ T') (i : Nat) (u : Value) : EnB (w.setCell ⟨T',i,none⟩ u) T t E := by
 unfold EnB at *
 rw [Below.heap_setCell _ _ _ _ (by exact hn)]
 exact h
end Go.Proofs.YtaahjcljanckaaaGreatDoor
