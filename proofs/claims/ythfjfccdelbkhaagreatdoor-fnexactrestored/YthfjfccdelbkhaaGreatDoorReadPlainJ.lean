/- Texts that stand in one: ReadPlain, HexPlain, UnhexPlain, Trip, EntPlain, EnLaw. -/
import Derived.Test.YthfjfccdelbkhaaGreatDoorPolLaw2J
import Derived.Test.YthfjfccdelbkhaaGreatDoorSkLaw3J
import Derived.Lib.Bytealg
import Derived.Test.YthfjfccdelbkhaaGreatDoorSkBaseJ
namespace Go.Proofs.YthfjfccdelbkhaaGreatDoor
open Go.RowKit
theorem size_zeroE {s : ByteArray} (h : s.size = 0) : s = ⟨#[]⟩ := by
 cases s with | mk d => simp [ByteArray.size] at h; simp [h]
theorem not_emptyE {s : ByteArray} (h : 1 ≤ s.size) : s.toList.isEmpty = false := by
 rw [ByteArray.toList_eq]
 cases s with | mk d =>
 cases hd : d.toList with
 | nil => simp [ByteArray.size] at h; have : d = #[] := by simpa using hd
          subst this; simp at h
 | cons => simp
structure En where
 key : ByteArray
 st : Int
 lf : Int
 bd : ByteArray
def zen : En := ⟨⟨#[]⟩, 0, 0,⟨#[]⟩⟩
def enKey (s : ByteArray) : Bool := decide (1 ≤ s.size ∧ s.size ≤ 30)
def enOk (E : En) : Bool := enKey E.key && (inB E.st 0 1000000000 && (inB E.lf 1 999999 && decide (E.bd.size ≤ 400)))
theorem enOk_iff {E : En} : enOk E = true ↔ (1 ≤ E.key.size ∧ E.key.size ≤ 30) ∧ (0 ≤ E.st ∧ E.st ≤ 1000000000) ∧ (1 ≤ E.lf ∧ E.lf ≤ 999999) ∧ E.bd.size ≤ 400 := by
 simp [enOk,enKey,inB]
def En.wg (E : En) : Nat := E.key.size + E.bd.size
def En.Sized (E : En) : Prop := (E.key.size ≤ maxLen ∧ E.bd.size ≤ maxLen) ∧ (Lit.int .i64 E.st).wf = true ∧ (Lit.int .i64 E.lf).wf = true
def EnB (w : World) (T : Nat) (t : TypeId) (E : En) : Prop := w.heap[T]? = some (.cells #[.string E.key,.int .i64 E.st,.int .i64 E.lf,.string E.bd] t (0, 0))
theorem EnB.lt {w : World} {T : Nat} {t : TypeId} {E : En} (h : EnB w T t E) : T < w.heap.size := (Array.getElem?_eq_some_iff.1 h).1
theorem EnB.on {w w' : World} {T : Nat} {t : TypeId} {E : En} (h : EnB w T t E) (hb : Below w.heap.size w w') : EnB w' T t E := (hb.block T h.lt).trans h
theorem EnB.cells {w : World} {T : Nat} {t : TypeId} {E : En} (h : EnB w T t E) : w.cell? ⟨T, 0,none⟩ = some (.string E.key) ∧ w.cell? ⟨T, 1,none⟩ = some (.int .i64 E.st) ∧ w.cell? ⟨T, 2,none⟩ = some (.int .i64 E.lf) ∧ w.cell? ⟨T, 3,none⟩ = some (.string E.bd) := by
 unfold EnB at h
 exact ⟨by simp [World.cell?,h],by simp [World.cell?,h],by simp [World.cell?,h],by simp [World.cell?,h]⟩
theorem EnB.new (w : World) (t : TypeId) (E : En) : EnB (w.alloc (.cells #[.string E.key,.int .i64 E.st,.int .i64 E.lf,.string E.bd] t)) w.heap.size t E := heap_alloc_new w _
theorem EnB.thaw {w : World} {T : Nat} {t : TypeId} {E : En} (h : EnB w T t E) (i : Nat) : w.frozen? ⟨T,i,none⟩ = false := by unfold EnB at h; simp [World.frozen?,h]
def putE (w : World) (T : Nat) (F : En) : World := (((w.setCell ⟨T, 0,none⟩ (.string F.key)).setCell ⟨T, 1,none⟩ (.int .i64 F.st)).setCell ⟨T, 2,none⟩ (.int .i64 F.lf)).setCell ⟨T, 3,none⟩ (.string F.bd)
theorem EnB.put {w : World} {T : Nat} {t : TypeId} {E : En} (h : EnB w T t E) (F : En) : EnB (putE w T F) T t F := by
 unfold EnB putE at *
 simp only [World.setCell,Array.getElem?_modify,h]
 simp
theorem EnB.set3 {w : World} {T : Nat} {t : TypeId} {E : En} (h : EnB w T t E) (x : ByteArray) : EnB (w.setCell ⟨T, 3,none⟩ (.string x)) T t ⟨E.key,E.st,E.lf,x⟩ := by
 unfold EnB at *
 simp only [World.setCell,Array.getElem?_modify,h]
 simp
theorem EnB.far {w : World} {T T' : Nat} {t : TypeId} {E : En} (h : EnB w T t E) (hn : T ≠ T') (i : Nat) (u : Value) : EnB (w.setCell ⟨T',i,none⟩ u) T t E := by
 unfold EnB at *
 rw [Below.heap_setCell _ _ _ _ (by exact hn)]
 exact h
set_option maxHeartbeats 1000000 in
theorem szEntry_any (w : World) (k b : ByteArray) (s l : Int) (left : Int) (h0 : 0 ≤ left) (h1 : left ≤ 1048576) (hn : k.size ≤ maxLen) (ht : b.size ≤ maxLen) :
  Calls Tryz.prog 13 #[.agg #[.string k,.int .i64 s,.int .i64 l,.string b],.int .i64 left] w fun e w' => ∃ r : Int,e = .returned (.int .i64 r) ∧ (r = -1 ∨ 0 ≤ r ∧ r + ((k.size + b.size : Nat) : Int) = left) ∧ Below w.heap.size w w' := by
 unfold maxLen at hn ht
 have hb := (Below.refl w.heap.size w).alloc (Nat.le_refl _) (.cells #[.string k,.int .i64 s,.int .i64 l,.string b] 44)
 by_cases hA : left - k.size < 0
 ·go_enter Tryz.func13,Tryz.ntmps13
  go_wp2
  go_ret
  exact ⟨_,rfl,.inl rfl,hb⟩
 ·by_cases hB : left - k.size - b.size < 0
  ·go_enter Tryz.func13,Tryz.ntmps13
   go_wp2
   go_ret
   exact ⟨_,rfl,.inl rfl,hb⟩
  ·go_enter Tryz.func13,Tryz.ntmps13
   go_wp2
   go_ret
   exact ⟨_,rfl,.inr ⟨by omega,by omega⟩,hb⟩
theorem toEntry_any (w : World) (k b : ByteArray) (s l : Int) :
  Calls Tryz.prog 18 #[.agg #[.string k,.int .i64 s,.int .i64 l,.string b]] w fun e w' => e = .returned (.agg #[.string k,.int .i64 s,.int .i64 l,.string b]) ∧ Below w.heap.size w w' := by
 go_enter Tryz.func18,Tryz.ntmps18
 go_wp2
 refine bodyPost_ret (v := .agg #[.string k,.int .i64 s,.int .i64 l,.string b]) (by simp [results,Tryz.results18,go_sem]) rfl ⟨rfl, ?_⟩
 exact (((Below.refl w.heap.size w).alloc (Nat.le_refl _) _).alloc (by simp) _).alloc (by simp; omega) _
theorem eqEntry_same (w : World) (k b : ByteArray) (s l : Int) :
  Calls Tryz.prog 26 #[.agg #[.string k,.int .i64 s,.int .i64 l,.string b],.agg #[.string k,.int .i64 s,.int .i64 l,.string b]] w fun e w' => e = .returned (.bool true) ∧ Below w.heap.size w w' := by
 go_enter Tryz.func26,Tryz.ntmps26
 go_wp2
 go_ret
 exact ⟨rfl,((Below.refl w.heap.size w).alloc (Nat.le_refl _) _).alloc (by simp) _⟩
end Go.Proofs.YthfjfccdelbkhaaGreatDoor
