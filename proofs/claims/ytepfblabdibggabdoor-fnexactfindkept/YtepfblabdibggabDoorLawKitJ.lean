/- Texts that stand in one: LawKit, EntFrame, DoPlain, ActLaw. -/
import Derived.Test.YtepfblabdibggabDoorFilesLaw
import Derived.Deep.RegionHeld3
import Derived.Test.YtepfblabdibggabDoorEntPlain
import Derived.Test.YtepfblabdibggabDoorSealPlainJ
import Derived.Test.YtepfblabdibggabDoorFolderPlain
import Derived.Test.YtepfblabdibggabDoorBaseJ
namespace Go.Proofs.YtepfblabdibggabDoor
open Go.RowKit Go.Sort

theorem FAt.on {w w' : World} {a : Option Addr} {L : List Fil} (h : FAt w a L w.heap.size) (hb : Below w.heap.size w w') : FAt w' a L w'.heap.size := (h.below hb (Nat.le_refl _)).mono hb.size
theorem bthen {a b c : World} (h : Below a.heap.size a b) (k : Below b.heap.size b c) : Below a.heap.size a c := h.trans (k.mono h.size)
theorem bplus {a b : World} (h : Below a.heap.size a b) (o : Obj) : Below a.heap.size a (b.alloc o) := h.alloc h.size o
theorem OwnF.at {w : World} {base : Nat} {e : TypeId} {v : Value} {L : List Fil} (h : OwnF w base e v L) : ∃ a cap, v = .slice a L.length cap ∧ FAt w a L w.heap.size := by
  obtain ⟨a, cap, hv, _, _, hA, _⟩ := h.shape
  exact ⟨a, cap, hv, hA⟩

/-- What is kept while a law compares what it handed in. -/
theorem kept2 {w0 w1 w2 : World} {p q : Addr} {u v : Value} (h : Below w0.heap.size w0 w1 ∧ w1.cell? p = some u ∧ w1.cell? q = some v) (hp : p.block < w0.heap.size) (hq : q.block < w0.heap.size) (hb : Below w1.heap.size w1 w2) :
    Below w0.heap.size w0 w2 ∧ w2.cell? p = some u ∧ w2.cell? q = some v :=
  ⟨bthen h.1 hb, (hb.cell (Nat.lt_of_lt_of_le hp h.1.size)).trans h.2.1, (hb.cell (Nat.lt_of_lt_of_le hq h.1.size)).trans h.2.2⟩
end Go.Proofs.YtepfblabdibggabDoor

namespace Go.Proofs.YtepfblabdibggabDoor
open Go.RowKit
/-- The frame of a right entry. -/
def enFr (E : En) : ByteArray := frAll (enAll E)
theorem enFr_size {E : En} (h : enOk E = true) : 5 ≤ (enFr E).size ∧ (enFr E).size ≤ 470 := by
  obtain ⟨h1, h2⟩ := enAll_size h
  have l := varF_length 8 (enAll E).size
  have p := varF_pos 8 (enAll E).size
  have e : (enFr E).size = (varF 8 (enAll E).size).length + 4 + (enAll E).size := by
    rw [← size_listE]
    unfold enFr frAll
    simp [four_length]
    have := size_listE (enAll E)
    omega
  omega
end Go.Proofs.YtepfblabdibggabDoor

namespace Go.Proofs.YtepfblabdibggabDoor
open Go.RowKit

structure Ac where
  kd : Int
  nm : ByteArray
  tx : ByteArray
  to : ByteArray
def Ac.val (a : Ac) : Value := .agg #[.int .i64 a.kd, .string a.nm, .string a.tx, .string a.to]

def isE (s : ByteArray) : Bool := s.toList.isEmpty
/-- A file of a name that is not there. -/
def newL (L : List Fil) (nm tx : ByteArray) : Option (List Fil) := if L.length ≠ 30 ∧ nOk nm = true ∧ tx.size ≤ 20000 then some (putL L ⟨nm, tx, 0⟩) else none
/-- A text behind a file's own. -/
def addL (L : List Fil) (f : Fil) (tx : ByteArray) : Option (List Fil) := if tx.size + f.tx.size ≤ 20000 then some (putL L ⟨f.nm, f.tx ++ tx, f.kp⟩) else none
/-- A file under another name. -/
def moveL (L : List Fil) (f : Fil) (to : ByteArray) : Option (List Fil) := if eqS to f.nm = false ∧ nOk to = true ∧ wholeF f = true then some (putL (woL L f.nm) ⟨to, f.tx, f.kp⟩) else none
/-- What an act leaves of files, if it may be done. -/
def doL (L : List Fil) (a : Ac) : Option (List Fil) :=
  if (isE a.tx = false ∧ a.kd ≠ 1) ∨ (isE a.to = false ∧ a.kd ≠ 3) then none
  else match L.find? (fun f => eqS f.nm a.nm) with
  | none => if a.kd = 1 then newL L a.nm a.tx else none
  | some f =>
    if a.kd = 1 then addL L f a.tx
    else if a.kd = 2 then some (putL L ⟨f.nm, f.tx, f.tx.size⟩)
    else if a.kd = 3 then moveL L f a.to
    else if a.kd = 4 then some (woL L f.nm)
    else none

/-- A file changed in its place is a file put in its place. -/
theorem edM_fst {M : List (Fil × Nat)} (hr : RiseM M) {f' : Fil} {p : Fil × Nat} (hp : p ∈ M) (hn : p.1.nm = f'.nm) : (edM M f').map (·.1) = putL (M.map (·.1)) f' := by
  have key : ∀ (L : List Fil), Rise L → (∃ f ∈ L, f.nm = f'.nm) → L.map (fun q => if eqS q.nm f'.nm then f' else q) = putL L f' := by
    intro L hL
    induction L with
    | nil => rintro ⟨f, hf, _⟩; simp at hf
    | cons q L ih =>
      rintro ⟨f, hf, hfn⟩
      unfold Rise at hL
      rw [List.pairwise_cons] at hL
      by_cases e : q.nm = f'.nm
      · have hq : ∀ r ∈ L, ltS f'.nm r.nm = true := fun r hr => e ▸ hL.1 r hr
        have h1 : L.filter (fun g => ltS g.nm f'.nm) = [] := by
          rw [List.filter_eq_nil_iff]
          intro r hr
          simp [ltS_asym (hq r hr)]
        have h2 : L.filter (fun g => !(ltS g.nm f'.nm || eqS g.nm f'.nm)) = L := by
          rw [List.filter_eq_self]
          intro r hr
          rw [gtS_iff]
          exact hq r hr
        have h3 : L.map (fun q => if eqS q.nm f'.nm then f' else q) = L := by
          conv => rhs; rw [← List.map_id L]
          refine List.map_congr_left fun r hr => ?_
          rw [if_neg]
          · rfl
          · rw [Bool.not_eq_true, eqS_ne]
            intro h
            have := hq r hr
            rw [h, ltS_irr] at this
            cases this
        simp only [List.map_cons, e, eqS_refl, if_true, h3, putL, List.filter_cons, ltS_irr, Bool.false_eq_true, if_false, h1, h2]
        simp
      · have hf2 : f ∈ L := by
          rcases List.mem_cons.1 hf with rfl | h
          · exact absurd hfn e
          · exact h
        have hlt : ltS q.nm f'.nm = true := hfn ▸ hL.1 f hf2
        have ih' := ih hL.2 ⟨f, hf2, hfn⟩
        have he : eqS q.nm f'.nm = false := eqS_ne.2 e
        simp only [List.map_cons, he, Bool.false_eq_true, if_false, ih', putL, List.filter_cons, hlt, if_true, Bool.true_or, Bool.not_true]
        simp
  rw [← key _ (riseM_fst.1 hr) ⟨p.1, List.mem_map.2 ⟨p, hp, rfl⟩, hn⟩]
  unfold edM
  rw [List.map_map, List.map_map]
  refine List.map_congr_left fun q _ => ?_
  simp only [Function.comp]
  split <;> rfl
end Go.Proofs.YtepfblabdibggabDoor

namespace Go.Proofs.YtepfblabdibggabDoor
open Go.RowKit Go.Sort

/-- How much an act weighs. -/
def Ac.wg (a : Ac) : Nat := a.nm.size + a.tx.size + a.to.size
def Ac.Sized (a : Ac) : Prop := a.nm.size ≤ maxLen ∧ a.tx.size ≤ maxLen ∧ a.to.size ≤ maxLen


end Go.Proofs.YtepfblabdibggabDoor
