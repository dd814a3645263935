/- Texts that stand in one: Files, EnRows, EnPlus. -/
import Derived.Test.YtaahjcljanckaaaGreatDoorSkBaseJ
import Derived.Test.YtaahjcljanckaaaGreatDoorReadPlainJ
import Derived.Deep.MidRow
namespace Go.Proofs.YtaahjcljanckaaaGreatDoor
open Go.RowKit
structure Fil where
 nm : ByteArray
 tx : ByteArray
 kp : Int
def Fil.cells (f : Fil) : List Value := [.string f.nm,.string f.tx,.int .i64 f.kp]
def En.cells (f : En) : List Value := [.string f.key,.int .i64 f.st,.int .i64 f.lf,.string f.bd]
def enl (L : List En) : List Value := L.flatMap En.cells
theorem enl_length (L : List En) : (enl L).length = L.length * 4 := by
 induction L with
 | nil => rfl
 | cons f L ih => simp [enl,En.cells] at *; omega
theorem enl_cons (f : En) (L : List En) : enl (f :: L) = f.cells ++ enl L := by simp [enl]
theorem enl_at : ∀ (L : List En) (j : Nat) (h : j < L.length),(enl L)[4 * j]? = some (.string L[j].key) ∧ (enl L)[4 * j + 1]? = some (.int .i64 L[j].st) ∧ (enl L)[4 * j + 2]? = some (.int .i64 L[j].lf) ∧ (enl L)[4 * j + 3]? = some (.string L[j].bd)
 | [],j,h => by simp at h
 | f :: L, 0,h => by simp [enl_cons,En.cells]
 | f :: L,j + 1,h => by
  have ih := enl_at L j (by simpa using h)
  have e : ∀ k, 4 * (j + 1) + k = (4 * j + k) + 4 := fun k => by omega
  rw [enl_cons]
  refine ⟨?_, ?_, ?_, ?_⟩
  ·rw [show 4 * (j + 1) = 4 * j + 4 by omega]; simpa [En.cells] using ih.1
  ·rw [e 1]; simpa [En.cells] using ih.2.1
  ·rw [e 2]; simpa [En.cells] using ih.2.2.1
  ·rw [e 3]; simpa [En.cells] using ih.2.2.2
theorem enl_set : ∀ (L : List En) (j : Nat) (f : En),((((enl L).set (j * 4) (.string f.key)).set (j * 4 + 1) (.int .i64 f.st)).set (j * 4 + 2) (.int .i64 f.lf)).set (j * 4 + 3) (.string f.bd) = enl (L.set j f)
 | [],j,f => by simp [enl]
 | g :: L, 0,f => by simp [enl_cons,En.cells]
 | g :: L,j + 1,f => by
  have ih := enl_set L j f
  rw [show (j + 1) * 4 = j * 4 + 1 + 1 + 1 + 1 by omega,enl_cons,List.set_cons_succ,enl_cons, ← ih]
  simp [En.cells]
def NAt (w : World) (a : Option Addr) (L : List En) (B : Nat) : Prop :=
 ∀ j (hj : j < L.length), ∃ g off,a = some ⟨g,off,none⟩ ∧ g < B ∧ w.cell? ⟨g,off + j * 4,none⟩ = some (.string L[j].key) ∧ w.cell? ⟨g,off + j * 4 + 1,none⟩ = some (.int .i64 L[j].st) ∧ w.cell? ⟨g,off + j * 4 + 2,none⟩ = some (.int .i64 L[j].lf) ∧ w.cell? ⟨g,off + j * 4 + 3,none⟩ = some (.string L[j].bd)
theorem NAt.below {w w' : World} {a : Option Addr} {L : List En} {B B' : Nat} (h : NAt w a L B) (hb : Below B' w w') (hB : B ≤ B') : NAt w' a L B := by
 intro j hj
 obtain ⟨g,off,ha,hg,h0,h1,h2,h3⟩ := h j hj
 have hl := Nat.lt_of_lt_of_le hg hB
 exact ⟨g,off,ha,hg,(hb.cell hl).trans h0,(hb.cell hl).trans h1,(hb.cell hl).trans h2,(hb.cell hl).trans h3⟩
theorem NAt.on {w w' : World} {a : Option Addr} {L : List En} (h : NAt w a L w.heap.size) (hb : Below w.heap.size w w') : NAt w' a L w'.heap.size := by
 intro j hj
 obtain ⟨g,off,ha,hg,r⟩ := (h.below hb (Nat.le_refl _)) j hj
 exact ⟨g,off,ha,Nat.lt_of_lt_of_le hg hb.size,r⟩
def OwnN (w : World) (base : Nat) (e : TypeId) (v : Value) (L : List En) : Prop := w.ownsRow base e 4 v L.length (enl L)
theorem OwnN.lt {w : World} {base : Nat} {e : TypeId} {v : Value} {L : List En} (h : OwnN w base e v L) (k : Nat) (hk : v.ownBlock = some k) : base ≤ k ∧ k < w.heap.size := World.ownsRow.lt h k hk
theorem OwnN.mono {w : World} {base base' : Nat} {e : TypeId} {v : Value} {L : List En} (h : OwnN w base e v L) (hb : base' ≤ base) : OwnN w base' e v L := by
 refine ⟨h.1, ?_⟩
 rcases h.2 with h | ⟨g,cap,cur,hv,hg,rest⟩
 ·exact .inl h
 ·exact .inr ⟨g,cap,cur,hv,Nat.le_trans hb hg,rest⟩
theorem OwnN.kept {w w' : World} {base : Nat} {e : TypeId} {v : Value} {L : List En} (h : OwnN w base e v L) (hk : ∀ k,v.ownBlock = some k → w'.heap[k]? = w.heap[k]?) : OwnN w' base e v L := by
 refine ⟨h.1, ?_⟩
 rcases h.2 with hn | ⟨g,cap,cur,rfl,hb,hg,rest⟩
 ·exact .inl hn
 ·exact .inr ⟨g,cap,cur,rfl,hb,by rw [hk g rfl]; exact hg,rest⟩
theorem OwnN.below {w w' : World} {B base : Nat} {e : TypeId} {v : Value} {L : List En} (h : OwnN w base e v L) (hb : Below B w w') (hB : w.heap.size ≤ B) : OwnN w' base e v L :=
 h.kept fun k hk => hb.block k (Nat.lt_of_lt_of_le (h.lt k hk).2 hB)
theorem OwnN.grown {w w' : World} {row : Option Nat} {base : Nat} {e : TypeId} {v : Value} {L : List En} (h : OwnN w base e v L) (hb : w.grownBy w' row) (hne : ∀ k,v.ownBlock = some k → row ≠ some k) : OwnN w' base e v L :=
 h.kept fun k hk => hb.block k (h.lt k hk).2 (fun e => hne k hk e.symm)
theorem OwnN.at {w : World} {base : Nat} {e : TypeId} {v : Value} {L : List En} (h : OwnN w base e v L) : ∃ a cap,v = .slice a L.length cap ∧ NAt w a L w.heap.size := by
 have h0 := h
 rcases h.2 with ⟨rfl,hn⟩ | ⟨g,cap,cur,rfl,hb,hg,h1,h2,h3,h4⟩
 ·have hx : L = [] := List.length_eq_zero_iff.1 hn
  subst hx
  exact ⟨none, 0,rfl,fun j hj => by simp at hj⟩
 ·have hgs := (Array.getElem?_eq_some_iff.1 hg).1
  refine ⟨_,_,rfl,fun j hj => ⟨g, 0,rfl,hgs, ?_⟩⟩
  have := enl_at L j hj
  rw [World.ownsRow.cellAt h0 (0 + j * 4) (by omega),World.ownsRow.cellAt h0 (0 + j * 4 + 1) (by omega),World.ownsRow.cellAt h0 (0 + j * 4 + 2) (by omega),World.ownsRow.cellAt h0 (0 + j * 4 + 3) (by omega)]
  rw [show 0 + j * 4 = 4 * j by omega]
  exact this
theorem OwnN.stored {w : World} {base : Nat} {e : TypeId} {g n cap : Nat} {L : List En} (h : OwnN w base e (.slice (some ⟨g, 0,none⟩) n cap) L) (hn : n = L.length) (j : Nat) (f : En) :
  OwnN ((((w.setCell ⟨g,j * 4,none⟩ (.string f.key)).setCell ⟨g,j * 4 + 1,none⟩ (.int .i64 f.st)).setCell ⟨g,j * 4 + 2,none⟩ (.int .i64 f.lf)).setCell ⟨g,j * 4 + 3,none⟩ (.string f.bd)) base e (.slice (some ⟨g, 0,none⟩) n cap) (L.set j f) ∧
   w.grownBy ((((w.setCell ⟨g,j * 4,none⟩ (.string f.key)).setCell ⟨g,j * 4 + 1,none⟩ (.int .i64 f.st)).setCell ⟨g,j * 4 + 2,none⟩ (.int .i64 f.lf)).setCell ⟨g,j * 4 + 3,none⟩ (.string f.bd)) (some g) := by
 subst hn
 have h1 := World.ownsRow.stored h (j * 4) (.string f.key)
 have h2 := World.ownsRow.stored h1.1 (j * 4 + 1) (.int .i64 f.st)
 have h3 := World.ownsRow.stored h2.1 (j * 4 + 2) (.int .i64 f.lf)
 have h4 := World.ownsRow.stored h3.1 (j * 4 + 3) (.string f.bd)
 rw [enl_set] at h4
 refine ⟨?_,grownBy_trans h1.2 (grownBy_trans h2.2 (grownBy_trans h3.2 h4.2))⟩
 unfold OwnN
 rw [List.length_set]
 exact h4.1
def ewg : List En → Nat
 | [] => 0
 | f :: L => f.wg + ewg L
theorem ewg_append : ∀ (L M : List En),ewg (L ++ M) = ewg L + ewg M
 | [],M => by simp [ewg]
 | f :: L,M => by simp [ewg,ewg_append L M]; omega
theorem ewg_take_succ (L : List En) (k : Nat) (h : k < L.length) : ewg (L.take (k + 1)) = ewg (L.take k) + L[k].wg := by
 rw [List.take_succ_eq_append_getElem h,ewg_append]; simp [ewg]
theorem ewg_mem {L : List En} {j : Nat} (h : j < L.length) : L[j].wg ≤ ewg L := by
 have h1 := ewg_take_succ L j h
 have h2 := ewg_append (L.take (j + 1)) (L.drop (j + 1))
 rw [List.take_append_drop] at h2
 omega
def SizedN (L : List En) : Prop := ∀ j (hj : j < L.length),L[j].Sized
theorem ownN_nil (w : World) (base : Nat) (e : TypeId) : OwnN w base e (.slice none 0 0) [] := World.ownsRow_nil _ _ _ _
theorem NAt.src {w : World} {ad : Addr} {l : List En} {B : Nat} (hI : NAt w (some ad) l B) : ∀ j u,(enl l)[j]? = some u → w.cell? (ad.add j) = some u := by
 intro j u hu
 obtain ⟨hj,_⟩ := List.getElem?_eq_some_iff.1 hu
 rw [enl_length] at hj
 obtain ⟨g,off,ha,_,h0,h1,h2,h3⟩ := hI (j / 4) (by omega)
 simp only [Option.some.injEq] at ha
 subst ha
 have hat := enl_at l (j / 4) (by omega)
 rw [Addr.add_mid]
 rcases (by omega : j % 4 = 0 ∨ j % 4 = 1 ∨ j % 4 = 2 ∨ j % 4 = 3) with h | h | h | h
 ·have e : j = 4 * (j / 4) := by omega
  rw [e,hat.1] at hu
  rw [show off + j = off + j / 4 * 4 by omega,h0]
  exact hu
 ·have e : j = 4 * (j / 4) + 1 := by omega
  rw [e,hat.2.1] at hu
  rw [show off + j = off + j / 4 * 4 + 1 by omega,h1]
  exact hu
 ·have e : j = 4 * (j / 4) + 2 := by omega
  rw [e,hat.2.2.1] at hu
  rw [show off + j = off + j / 4 * 4 + 2 by omega,h2]
  exact hu
 ·have e : j = 4 * (j / 4) + 3 := by omega
  rw [e,hat.2.2.2] at hu
  rw [show off + j = off + j / 4 * 4 + 3 by omega,h3]
  exact hu
theorem enl_one (l : List En) : ∀ v ∈ enl l,v.oneCell' = true := by
 intro v hv
 simp only [enl,List.mem_flatMap,En.cells] at hv
 obtain ⟨a,_,h⟩ := hv
 simp at h
 rcases h with rfl | rfl | rfl | rfl <;> rfl
end Go.Proofs.YtaahjcljanckaaaGreatDoor
