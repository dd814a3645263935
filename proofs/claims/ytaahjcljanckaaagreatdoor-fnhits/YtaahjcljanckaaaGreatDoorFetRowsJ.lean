/- Texts that stand in one: FetRows, CliRows. -/
import Derived.Test.YtaahjcljanckaaaGreatDoorFilesJ
namespace Go.Proofs.YtaahjcljanckaaaGreatDoor
open Go.RowKit
structure Fet where
 key : ByteArray
 tx : ByteArray
 st : Int
 lf : Int
 sto : Int
def zFet : Fet := ⟨⟨#[]⟩,⟨#[]⟩, 0, 0, 0⟩
def Fet.cells (f : Fet) : List Value := [.string f.key,.string f.tx,.int .i64 f.st,.int .i64 f.lf,.int .i64 f.sto]
def Fet.wg (f : Fet) : Nat := f.key.size + f.tx.size
def Fet.Sized (f : Fet) : Prop := (f.key.size ≤ maxLen ∧ f.tx.size ≤ maxLen) ∧ (Lit.int .i64 f.st).wf = true ∧ (Lit.int .i64 f.lf).wf = true ∧ (Lit.int .i64 f.sto).wf = true
def ftl (L : List Fet) : List Value := L.flatMap Fet.cells
theorem ftl_length (L : List Fet) : (ftl L).length = L.length * 5 := by
 induction L with
 | nil => rfl
 | cons f L ih => simp [ftl,Fet.cells] at *; omega
theorem ftl_cons (f : Fet) (L : List Fet) : ftl (f :: L) = f.cells ++ ftl L := by simp [ftl]
theorem ftl_append (L M : List Fet) : ftl (L ++ M) = ftl L ++ ftl M := by simp [ftl]
theorem ftl_at : ∀ (L : List Fet) (j : Nat) (h : j < L.length),(ftl L)[5 * j]? = some (.string L[j].key) ∧ (ftl L)[5 * j + 1]? = some (.string L[j].tx) ∧ (ftl L)[5 * j + 2]? = some (.int .i64 L[j].st) ∧ (ftl L)[5 * j + 3]? = some (.int .i64 L[j].lf) ∧ (ftl L)[5 * j + 4]? = some (.int .i64 L[j].sto)
 | [],j,h => by simp at h
 | f :: L, 0,h => by simp [ftl_cons,Fet.cells]
 | f :: L,j + 1,h => by
  have ih := ftl_at L j (by simpa using h)
  have e : ∀ k, 5 * (j + 1) + k = (5 * j + k) + 5 := fun k => by omega
  rw [ftl_cons]
  refine ⟨?_, ?_, ?_, ?_, ?_⟩
  ·rw [show 5 * (j + 1) = 5 * j + 5 by omega]; simpa [Fet.cells] using ih.1
  ·rw [e 1]; simpa [Fet.cells] using ih.2.1
  ·rw [e 2]; simpa [Fet.cells] using ih.2.2.1
  ·rw [e 3]; simpa [Fet.cells] using ih.2.2.2.1
  ·rw [e 4]; simpa [Fet.cells] using ih.2.2.2.2
theorem ftl_set : ∀ (L : List Fet) (j : Nat) (f : Fet),((((((ftl L).set (j * 5) (.string f.key)).set (j * 5 + 1) (.string f.tx)).set (j * 5 + 2) (.int .i64 f.st)).set (j * 5 + 3) (.int .i64 f.lf)).set (j * 5 + 4) (.int .i64 f.sto)) = ftl (L.set j f)
 | [],j,f => by simp [ftl]
 | g :: L, 0,f => by simp [ftl_cons,Fet.cells]
 | g :: L,j + 1,f => by
  have ih := ftl_set L j f
  rw [show (j + 1) * 5 = j * 5 + 1 + 1 + 1 + 1 + 1 by omega,ftl_cons,List.set_cons_succ,ftl_cons, ← ih]
  simp [Fet.cells]
def FetAt (w : World) (a : Option Addr) (L : List Fet) (B : Nat) : Prop :=
 ∀ j (hj : j < L.length), ∃ g off,a = some ⟨g,off,none⟩ ∧ g < B ∧ w.cell? ⟨g,off + j * 5,none⟩ = some (.string L[j].key) ∧ w.cell? ⟨g,off + j * 5 + 1,none⟩ = some (.string L[j].tx) ∧ w.cell? ⟨g,off + j * 5 + 2,none⟩ = some (.int .i64 L[j].st) ∧ w.cell? ⟨g,off + j * 5 + 3,none⟩ = some (.int .i64 L[j].lf) ∧ w.cell? ⟨g,off + j * 5 + 4,none⟩ = some (.int .i64 L[j].sto)
theorem FetAt.below {w w' : World} {a : Option Addr} {L : List Fet} {B B' : Nat} (h : FetAt w a L B) (hb : Below B' w w') (hB : B ≤ B') : FetAt w' a L B := by
 intro j hj
 obtain ⟨g,off,ha,hg,h0,h1,h2,h3,h4⟩ := h j hj
 have hl := Nat.lt_of_lt_of_le hg hB
 exact ⟨g,off,ha,hg,(hb.cell hl).trans h0,(hb.cell hl).trans h1,(hb.cell hl).trans h2,(hb.cell hl).trans h3,(hb.cell hl).trans h4⟩
theorem FetAt.mono {w : World} {a : Option Addr} {L : List Fet} {B B' : Nat} (h : FetAt w a L B) (hB : B ≤ B') : FetAt w a L B' := by
 intro j hj
 obtain ⟨g,off,ha,hg,r⟩ := h j hj
 exact ⟨g,off,ha,Nat.lt_of_lt_of_le hg hB,r⟩
theorem FetAt.on {w w' : World} {a : Option Addr} {L : List Fet} (h : FetAt w a L w.heap.size) (hb : Below w.heap.size w w') : FetAt w' a L w'.heap.size := (h.below hb (Nat.le_refl _)).mono hb.size
def OwnFet (w : World) (base : Nat) (e : TypeId) (v : Value) (L : List Fet) : Prop := w.ownsRow base e 5 v L.length (ftl L)
theorem OwnFet.lt {w : World} {base : Nat} {e : TypeId} {v : Value} {L : List Fet} (h : OwnFet w base e v L) (k : Nat) (hk : v.ownBlock = some k) : base ≤ k ∧ k < w.heap.size := World.ownsRow.lt h k hk
theorem OwnFet.mono {w : World} {base base' : Nat} {e : TypeId} {v : Value} {L : List Fet} (h : OwnFet w base e v L) (hb : base' ≤ base) : OwnFet w base' e v L := by
 refine ⟨h.1, ?_⟩
 rcases h.2 with h | ⟨g,cap,cur,hv,hg,rest⟩
 ·exact .inl h
 ·exact .inr ⟨g,cap,cur,hv,Nat.le_trans hb hg,rest⟩
theorem OwnFet.kept {w w' : World} {base : Nat} {e : TypeId} {v : Value} {L : List Fet} (h : OwnFet w base e v L) (hk : ∀ k,v.ownBlock = some k → w'.heap[k]? = w.heap[k]?) : OwnFet w' base e v L := by
 refine ⟨h.1, ?_⟩
 rcases h.2 with hn | ⟨g,cap,cur,rfl,hb,hg,rest⟩
 ·exact .inl hn
 ·exact .inr ⟨g,cap,cur,rfl,hb,by rw [hk g rfl]; exact hg,rest⟩
theorem OwnFet.below {w w' : World} {B base : Nat} {e : TypeId} {v : Value} {L : List Fet} (h : OwnFet w base e v L) (hb : Below B w w') (hB : w.heap.size ≤ B) : OwnFet w' base e v L :=
 h.kept fun k hk => hb.block k (Nat.lt_of_lt_of_le (h.lt k hk).2 hB)
theorem OwnFet.grown {w w' : World} {row : Option Nat} {base : Nat} {e : TypeId} {v : Value} {L : List Fet} (h : OwnFet w base e v L) (hb : w.grownBy w' row) (hne : ∀ k,v.ownBlock = some k → row ≠ some k) : OwnFet w' base e v L :=
 h.kept fun k hk => hb.block k (h.lt k hk).2 (fun e => hne k hk e.symm)
theorem OwnFet.type {w : World} {base : Nat} {e : TypeId} {v : Value} {L : List Fet} (h : OwnFet w base e v L) : ∀ k,v.ownBlock = some k → ∃ cs,w.heap[k]? = some (.cells cs e (0, 0)) := by
 intro k hk
 rcases h.2 with ⟨rfl,_⟩ | ⟨g,cap,cur,rfl,_,hg,_⟩
 ·simp [Value.ownBlock] at hk
 ·simp [Value.ownBlock] at hk
  subst hk
  exact ⟨_,hg⟩
theorem OwnFet.nil (w : World) (base : Nat) (e : TypeId) : OwnFet w base e (.slice none 0 0) [] := ⟨rfl,.inl ⟨rfl,rfl⟩⟩
theorem OwnFet.at {w : World} {base : Nat} {e : TypeId} {v : Value} {L : List Fet} (h : OwnFet w base e v L) : ∃ a cap,v = .slice a L.length cap ∧ FetAt w a L w.heap.size := by
 have h0 := h
 rcases h.2 with ⟨rfl,hn⟩ | ⟨g,cap,cur,rfl,hb,hg,h1,h2,h3,h4⟩
 ·have hx : L = [] := List.length_eq_zero_iff.1 hn
  subst hx
  exact ⟨none, 0,rfl,fun j hj => by simp at hj⟩
 ·have hgs := (Array.getElem?_eq_some_iff.1 hg).1
  refine ⟨_,_,rfl,fun j hj => ⟨g, 0,rfl,hgs, ?_⟩⟩
  have := ftl_at L j hj
  rw [World.ownsRow.cellAt h0 (0 + j * 5) (by omega),World.ownsRow.cellAt h0 (0 + j * 5 + 1) (by omega),World.ownsRow.cellAt h0 (0 + j * 5 + 2) (by omega),World.ownsRow.cellAt h0 (0 + j * 5 + 3) (by omega),World.ownsRow.cellAt h0 (0 + j * 5 + 4) (by omega)]
  rw [show 0 + j * 5 = 5 * j by omega]
  exact this
theorem row5_addr {w : World} {base : Nat} {e : TypeId} {a : Option Addr} {n cap : Nat} {xs : List Value} (h : w.ownsRow base e 5 (.slice a n cap) n xs) (hne : 0 < n) : ∃ g,a = some ⟨g, 0,none⟩ ∧ g < w.heap.size ∧ base ≤ g := by
 rcases h.2 with ⟨_,hn⟩ | ⟨g,cap',cur,hv,hb,hg,_⟩
 ·omega
 ·simp only [Value.slice.injEq] at hv
  exact ⟨g,hv.1,(Array.getElem?_eq_some_iff.1 hg).1,hb⟩
theorem row5_stored {w : World} {base : Nat} {e : TypeId} {g n cap : Nat} {xs : List Value} (h : w.ownsRow base e 5 (.slice (some ⟨g, 0,none⟩) n cap) n xs) (i : Nat) (u : Value) :
  (w.setCell ⟨g,i,none⟩ u).ownsRow base e 5 (.slice (some ⟨g, 0,none⟩) n cap) n (xs.set i u) ∧ w.grownBy (w.setCell ⟨g,i,none⟩ u) (some g) := World.ownsRow.stored h i u
theorem OwnFet.stored {w : World} {base : Nat} {e : TypeId} {g n cap : Nat} {L : List Fet} (h : OwnFet w base e (.slice (some ⟨g, 0,none⟩) n cap) L) (hn : n = L.length) (j : Nat) (f : Fet) :
  OwnFet (((((w.setCell ⟨g,j * 5,none⟩ (.string f.key)).setCell ⟨g,j * 5 + 1,none⟩ (.string f.tx)).setCell ⟨g,j * 5 + 2,none⟩ (.int .i64 f.st)).setCell ⟨g,j * 5 + 3,none⟩ (.int .i64 f.lf)).setCell ⟨g,j * 5 + 4,none⟩ (.int .i64 f.sto)) base e (.slice (some ⟨g, 0,none⟩) n cap) (L.set j f) ∧
   w.grownBy (((((w.setCell ⟨g,j * 5,none⟩ (.string f.key)).setCell ⟨g,j * 5 + 1,none⟩ (.string f.tx)).setCell ⟨g,j * 5 + 2,none⟩ (.int .i64 f.st)).setCell ⟨g,j * 5 + 3,none⟩ (.int .i64 f.lf)).setCell ⟨g,j * 5 + 4,none⟩ (.int .i64 f.sto)) (some g) := by
 subst hn
 have h1 := World.ownsRow.stored h (j * 5) (.string f.key)
 have h2 := World.ownsRow.stored h1.1 (j * 5 + 1) (.string f.tx)
 have h3 := World.ownsRow.stored h2.1 (j * 5 + 2) (.int .i64 f.st)
 have h4 := World.ownsRow.stored h3.1 (j * 5 + 3) (.int .i64 f.lf)
 have h5 := World.ownsRow.stored h4.1 (j * 5 + 4) (.int .i64 f.sto)
 rw [ftl_set] at h5
 refine ⟨?_,(grownBy_trans h1.2 (grownBy_trans h2.2 (grownBy_trans h3.2 (grownBy_trans h4.2 h5.2))))⟩
 unfold OwnFet
 rw [List.length_set]
 exact h5.1
def ftwg : List Fet → Nat
 | [] => 0
 | f :: L => f.wg + ftwg L
theorem ftwg_append : ∀ (L M : List Fet),ftwg (L ++ M) = ftwg L + ftwg M
 | [],M => by simp [ftwg]
 | f :: L,M => by simp [ftwg,ftwg_append L M]; omega
theorem ftwg_take_succ (L : List Fet) (k : Nat) (h : k < L.length) : ftwg (L.take (k + 1)) = ftwg (L.take k) + L[k].wg := by
 rw [List.take_succ_eq_append_getElem h,ftwg_append]; simp [ftwg]
theorem ftwg_mem {L : List Fet} {j : Nat} (h : j < L.length) : L[j].wg ≤ ftwg L := by
 have h1 := ftwg_take_succ L j h
 have h2 := ftwg_append (L.take (j + 1)) (L.drop (j + 1))
 rw [List.take_append_drop] at h2
 omega
def SizedFet (L : List Fet) : Prop := ∀ j (hj : j < L.length),L[j].Sized
structure Cli where
 id : Int
 key : ByteArray
 fe : Int
 fr : Int
 st : Int
 got : ByteArray
 ag : Int
def zCli : Cli := ⟨0,⟨#[]⟩, 0, 0, 0,⟨#[]⟩, 0⟩
def Cli.cells (f : Cli) : List Value := [.int .i64 f.id,.string f.key,.int .i64 f.fe,.int .i64 f.fr,.int .i64 f.st,.string f.got,.int .i64 f.ag]
def Cli.wg (f : Cli) : Nat := f.key.size + f.got.size
def Cli.Sized (f : Cli) : Prop := (f.key.size ≤ maxLen ∧ f.got.size ≤ maxLen) ∧ (Lit.int .i64 f.id).wf = true ∧ (Lit.int .i64 f.fe).wf = true ∧ (Lit.int .i64 f.fr).wf = true ∧ (Lit.int .i64 f.st).wf = true ∧ (Lit.int .i64 f.ag).wf = true
def cltl (L : List Cli) : List Value := L.flatMap Cli.cells
theorem cltl_length (L : List Cli) : (cltl L).length = L.length * 7 := by
 induction L with
 | nil => rfl
 | cons f L ih => simp [cltl,Cli.cells] at *; omega
theorem cltl_cons (f : Cli) (L : List Cli) : cltl (f :: L) = f.cells ++ cltl L := by simp [cltl]
theorem cltl_append (L M : List Cli) : cltl (L ++ M) = cltl L ++ cltl M := by simp [cltl]
theorem cltl_at : ∀ (L : List Cli) (j : Nat) (h : j < L.length),(cltl L)[7 * j]? = some (.int .i64 L[j].id) ∧ (cltl L)[7 * j + 1]? = some (.string L[j].key) ∧ (cltl L)[7 * j + 2]? = some (.int .i64 L[j].fe) ∧ (cltl L)[7 * j + 3]? = some (.int .i64 L[j].fr) ∧ (cltl L)[7 * j + 4]? = some (.int .i64 L[j].st) ∧ (cltl L)[7 * j + 5]? = some (.string L[j].got) ∧ (cltl L)[7 * j + 6]? = some (.int .i64 L[j].ag)
 | [],j,h => by simp at h
 | f :: L, 0,h => by simp [cltl_cons,Cli.cells]
 | f :: L,j + 1,h => by
  have ih := cltl_at L j (by simpa using h)
  have e : ∀ k, 7 * (j + 1) + k = (7 * j + k) + 7 := fun k => by omega
  rw [cltl_cons]
  refine ⟨?_, ?_, ?_, ?_, ?_, ?_, ?_⟩
  ·rw [show 7 * (j + 1) = 7 * j + 7 by omega]; simpa [Cli.cells] using ih.1
  ·rw [e 1]; simpa [Cli.cells] using ih.2.1
  ·rw [e 2]; simpa [Cli.cells] using ih.2.2.1
  ·rw [e 3]; simpa [Cli.cells] using ih.2.2.2.1
  ·rw [e 4]; simpa [Cli.cells] using ih.2.2.2.2.1
  ·rw [e 5]; simpa [Cli.cells] using ih.2.2.2.2.2.1
  ·rw [e 6]; simpa [Cli.cells] using ih.2.2.2.2.2.2
theorem cltl_set : ∀ (L : List Cli) (j : Nat) (f : Cli),((((((((cltl L).set (j * 7) (.int .i64 f.id)).set (j * 7 + 1) (.string f.key)).set (j * 7 + 2) (.int .i64 f.fe)).set (j * 7 + 3) (.int .i64 f.fr)).set (j * 7 + 4) (.int .i64 f.st)).set (j * 7 + 5) (.string f.got)).set (j * 7 + 6) (.int .i64 f.ag)) = cltl (L.set j f)
 | [],j,f => by simp [cltl]
 | g :: L, 0,f => by simp [cltl_cons,Cli.cells]
 | g :: L,j + 1,f => by
  have ih := cltl_set L j f
  rw [show (j + 1) * 7 = j * 7 + 1 + 1 + 1 + 1 + 1 + 1 + 1 by omega,cltl_cons,List.set_cons_succ,cltl_cons, ← ih]
  simp [Cli.cells]
def CliAt (w : World) (a : Option Addr) (L : List Cli) (B : Nat) : Prop :=
 ∀ j (hj : j < L.length), ∃ g off,a = some ⟨g,off,none⟩ ∧ g < B ∧ w.cell? ⟨g,off + j * 7,none⟩ = some (.int .i64 L[j].id) ∧ w.cell? ⟨g,off + j * 7 + 1,none⟩ = some (.string L[j].key) ∧ w.cell? ⟨g,off + j * 7 + 2,none⟩ = some (.int .i64 L[j].fe) ∧ w.cell? ⟨g,off + j * 7 + 3,none⟩ = some (.int .i64 L[j].fr) ∧ w.cell? ⟨g,off + j * 7 + 4,none⟩ = some (.int .i64 L[j].st) ∧ w.cell? ⟨g,off + j * 7 + 5,none⟩ = some (.string L[j].got) ∧ w.cell? ⟨g,off + j * 7 + 6,none⟩ = some (.int .i64 L[j].ag)
theorem CliAt.below {w w' : World} {a : Option Addr} {L : List Cli} {B B' : Nat} (h : CliAt w a L B) (hb : Below B' w w') (hB : B ≤ B') : CliAt w' a L B := by
 intro j hj
 obtain ⟨g,off,ha,hg,h0,h1,h2,h3,h4,h5,h6⟩ := h j hj
 have hl := Nat.lt_of_lt_of_le hg hB
 exact ⟨g,off,ha,hg,(hb.cell hl).trans h0,(hb.cell hl).trans h1,(hb.cell hl).trans h2,(hb.cell hl).trans h3,(hb.cell hl).trans h4,(hb.cell hl).trans h5,(hb.cell hl).trans h6⟩
theorem CliAt.mono {w : World} {a : Option Addr} {L : List Cli} {B B' : Nat} (h : CliAt w a L B) (hB : B ≤ B') : CliAt w a L B' := by
 intro j hj
 obtain ⟨g,off,ha,hg,r⟩ := h j hj
 exact ⟨g,off,ha,Nat.lt_of_lt_of_le hg hB,r⟩
theorem CliAt.on {w w' : World} {a : Option Addr} {L : List Cli} (h : CliAt w a L w.heap.size) (hb : Below w.heap.size w w') : CliAt w' a L w'.heap.size := (h.below hb (Nat.le_refl _)).mono hb.size
def OwnCli (w : World) (base : Nat) (e : TypeId) (v : Value) (L : List Cli) : Prop := w.ownsRow base e 7 v L.length (cltl L)
theorem OwnCli.lt {w : World} {base : Nat} {e : TypeId} {v : Value} {L : List Cli} (h : OwnCli w base e v L) (k : Nat) (hk : v.ownBlock = some k) : base ≤ k ∧ k < w.heap.size := World.ownsRow.lt h k hk
theorem OwnCli.mono {w : World} {base base' : Nat} {e : TypeId} {v : Value} {L : List Cli} (h : OwnCli w base e v L) (hb : base' ≤ base) : OwnCli w base' e v L := by
 refine ⟨h.1, ?_⟩
 rcases h.2 with h | ⟨g,cap,cur,hv,hg,rest⟩
 ·exact .inl h
 ·exact .inr ⟨g,cap,cur,hv,Nat.le_trans hb hg,rest⟩
theorem OwnCli.kept {w w' : World} {base : Nat} {e : TypeId} {v : Value} {L : List Cli} (h : OwnCli w base e v L) (hk : ∀ k,v.ownBlock = some k → w'.heap[k]? = w.heap[k]?) : OwnCli w' base e v L := by
 refine ⟨h.1, ?_⟩
 rcases h.2 with hn | ⟨g,cap,cur,rfl,hb,hg,rest⟩
 ·exact .inl hn
 ·exact .inr ⟨g,cap,cur,rfl,hb,by rw [hk g rfl]; exact hg,rest⟩
theorem OwnCli.below {w w' : World} {B base : Nat} {e : TypeId} {v : Value} {L : List Cli} (h : OwnCli w base e v L) (hb : Below B w w') (hB : w.heap.size ≤ B) : OwnCli w' base e v L :=
 h.kept fun k hk => hb.block k (Nat.lt_of_lt_of_le (h.lt k hk).2 hB)
theorem OwnCli.grown {w w' : World} {row : Option Nat} {base : Nat} {e : TypeId} {v : Value} {L : List Cli} (h : OwnCli w base e v L) (hb : w.grownBy w' row) (hne : ∀ k,v.ownBlock = some k → row ≠ some k) : OwnCli w' base e v L :=
 h.kept fun k hk => hb.block k (h.lt k hk).2 (fun e => hne k hk e.symm)
theorem OwnCli.type {w : World} {base : Nat} {e : TypeId} {v : Value} {L : List Cli} (h : OwnCli w base e v L) : ∀ k,v.ownBlock = some k → ∃ cs,w.heap[k]? = some (.cells cs e (0, 0)) := by
 intro k hk
 rcases h.2 with ⟨rfl,_⟩ | ⟨g,cap,cur,rfl,_,hg,_⟩
 ·simp [Value.ownBlock] at hk
 ·simp [Value.ownBlock] at hk
  subst hk
  exact ⟨_,hg⟩
theorem OwnCli.nil (w : World) (base : Nat) (e : TypeId) : OwnCli w base e (.slice none 0 0) [] := ⟨rfl,.inl ⟨rfl,rfl⟩⟩
theorem OwnCli.at {w : World} {base : Nat} {e : TypeId} {v : Value} {L : List Cli} (h : OwnCli w base e v L) : ∃ a cap,v = .slice a L.length cap ∧ CliAt w a L w.heap.size := by
 have h0 := h
 rcases h.2 with ⟨rfl,hn⟩ | ⟨g,cap,cur,rfl,hb,hg,h1,h2,h3,h4⟩
 ·have hx : L = [] := List.length_eq_zero_iff.1 hn
  subst hx
  exact ⟨none, 0,rfl,fun j hj => by simp at hj⟩
 ·have hgs := (Array.getElem?_eq_some_iff.1 hg).1
  refine ⟨_,_,rfl,fun j hj => ⟨g, 0,rfl,hgs, ?_⟩⟩
  have := cltl_at L j hj
  rw [World.ownsRow.cellAt h0 (0 + j * 7) (by omega),World.ownsRow.cellAt h0 (0 + j * 7 + 1) (by omega),World.ownsRow.cellAt h0 (0 + j * 7 + 2) (by omega),World.ownsRow.cellAt h0 (0 + j * 7 + 3) (by omega),World.ownsRow.cellAt h0 (0 + j * 7 + 4) (by omega),World.ownsRow.cellAt h0 (0 + j * 7 + 5) (by omega),World.ownsRow.cellAt h0 (0 + j * 7 + 6) (by omega)]
  rw [show 0 + j * 7 = 7 * j by omega]
  exact this
theorem row7_addr {w : World} {base : Nat} {e : TypeId} {a : Option Addr} {n cap : Nat} {xs : List Value} (h : w.ownsRow base e 7 (.slice a n cap) n xs) (hne : 0 < n) : ∃ g,a = some ⟨g, 0,none⟩ ∧ g < w.heap.size ∧ base ≤ g := by
 rcases h.2 with ⟨_,hn⟩ | ⟨g,cap',cur,hv,hb,hg,_⟩
 ·omega
 ·simp only [Value.slice.injEq] at hv
  exact ⟨g,hv.1,(Array.getElem?_eq_some_iff.1 hg).1,hb⟩
theorem row7_stored {w : World} {base : Nat} {e : TypeId} {g n cap : Nat} {xs : List Value} (h : w.ownsRow base e 7 (.slice (some ⟨g, 0,none⟩) n cap) n xs) (i : Nat) (u : Value) :
  (w.setCell ⟨g,i,none⟩ u).ownsRow base e 7 (.slice (some ⟨g, 0,none⟩) n cap) n (xs.set i u) ∧ w.grownBy (w.setCell ⟨g,i,none⟩ u) (some g) := World.ownsRow.stored h i u
theorem OwnCli.stored {w : World} {base : Nat} {e : TypeId} {g n cap : Nat} {L : List Cli} (h : OwnCli w base e (.slice (some ⟨g, 0,none⟩) n cap) L) (hn : n = L.length) (j : Nat) (f : Cli) :
  OwnCli (((((((w.setCell ⟨g,j * 7,none⟩ (.int .i64 f.id)).setCell ⟨g,j * 7 + 1,none⟩ (.string f.key)).setCell ⟨g,j * 7 + 2,none⟩ (.int .i64 f.fe)).setCell ⟨g,j * 7 + 3,none⟩ (.int .i64 f.fr)).setCell ⟨g,j * 7 + 4,none⟩ (.int .i64 f.st)).setCell ⟨g,j * 7 + 5,none⟩ (.string f.got)).setCell ⟨g,j * 7 + 6,none⟩ (.int .i64 f.ag)) base e (.slice (some ⟨g, 0,none⟩) n cap) (L.set j f) ∧
   w.grownBy (((((((w.setCell ⟨g,j * 7,none⟩ (.int .i64 f.id)).setCell ⟨g,j * 7 + 1,none⟩ (.string f.key)).setCell ⟨g,j * 7 + 2,none⟩ (.int .i64 f.fe)).setCell ⟨g,j * 7 + 3,none⟩ (.int .i64 f.fr)).setCell ⟨g,j * 7 + 4,none⟩ (.int .i64 f.st)).setCell ⟨g,j * 7 + 5,none⟩ (.string f.got)).setCell ⟨g,j * 7 + 6,none⟩ (.int .i64 f.ag)) (some g) := by
 subst hn
 have h1 := World.ownsRow.stored h (j * 7) (.int .i64 f.id)
 have h2 := World.ownsRow.stored h1.1 (j * 7 + 1) (.string f.key)
 have h3 := World.ownsRow.stored h2.1 (j * 7 + 2) (.int .i64 f.fe)
 have h4 := World.ownsRow.stored h3.1 (j * 7 + 3) (.int .i64 f.fr)
 have h5 := World.ownsRow.stored h4.1 (j * 7 + 4) (.int .i64 f.st)
 have h6 := World.ownsRow.stored h5.1 (j * 7 + 5) (.string f.got)
 have h7 := World.ownsRow.stored h6.1 (j * 7 + 6) (.int .i64 f.ag)
 rw [cltl_set] at h7
 refine ⟨?_,(grownBy_trans h1.2 (grownBy_trans h2.2 (grownBy_trans h3.2 (grownBy_trans h4.2 (grownBy_trans h5.2 (grownBy_trans h6.2 h7.2))))))⟩
 unfold OwnCli
 rw [List.length_set]
 exact h7.1
def clwg : List Cli → Nat
 | [] => 0
 | f :: L => f.wg + clwg L
theorem clwg_append : ∀ (L M : List Cli),clwg (L ++ M) = clwg L + clwg M
 | [],M => by simp [clwg]
 | f :: L,M => by simp [clwg,clwg_append L M]; omega
theorem clwg_take_succ (L : List Cli) (k : Nat) (h : k < L.length) : clwg (L.take (k + 1)) = clwg (L.take k) + L[k].wg := by
 rw [List.take_succ_eq_append_getElem h,clwg_append]; simp [clwg]
theorem clwg_mem {L : List Cli} {j : Nat} (h : j < L.length) : L[j].wg ≤ clwg L := by
 have h1 := clwg_take_succ L j h
 have h2 := clwg_append (L.take (j + 1)) (L.drop (j + 1))
 rw [List.take_append_drop] at h2
 omega
def SizedCli (L : List Cli) : Prop := ∀ j (hj : j < L.length),L[j].Sized
end Go.Proofs.YtaahjcljanckaaaGreatDoor
