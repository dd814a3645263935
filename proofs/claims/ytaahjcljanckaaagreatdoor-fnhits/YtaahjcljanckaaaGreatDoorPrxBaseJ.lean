/- Texts that stand in one: PrxBase, FetPlus, CliPlus, FetLaw. -/
import Derived.Test.YtaahjcljanckaaaGreatDoorPolLaw2J
import Derived.Test.YtaahjcljanckaaaGreatDoorFilesJ
import Derived.Test.YtaahjcljanckaaaGreatDoorFetRowsJ
import Derived.Test.YtaahjcljanckaaaGreatDoorSkLaw3J
import Derived.Lib.QuietBelow
import Derived.BigQuiet
namespace Go.Proofs.YtaahjcljanckaaaGreatDoor
open Go.RowKit Go.Sort
structure Prx where
 now : Int
 ents : List En
 pol : Pol
 fes : List Fet
 cls : List Cli
 hits : Int
structure Pc where
 e : Value
 w : Value
 m : Value
 k : Value
 f : Value
 c : Value
def NB (w : World) (T : Nat) (t : TypeId) (a0 a1 a2 a3 a4 a5 a6 a7 a8 : Value) : Prop := w.heap[T]? = some (.cells #[a0,a1,a2,a3,a4,a5,a6,a7,a8] t (0, 0))
theorem NB.lt {w : World} {T : Nat} {t : TypeId} {a0 a1 a2 a3 a4 a5 a6 a7 a8 : Value} (h : NB w T t a0 a1 a2 a3 a4 a5 a6 a7 a8) : T < w.heap.size := (Array.getElem?_eq_some_iff.1 h).1
theorem NB.new (w : World) (t : TypeId) (a0 a1 a2 a3 a4 a5 a6 a7 a8 : Value) : NB (w.alloc (.cells #[a0,a1,a2,a3,a4,a5,a6,a7,a8] t)) w.heap.size t a0 a1 a2 a3 a4 a5 a6 a7 a8 := heap_alloc_new w _
theorem NB.kept {w w' : World} {T : Nat} {t : TypeId} {a0 a1 a2 a3 a4 a5 a6 a7 a8 : Value} (h : NB w T t a0 a1 a2 a3 a4 a5 a6 a7 a8) (hk : w'.heap[T]? = w.heap[T]?) : NB w' T t a0 a1 a2 a3 a4 a5 a6 a7 a8 := hk.trans h
theorem NB.on {w w' : World} {T : Nat} {t : TypeId} {a0 a1 a2 a3 a4 a5 a6 a7 a8 : Value} (h : NB w T t a0 a1 a2 a3 a4 a5 a6 a7 a8) (hb : Below w.heap.size w w') : NB w' T t a0 a1 a2 a3 a4 a5 a6 a7 a8 := h.kept (hb.block T h.lt)
theorem NB.thaw {w : World} {T : Nat} {t : TypeId} {a0 a1 a2 a3 a4 a5 a6 a7 a8 : Value} (h : NB w T t a0 a1 a2 a3 a4 a5 a6 a7 a8) (i : Nat) : w.frozen? ⟨T,i,none⟩ = false := by
 unfold NB at h
 simp [World.frozen?,h]
theorem NB.cells {w : World} {T : Nat} {t : TypeId} {a0 a1 a2 a3 a4 a5 a6 a7 a8 : Value} (h : NB w T t a0 a1 a2 a3 a4 a5 a6 a7 a8) : w.cell? ⟨T, 0,none⟩ = some a0 ∧ w.cell? ⟨T, 1,none⟩ = some a1 ∧ w.cell? ⟨T, 2,none⟩ = some a2 ∧ w.cell? ⟨T, 3,none⟩ = some a3 ∧ w.cell? ⟨T, 4,none⟩ = some a4 ∧ w.cell? ⟨T, 5,none⟩ = some a5 ∧ w.cell? ⟨T, 6,none⟩ = some a6 ∧ w.cell? ⟨T, 7,none⟩ = some a7 ∧ w.cell? ⟨T, 8,none⟩ = some a8 := by
 unfold NB at h
 refine ⟨?_, ?_, ?_, ?_, ?_, ?_, ?_, ?_, ?_⟩
 ·rw [cell_of_row w T 0 _ _ (0, 0) h]; rfl
 ·rw [cell_of_row w T 1 _ _ (0, 0) h]; rfl
 ·rw [cell_of_row w T 2 _ _ (0, 0) h]; rfl
 ·rw [cell_of_row w T 3 _ _ (0, 0) h]; rfl
 ·rw [cell_of_row w T 4 _ _ (0, 0) h]; rfl
 ·rw [cell_of_row w T 5 _ _ (0, 0) h]; rfl
 ·rw [cell_of_row w T 6 _ _ (0, 0) h]; rfl
 ·rw [cell_of_row w T 7 _ _ (0, 0) h]; rfl
 ·rw [cell_of_row w T 8 _ _ (0, 0) h]; rfl
theorem NB.set0 {w : World} {T : Nat} {t : TypeId} {a0 a1 a2 a3 a4 a5 a6 a7 a8 : Value} (h : NB w T t a0 a1 a2 a3 a4 a5 a6 a7 a8) (x : Value) : NB (w.setCell ⟨T, 0,none⟩ x) T t x a1 a2 a3 a4 a5 a6 a7 a8 := by
 unfold NB at *
 simp only [World.setCell,Array.getElem?_modify,h]
 simp
theorem NB.set1 {w : World} {T : Nat} {t : TypeId} {a0 a1 a2 a3 a4 a5 a6 a7 a8 : Value} (h : NB w T t a0 a1 a2 a3 a4 a5 a6 a7 a8) (x : Value) : NB (w.setCell ⟨T, 1,none⟩ x) T t a0 x a2 a3 a4 a5 a6 a7 a8 := by
 unfold NB at *
 simp only [World.setCell,Array.getElem?_modify,h]
 simp
theorem NB.set2 {w : World} {T : Nat} {t : TypeId} {a0 a1 a2 a3 a4 a5 a6 a7 a8 : Value} (h : NB w T t a0 a1 a2 a3 a4 a5 a6 a7 a8) (x : Value) : NB (w.setCell ⟨T, 2,none⟩ x) T t a0 a1 x a3 a4 a5 a6 a7 a8 := by
 unfold NB at *
 simp only [World.setCell,Array.getElem?_modify,h]
 simp
theorem NB.set3 {w : World} {T : Nat} {t : TypeId} {a0 a1 a2 a3 a4 a5 a6 a7 a8 : Value} (h : NB w T t a0 a1 a2 a3 a4 a5 a6 a7 a8) (x : Value) : NB (w.setCell ⟨T, 3,none⟩ x) T t a0 a1 a2 x a4 a5 a6 a7 a8 := by
 unfold NB at *
 simp only [World.setCell,Array.getElem?_modify,h]
 simp
theorem NB.set4 {w : World} {T : Nat} {t : TypeId} {a0 a1 a2 a3 a4 a5 a6 a7 a8 : Value} (h : NB w T t a0 a1 a2 a3 a4 a5 a6 a7 a8) (x : Value) : NB (w.setCell ⟨T, 4,none⟩ x) T t a0 a1 a2 a3 x a5 a6 a7 a8 := by
 unfold NB at *
 simp only [World.setCell,Array.getElem?_modify,h]
 simp
theorem NB.set5 {w : World} {T : Nat} {t : TypeId} {a0 a1 a2 a3 a4 a5 a6 a7 a8 : Value} (h : NB w T t a0 a1 a2 a3 a4 a5 a6 a7 a8) (x : Value) : NB (w.setCell ⟨T, 5,none⟩ x) T t a0 a1 a2 a3 a4 x a6 a7 a8 := by
 unfold NB at *
 simp only [World.setCell,Array.getElem?_modify,h]
 simp
theorem NB.set6 {w : World} {T : Nat} {t : TypeId} {a0 a1 a2 a3 a4 a5 a6 a7 a8 : Value} (h : NB w T t a0 a1 a2 a3 a4 a5 a6 a7 a8) (x : Value) : NB (w.setCell ⟨T, 6,none⟩ x) T t a0 a1 a2 a3 a4 a5 x a7 a8 := by
 unfold NB at *
 simp only [World.setCell,Array.getElem?_modify,h]
 simp
theorem NB.set7 {w : World} {T : Nat} {t : TypeId} {a0 a1 a2 a3 a4 a5 a6 a7 a8 : Value} (h : NB w T t a0 a1 a2 a3 a4 a5 a6 a7 a8) (x : Value) : NB (w.setCell ⟨T, 7,none⟩ x) T t a0 a1 a2 a3 a4 a5 a6 x a8 := by
 unfold NB at *
 simp only [World.setCell,Array.getElem?_modify,h]
 simp
theorem NB.set8 {w : World} {T : Nat} {t : TypeId} {a0 a1 a2 a3 a4 a5 a6 a7 a8 : Value} (h : NB w T t a0 a1 a2 a3 a4 a5 a6 a7 a8) (x : Value) : NB (w.setCell ⟨T, 8,none⟩ x) T t a0 a1 a2 a3 a4 a5 a6 a7 x := by
 unfold NB at *
 simp only [World.setCell,Array.getElem?_modify,h]
 simp
theorem NB.put {w : World} {T : Nat} {t : TypeId} {a0 a1 a2 a3 a4 a5 a6 a7 a8 : Value} (h : NB w T t a0 a1 a2 a3 a4 a5 a6 a7 a8) (x0 x1 x2 x3 x4 x5 x6 x7 x8 : Value) : NB (((((((((w.setCell ⟨T, 0,none⟩ x0).setCell ⟨T, 1,none⟩ x1).setCell ⟨T, 2,none⟩ x2).setCell ⟨T, 3,none⟩ x3).setCell ⟨T, 4,none⟩ x4).setCell ⟨T, 5,none⟩ x5).setCell ⟨T, 6,none⟩ x6).setCell ⟨T, 7,none⟩ x7).setCell ⟨T, 8,none⟩ x8) T t x0 x1 x2 x3 x4 x5 x6 x7 x8 := (((((((((h.set0 x0).set1 x1).set2 x2).set3 x3).set4 x4).set5 x5).set6 x6).set7 x7).set8 x8)
theorem put9_other (w : World) (T : Nat) (x0 x1 x2 x3 x4 x5 x6 x7 x8 : Value) (k : Nat) (hk : k ≠ T) : (((((((((w.setCell ⟨T, 0,none⟩ x0).setCell ⟨T, 1,none⟩ x1).setCell ⟨T, 2,none⟩ x2).setCell ⟨T, 3,none⟩ x3).setCell ⟨T, 4,none⟩ x4).setCell ⟨T, 5,none⟩ x5).setCell ⟨T, 6,none⟩ x6).setCell ⟨T, 7,none⟩ x7).setCell ⟨T, 8,none⟩ x8).heap[k]? = w.heap[k]? := by
 rw [Below.heap_setCell _ _ _ _ (by exact hk),Below.heap_setCell _ _ _ _ (by exact hk),Below.heap_setCell _ _ _ _ (by exact hk),Below.heap_setCell _ _ _ _ (by exact hk),Below.heap_setCell _ _ _ _ (by exact hk),Below.heap_setCell _ _ _ _ (by exact hk),Below.heap_setCell _ _ _ _ (by exact hk),Below.heap_setCell _ _ _ _ (by exact hk),Below.heap_setCell _ _ _ _ (by exact hk)]
theorem put9_size (w : World) (T : Nat) (x0 x1 x2 x3 x4 x5 x6 x7 x8 : Value) : (((((((((w.setCell ⟨T, 0,none⟩ x0).setCell ⟨T, 1,none⟩ x1).setCell ⟨T, 2,none⟩ x2).setCell ⟨T, 3,none⟩ x3).setCell ⟨T, 4,none⟩ x4).setCell ⟨T, 5,none⟩ x5).setCell ⟨T, 6,none⟩ x6).setCell ⟨T, 7,none⟩ x7).setCell ⟨T, 8,none⟩ x8).heap.size = w.heap.size := by simp
theorem Below.put9 {B : Nat} {a w : World} (h : Below B a w) {T : Nat} (hT : B ≤ T) (x0 x1 x2 x3 x4 x5 x6 x7 x8 : Value) : Below B a (((((((((w.setCell ⟨T, 0,none⟩ x0).setCell ⟨T, 1,none⟩ x1).setCell ⟨T, 2,none⟩ x2).setCell ⟨T, 3,none⟩ x3).setCell ⟨T, 4,none⟩ x4).setCell ⟨T, 5,none⟩ x5).setCell ⟨T, 6,none⟩ x6).setCell ⟨T, 7,none⟩ x7).setCell ⟨T, 8,none⟩ x8) := ((((((((h.setCell hT x0).setCell hT x1).setCell hT x2).setCell hT x3).setCell hT x4).setCell hT x5).setCell hT x6).setCell hT x7).setCell hT x8
theorem NB.far {w : World} {T T' : Nat} {t : TypeId} {a0 a1 a2 a3 a4 a5 a6 a7 a8 : Value} (h : NB w T t a0 a1 a2 a3 a4 a5 a6 a7 a8) (i : Nat) (x : Value) (hn : T ≠ T') : NB (w.setCell ⟨T',i,none⟩ x) T t a0 a1 a2 a3 a4 a5 a6 a7 a8 := h.kept (Below.heap_setCell _ _ _ _ (by exact hn))
def EnsV (w : World) (v : Value) (L : List En) (B : Nat) : Prop := ∃ a cap,v = .slice a L.length cap ∧ NAt w a L B
theorem EnsV.on {w w' : World} {v : Value} {L : List En} (h : EnsV w v L w.heap.size) (hb : Below w.heap.size w w') : EnsV w' v L w'.heap.size := by
 obtain ⟨a,cap,rfl,hA⟩ := h
 exact ⟨a,cap,rfl,hA.on hb⟩
theorem EnsV.below {w w' : World} {v : Value} {L : List En} {B B' : Nat} (h : EnsV w v L B) (hb : Below B' w w') (hB : B ≤ B') : EnsV w' v L B := by
 obtain ⟨a,cap,rfl,hA⟩ := h
 exact ⟨a,cap,rfl,hA.below hb hB⟩
def StrsV (w : World) (v : Value) (L : List ByteArray) (B : Nat) : Prop := ∃ a cap,v = .slice a L.length cap ∧ LAt w a L B
theorem StrsV.on {w w' : World} {v : Value} {L : List ByteArray} (h : StrsV w v L w.heap.size) (hb : Below w.heap.size w w') : StrsV w' v L w'.heap.size := by
 obtain ⟨a,cap,rfl,hA⟩ := h
 exact ⟨a,cap,rfl,hA.on hb⟩
theorem StrsV.below {w w' : World} {v : Value} {L : List ByteArray} {B B' : Nat} (h : StrsV w v L B) (hb : Below B' w w') (hB : B ≤ B') : StrsV w' v L B := by
 obtain ⟨a,cap,rfl,hA⟩ := h
 exact ⟨a,cap,rfl,hA.below hb hB⟩
def SSV (w : World) (v : Value) (L : List (List Int)) (B : Nat) : Prop := ∃ a cap,v = .slice a L.length cap ∧ SSAt w a L B
theorem SSV.on {w w' : World} {v : Value} {L : List (List Int)} (h : SSV w v L w.heap.size) (hb : Below w.heap.size w w') : SSV w' v L w'.heap.size := by
 obtain ⟨a,cap,rfl,hA⟩ := h
 exact ⟨a,cap,rfl,hA.on hb⟩
theorem SSV.below {w w' : World} {v : Value} {L : List (List Int)} {B B' : Nat} (h : SSV w v L B) (hb : Below B' w w') (hB : B ≤ B') : SSV w' v L B := by
 obtain ⟨a,cap,rfl,hA⟩ := h
 exact ⟨a,cap,rfl,hA.below hb hB⟩
def FetV (w : World) (v : Value) (L : List Fet) (B : Nat) : Prop := ∃ a cap,v = .slice a L.length cap ∧ FetAt w a L B
theorem FetV.on {w w' : World} {v : Value} {L : List Fet} (h : FetV w v L w.heap.size) (hb : Below w.heap.size w w') : FetV w' v L w'.heap.size := by
 obtain ⟨a,cap,rfl,hA⟩ := h
 exact ⟨a,cap,rfl,hA.on hb⟩
theorem FetV.below {w w' : World} {v : Value} {L : List Fet} {B B' : Nat} (h : FetV w v L B) (hb : Below B' w w') (hB : B ≤ B') : FetV w' v L B := by
 obtain ⟨a,cap,rfl,hA⟩ := h
 exact ⟨a,cap,rfl,hA.below hb hB⟩
def CliV (w : World) (v : Value) (L : List Cli) (B : Nat) : Prop := ∃ a cap,v = .slice a L.length cap ∧ CliAt w a L B
theorem CliV.on {w w' : World} {v : Value} {L : List Cli} (h : CliV w v L w.heap.size) (hb : Below w.heap.size w w') : CliV w' v L w'.heap.size := by
 obtain ⟨a,cap,rfl,hA⟩ := h
 exact ⟨a,cap,rfl,hA.on hb⟩
theorem CliV.below {w w' : World} {v : Value} {L : List Cli} {B B' : Nat} (h : CliV w v L B) (hb : Below B' w w') (hB : B ≤ B') : CliV w' v L B := by
 obtain ⟨a,cap,rfl,hA⟩ := h
 exact ⟨a,cap,rfl,hA.below hb hB⟩
structure PxAt (w : World) (X : Pc) (R : Prx) (B : Nat) : Prop where
 e : EnsV w X.e R.ents B
 pw : StrsV w X.w R.pol.win B
 pm : StrsV w X.m R.pol.main B
 pk : SSV w X.k R.pol.sk.rows B
 f : FetV w X.f R.fes B
 c : CliV w X.c R.cls B
theorem PxAt.on {w w' : World} {X : Pc} {R : Prx} (h : PxAt w X R w.heap.size) (hb : Below w.heap.size w w') : PxAt w' X R w'.heap.size := ⟨h.e.on hb,h.pw.on hb,h.pm.on hb,h.pk.on hb,h.f.on hb,h.c.on hb⟩
theorem PxAt.below {w w' : World} {X : Pc} {R : Prx} {B B' : Nat} (h : PxAt w X R B) (hb : Below B' w w') (hB : B ≤ B') : PxAt w' X R B := ⟨h.e.below hb hB,h.pw.below hb hB,h.pm.below hb hB,h.pk.below hb hB,h.f.below hb hB,h.c.below hb hB⟩
structure PlV (w : World) (x y z : Value) (P : Pol) (B : Nat) : Prop where
 pw : StrsV w x P.win B
 pm : StrsV w y P.main B
 pk : SSV w z P.sk.rows B
theorem PlV.on {w w' : World} {x y z : Value} {P : Pol} (h : PlV w x y z P w.heap.size) (hb : Below w.heap.size w w') : PlV w' x y z P w'.heap.size := ⟨h.pw.on hb,h.pm.on hb,h.pk.on hb⟩
theorem PlV.at {w : World} {x y z : Value} {P : Pol} {B : Nat} (h : PlV w x y z P B) : ∃ aw cw am cm ak ck,x = .slice aw P.win.length cw ∧ y = .slice am P.main.length cm ∧ z = .slice ak P.sk.rows.length ck ∧ PolAt w aw am ak P B := by
 obtain ⟨⟨aw,cw,e1,h1⟩,⟨am,cm,e2,h2⟩,⟨ak,ck,e3,h3⟩⟩ := h
 exact ⟨aw,cw,am,cm,ak,ck,e1,e2,e3,h1,h2,h3⟩
theorem PxAt.pol {w : World} {X : Pc} {R : Prx} {B : Nat} (h : PxAt w X R B) : PlV w X.w X.m X.k R.pol B := ⟨h.pw,h.pm,h.pk⟩
theorem POwn.pl {w : World} {lo hi : Nat} {x y z u : Value} {P : Pol} (h : POwn w lo hi (.agg #[x,y,z,u]) P) : u = .int .i64 P.sk.added ∧ PlV w x y z P w.heap.size := by
 obtain ⟨aw,cw,am,cm,ak,ck,e,hA⟩ := h.at
 simp only [Value.agg.injEq,Array.mk.injEq,List.cons.injEq,and_true] at e
 obtain ⟨rfl,rfl,rfl,rfl⟩ := e
 exact ⟨rfl,⟨_,_,rfl,hA.1⟩,⟨_,_,rfl,hA.2.1⟩,⟨_,_,rfl,hA.2.2⟩⟩
theorem POwn.keptT {w w' : World} {lo hi : Nat} {v : Value} {P : Pol} (h : POwn w lo hi v P) (hk : ∀ k,lo ≤ k → k < hi → k < w.heap.size → (∀ c,w.heap[k]? = some c → ∃ cs e,c = .cells cs e (0, 0) ∧ (e = 9 ∨ e = 24 ∨ e = 3)) → w'.heap[k]? = w.heap[k]?) : POwn w' lo hi v P := by
 obtain ⟨v1,v2,v3,rfl,a1,a2,a3,a4,a5⟩ := h
 refine ⟨v1,v2,v3,rfl,a1.kept fun k hk' => hk k (a1.lt k hk').1 (a3 k hk').1 (a1.lt k hk').2 fun c hc => ?_,a2.kept fun k hk' => hk k (a2.lt k hk').1 (a4 k hk') (a2.lt k hk').2 fun c hc => ?_,a3,a4,a5.kept fun k h1 h2 h3 h4 => hk k h1 h2 h3 fun c hc => ?_⟩
 ·obtain ⟨cs,e⟩ := ownV_type a1 k hk'
  rw [e] at hc
  exact ⟨cs, 9,(Option.some.inj hc).symm,.inl rfl⟩
 ·obtain ⟨cs,e⟩ := ownV_type a2 k hk'
  rw [e] at hc
  exact ⟨cs, 9,(Option.some.inj hc).symm,.inl rfl⟩
 ·rcases h4 c hc with ⟨cs,e⟩ | ⟨cs,e⟩
  ·exact ⟨cs,_,e,.inr (.inl rfl)⟩
  ·exact ⟨cs,_,e,.inr (.inr rfl)⟩
theorem OwnN.type {w : World} {base : Nat} {e : TypeId} {v : Value} {L : List En} (h : OwnN w base e v L) : ∀ k,v.ownBlock = some k → ∃ cs,w.heap[k]? = some (.cells cs e (0, 0)) := by
 intro k hk
 rcases h.2 with ⟨rfl,_⟩ | ⟨g,cap,cur,rfl,_,hg,_⟩
 ·simp [Value.ownBlock] at hk
 ·simp [Value.ownBlock] at hk
  subst hk
  exact ⟨_,hg⟩
def PxT (e : TypeId) : Prop := (e = 9 ∨ e = 24 ∨ e = 3) ∨ e = 65 ∨ e = 84 ∨ e = 45
structure PxOwn (w : World) (lo hi : Nat) (X : Pc) (R : Prx) : Prop where
 e : OwnN w lo 65 X.e R.ents
 p : POwn w lo hi (.agg #[X.w,X.m,X.k,.int .i64 R.pol.sk.added]) R.pol
 f : OwnFet w lo 84 X.f R.fes
 c : OwnCli w lo 45 X.c R.cls
 eh : ∀ k,X.e.ownBlock = some k → k < hi
 fh : ∀ k,X.f.ownBlock = some k → k < hi
 ch : ∀ k,X.c.ownBlock = some k → k < hi
theorem PxOwn.at {w : World} {lo hi : Nat} {X : Pc} {R : Prx} (h : PxOwn w lo hi X R) : PxAt w X R w.heap.size := by
 have hp := h.p.pl.2
 exact ⟨h.e.at,hp.pw,hp.pm,hp.pk,h.f.at,h.c.at⟩
theorem PxOwn.slices {w : World} {lo hi : Nat} {X : Pc} {R : Prx} (h : PxOwn w lo hi X R) : ∃ (e0 : Option Addr) (e1 : Nat) (w0 : Option Addr) (w1 : Nat) (m0 : Option Addr) (m1 : Nat) (k0 : Option Addr) (k1 : Nat) (f0 : Option Addr) (f1 : Nat) (c0 : Option Addr) (c1 : Nat),X = ⟨.slice e0 R.ents.length e1,.slice w0 R.pol.win.length w1,.slice m0 R.pol.main.length m1,.slice k0 R.pol.sk.rows.length k1,.slice f0 R.fes.length f1,.slice c0 R.cls.length c1⟩ := by
 obtain ⟨xe,xw,xm,xk,xf,xc⟩ := X
 obtain ⟨⟨e0,e1,h1,_⟩,⟨w0,w1,h2,_⟩,⟨m0,m1,h3,_⟩,⟨k0,k1,h4,_⟩,⟨f0,f1,h5,_⟩,⟨c0,c1,h6,_⟩⟩ := h.at
 dsimp only at *
 subst h1 h2 h3 h4 h5 h6
 exact ⟨_,_,_,_,_,_,_,_,_,_,_,_,rfl⟩
theorem PxOwn.mono {w : World} {lo hi lo' hi' : Nat} {X : Pc} {R : Prx} (h : PxOwn w lo hi X R) (h1 : lo' ≤ lo) (h2 : hi ≤ hi') : PxOwn w lo' hi' X R :=
 ⟨h.e.mono h1,h.p.mono h1 h2,h.f.mono h1,h.c.mono h1,fun k hk => Nat.lt_of_lt_of_le (h.eh k hk) h2,fun k hk => Nat.lt_of_lt_of_le (h.fh k hk) h2,fun k hk => Nat.lt_of_lt_of_le (h.ch k hk) h2⟩
theorem PxOwn.up {w : World} {lo hi : Nat} {X : Pc} {R : Prx} (h : PxOwn w lo hi X R) : PxOwn w lo w.heap.size X R :=
 ⟨h.e,h.p.up,h.f,h.c,fun k hk => (h.e.lt k hk).2,fun k hk => (h.f.lt k hk).2,fun k hk => (h.c.lt k hk).2⟩
theorem PxOwn.kept {w w' : World} {lo hi : Nat} {X : Pc} {R : Prx} (h : PxOwn w lo hi X R) (hk : ∀ k,lo ≤ k → k < hi → k < w.heap.size → (∀ c,w.heap[k]? = some c → ∃ cs e,c = .cells cs e (0, 0) ∧ PxT e) → w'.heap[k]? = w.heap[k]?) : PxOwn w' lo hi X R := by
 refine ⟨h.e.kept fun k hk' => hk k (h.e.lt k hk').1 (h.eh k hk') (h.e.lt k hk').2 fun c hc => ?_,h.p.keptT fun k h1 h2 h3 h4 => hk k h1 h2 h3 fun c hc => ?_,h.f.kept fun k hk' => hk k (h.f.lt k hk').1 (h.fh k hk') (h.f.lt k hk').2 fun c hc => ?_,h.c.kept fun k hk' => hk k (h.c.lt k hk').1 (h.ch k hk') (h.c.lt k hk').2 fun c hc => ?_,h.eh,h.fh,h.ch⟩
 ·obtain ⟨cs,e⟩ := h.e.type k hk'
  rw [e] at hc
  exact ⟨cs,_,(Option.some.inj hc).symm,.inr (.inl rfl)⟩
 ·obtain ⟨cs,e,h5,h6⟩ := h4 c hc
  exact ⟨cs,e,h5,.inl h6⟩
 ·obtain ⟨cs,e⟩ := h.f.type k hk'
  rw [e] at hc
  exact ⟨cs,_,(Option.some.inj hc).symm,.inr (.inr (.inl rfl))⟩
 ·obtain ⟨cs,e⟩ := h.c.type k hk'
  rw [e] at hc
  exact ⟨cs,_,(Option.some.inj hc).symm,.inr (.inr (.inr rfl))⟩
theorem PxOwn.below {w w' : World} {B lo hi : Nat} {X : Pc} {R : Prx} (h : PxOwn w lo hi X R) (hb : Below B w w') (hB : w.heap.size ≤ B) : PxOwn w' lo hi X R := h.kept fun k _ _ hk _ => hb.block k (Nat.lt_of_lt_of_le hk hB)
theorem PxOwn.tch {S : Nat → Prop} {w w' : World} {lo hi : Nat} {X : Pc} {R : Prx} (h : PxOwn w lo hi X R) (ht : Tch S w w') (hn : ∀ k,S k → k < lo ∨ hi ≤ k) : PxOwn w' lo hi X R := h.kept fun k h1 h2 hk _ => ht.2 k hk (fun e => by have := hn k e; omega)
theorem PxOwn.box {w w' : World} {lo hi T : Nat} {t : TypeId} {cs : Array Value} {X : Pc} {R : Prx} (h : PxOwn w lo hi X R) (hB : w.heap[T]? = some (.cells cs t (0, 0))) (ht : ¬ PxT t) (hk : ∀ k,k ≠ T → w'.heap[k]? = w.heap[k]?) : PxOwn w' lo hi X R :=
 h.kept fun k _ _ _ hty => hk k (fun e => by
  subst e
  obtain ⟨cs',e,h1,h2⟩ := hty _ hB
  simp only [Obj.cells.injEq] at h1
  exact ht (by rw [h1.2.1]; exact h2))
def wgtX (R : Prx) : Nat := R.ents.length + ewg R.ents + wgtP R.pol + (R.fes.length + ftwg R.fes) + (R.cls.length + clwg R.cls)
def PxSz (R : Prx) : Prop := wgtX R ≤ 1048576
theorem PxSz.parts {R : Prx} (h : PxSz R) : R.ents.length ≤ 1048576 ∧ PolSz R.pol ∧ R.fes.length ≤ 1048576 ∧ R.cls.length ≤ 1048576 := by
 unfold PxSz wgtX at h
 refine ⟨by omega, ?_,by omega,by omega⟩
 unfold PolSz
 omega
structure PxM (R : Prx) : Prop where
 now : (Lit.int .i64 R.now).wf = true
 hits : (Lit.int .i64 R.hits).wf = true
 es : SizedN R.ents
 el : R.ents.length ≤ maxLen
 pol : R.pol.win.length ≤ maxLen ∧ R.pol.main.length ≤ maxLen ∧ (∀ j (hj : j < R.pol.win.length),R.pol.win[j].size ≤ maxLen) ∧ (∀ j (hj : j < R.pol.main.length),R.pol.main[j].size ≤ maxLen) ∧ R.pol.sk.rows.length ≤ maxLen ∧ ∀ j (hj : j < R.pol.sk.rows.length),R.pol.sk.rows[j].length ≤ maxLen
 fs : SizedFet R.fes
 fl : R.fes.length ≤ maxLen
 cs : SizedCli R.cls
 cl : R.cls.length ≤ maxLen
end Go.Proofs.YtaahjcljanckaaaGreatDoor
namespace Go.Proofs.YtaahjcljanckaaaGreatDoor
open Go.RowKit
theorem OwnFet.new (w : World) (e : TypeId) (L : List Fet) (cs : Array Value) (hc : cs = (ftl L).toArray) (hl : L.length ≤ maxLen) : OwnFet (w.alloc (.cells cs e)) w.heap.size e (.slice (some ⟨w.heap.size, 0,none⟩) L.length L.length) L := by
 subst hc
 refine ⟨by rw [ftl_length],.inr ⟨w.heap.size,L.length,_,rfl,Nat.le_refl _,heap_alloc_new w _,Nat.le_refl _,hl,by simp [ftl_length], ?_⟩⟩
 exact List.take_of_length_le (by simp [ftl_length])
theorem FetAt.src {w : World} {a0 : Option Addr} {l : List Fet} {B : Nat} (hI : FetAt w a0 l B) : (a0 = none → l.length = 0) ∧ ∀ ad,a0 = some ad → ∀ j u,(ftl l)[j]? = some u → w.cell? (ad.add j) = some u := by
 refine ⟨fun e => ?_,fun ad e j u hu => ?_⟩
 ·cases l with
  | nil => rfl
  | cons x r => obtain ⟨g,off,ha,_⟩ := hI 0 (by simp); rw [e] at ha; cases ha
 ·obtain ⟨hj,_⟩ := List.getElem?_eq_some_iff.1 hu
  rw [ftl_length] at hj
  obtain ⟨g,off,ha,_,h0,h1,h2,h3,h4⟩ := hI (j / 5) (by omega)
  rw [e] at ha
  simp only [Option.some.injEq] at ha
  subst ha
  have hat := ftl_at l (j / 5) (by omega)
  rw [Addr.add_mid]
  rcases (by omega : j % 5 = 0 ∨ j % 5 = 1 ∨ j % 5 = 2 ∨ j % 5 = 3 ∨ j % 5 = 4) with h | h | h | h | h
  ·have e : j = 5 * (j / 5) := by omega
   rw [e,hat.1] at hu
   rw [show off + j = off + j / 5 * 5 by omega,h0]
   exact hu
  ·have e : j = 5 * (j / 5) + 1 := by omega
   rw [e,hat.2.1] at hu
   rw [show off + j = off + j / 5 * 5 + 1 by omega,h1]
   exact hu
  ·have e : j = 5 * (j / 5) + 2 := by omega
   rw [e,hat.2.2.1] at hu
   rw [show off + j = off + j / 5 * 5 + 2 by omega,h2]
   exact hu
  ·have e : j = 5 * (j / 5) + 3 := by omega
   rw [e,hat.2.2.2.1] at hu
   rw [show off + j = off + j / 5 * 5 + 3 by omega,h3]
   exact hu
  ·have e : j = 5 * (j / 5) + 4 := by omega
   rw [e,hat.2.2.2.2] at hu
   rw [show off + j = off + j / 5 * 5 + 4 by omega,h4]
   exact hu
theorem ftl_one (l : List Fet) : ∀ v ∈ ftl l,v.oneCell' = true := by
 intro v hv
 simp only [ftl,List.mem_flatMap,Fet.cells] at hv
 obtain ⟨a,_,h⟩ := hv
 simp at h
 rcases h with rfl | rfl | rfl | rfl | rfl <;> rfl
theorem wpList_plusFet {P : Program} {ops : Array Oper} {rest : List Oper} {o : Oper} {a : Act} {Q : Exit → Act → World → Prop} {w : World} (hgd : o.guard = none) (s x : Operand) (t : TypeId)
  (ho : o.op = .call { callee := .builtin .append,args := #[s,x],argTypes := #[t,t] }) (base : Nat) (e : TypeId) (ht : P.underlying t = some (.slice e))
  (hinfo : (P.info? e).map (fun i => (i.zero,i.size,i.bytes)) = some (some (.agg #[.string ⟨#[]⟩,.string ⟨#[]⟩,.int .i64 0,.int .i64 0,.int .i64 0]), 5, 56)) (v : Value) (A : List Fet) (hs : a.eval s = v) (hown : OwnFet w base e v A)
  (l : List Fet) (cs : Array Value) (hc : cs = (ftl l).toArray) (hx : a.eval x = .slice (some ⟨w.heap.size, 0,none⟩) l.length l.length) (hlen : A.length + l.length ≤ 1800000) (hbase : base ≤ w.heap.size)
  (h : ∀ v' w',OwnFet w' base e v' (A ++ l) → w.grownBy w' v.ownBlock → wpList P ops Q rest (a.put o.dst v') w') :
  wpList P ops Q (o :: rest) a (w.alloc (.cells cs e)) := by
 obtain ⟨i0,hi,hz0,hz1,hz2⟩ := info_parts hinfo
 have hA : FetAt (w.alloc (.cells cs e)) (some ⟨w.heap.size, 0,none⟩) l (w.alloc (.cells cs e)).heap.size := by
  obtain ⟨a',c',hv,hA⟩ := (OwnFet.new w e l cs hc (by unfold maxLen; omega)).at
  simp only [Value.slice.injEq,true_and] at hv
  rw [hv.1]
  exact hA
 refine wpList_append_own _ hgd s x t ho base e i0 _ 5 56 ht hi hz0 hz1 hz2 rfl (by decide) v A.length (ftl A) hs (World.ownsRow.alloc hown _) ⟨w.heap.size, 0,none⟩ l.length l.length (ftl l) hx (ftl_length l) (hA.src.2 _ rfl) (ftl_one l) (by unfold maxLen; omega) (by omega) (by simp; omega) ?_
 intro v' w' h1 h2 _
 refine h v' w' ?_ (grownBy_trans (grownBy_below ((Below.refl _ _).alloc (Nat.le_refl _) _)) h2)
 unfold OwnFet
 rw [ftl_append,List.length_append]
 exact h1
theorem OwnCli.new (w : World) (e : TypeId) (L : List Cli) (cs : Array Value) (hc : cs = (cltl L).toArray) (hl : L.length ≤ maxLen) : OwnCli (w.alloc (.cells cs e)) w.heap.size e (.slice (some ⟨w.heap.size, 0,none⟩) L.length L.length) L := by
 subst hc
 refine ⟨by rw [cltl_length],.inr ⟨w.heap.size,L.length,_,rfl,Nat.le_refl _,heap_alloc_new w _,Nat.le_refl _,hl,by simp [cltl_length], ?_⟩⟩
 exact List.take_of_length_le (by simp [cltl_length])
theorem CliAt.src {w : World} {a0 : Option Addr} {l : List Cli} {B : Nat} (hI : CliAt w a0 l B) : (a0 = none → l.length = 0) ∧ ∀ ad,a0 = some ad → ∀ j u,(cltl l)[j]? = some u → w.cell? (ad.add j) = some u := by
 refine ⟨fun e => ?_,fun ad e j u hu => ?_⟩
 ·cases l with
  | nil => rfl
  | cons x r => obtain ⟨g,off,ha,_⟩ := hI 0 (by simp); rw [e] at ha; cases ha
 ·obtain ⟨hj,_⟩ := List.getElem?_eq_some_iff.1 hu
  rw [cltl_length] at hj
  obtain ⟨g,off,ha,_,h0,h1,h2,h3,h4,h5,h6⟩ := hI (j / 7) (by omega)
  rw [e] at ha
  simp only [Option.some.injEq] at ha
  subst ha
  have hat := cltl_at l (j / 7) (by omega)
  rw [Addr.add_mid]
  rcases (by omega : j % 7 = 0 ∨ j % 7 = 1 ∨ j % 7 = 2 ∨ j % 7 = 3 ∨ j % 7 = 4 ∨ j % 7 = 5 ∨ j % 7 = 6) with h | h | h | h | h | h | h
  ·have e : j = 7 * (j / 7) := by omega
   rw [e,hat.1] at hu
   rw [show off + j = off + j / 7 * 7 by omega,h0]
   exact hu
  ·have e : j = 7 * (j / 7) + 1 := by omega
   rw [e,hat.2.1] at hu
   rw [show off + j = off + j / 7 * 7 + 1 by omega,h1]
   exact hu
  ·have e : j = 7 * (j / 7) + 2 := by omega
   rw [e,hat.2.2.1] at hu
   rw [show off + j = off + j / 7 * 7 + 2 by omega,h2]
   exact hu
  ·have e : j = 7 * (j / 7) + 3 := by omega
   rw [e,hat.2.2.2.1] at hu
   rw [show off + j = off + j / 7 * 7 + 3 by omega,h3]
   exact hu
  ·have e : j = 7 * (j / 7) + 4 := by omega
   rw [e,hat.2.2.2.2.1] at hu
   rw [show off + j = off + j / 7 * 7 + 4 by omega,h4]
   exact hu
  ·have e : j = 7 * (j / 7) + 5 := by omega
   rw [e,hat.2.2.2.2.2.1] at hu
   rw [show off + j = off + j / 7 * 7 + 5 by omega,h5]
   exact hu
  ·have e : j = 7 * (j / 7) + 6 := by omega
   rw [e,hat.2.2.2.2.2.2] at hu
   rw [show off + j = off + j / 7 * 7 + 6 by omega,h6]
   exact hu
theorem cltl_one (l : List Cli) : ∀ v ∈ cltl l,v.oneCell' = true := by
 intro v hv
 simp only [cltl,List.mem_flatMap,Cli.cells] at hv
 obtain ⟨a,_,h⟩ := hv
 simp at h
 rcases h with rfl | rfl | rfl | rfl | rfl | rfl | rfl <;> rfl
theorem wpList_plusCli {P : Program} {ops : Array Oper} {rest : List Oper} {o : Oper} {a : Act} {Q : Exit → Act → World → Prop} {w : World} (hgd : o.guard = none) (s x : Operand) (t : TypeId)
  (ho : o.op = .call { callee := .builtin .append,args := #[s,x],argTypes := #[t,t] }) (base : Nat) (e : TypeId) (ht : P.underlying t = some (.slice e))
  (hinfo : (P.info? e).map (fun i => (i.zero,i.size,i.bytes)) = some (some (.agg #[.int .i64 0,.string ⟨#[]⟩,.int .i64 0,.int .i64 0,.int .i64 0,.string ⟨#[]⟩,.int .i64 0]), 7, 72)) (v : Value) (A : List Cli) (hs : a.eval s = v) (hown : OwnCli w base e v A)
  (l : List Cli) (cs : Array Value) (hc : cs = (cltl l).toArray) (hx : a.eval x = .slice (some ⟨w.heap.size, 0,none⟩) l.length l.length) (hlen : A.length + l.length ≤ 1800000) (hbase : base ≤ w.heap.size)
  (h : ∀ v' w',OwnCli w' base e v' (A ++ l) → w.grownBy w' v.ownBlock → wpList P ops Q rest (a.put o.dst v') w') :
  wpList P ops Q (o :: rest) a (w.alloc (.cells cs e)) := by
 obtain ⟨i0,hi,hz0,hz1,hz2⟩ := info_parts hinfo
 have hA : CliAt (w.alloc (.cells cs e)) (some ⟨w.heap.size, 0,none⟩) l (w.alloc (.cells cs e)).heap.size := by
  obtain ⟨a',c',hv,hA⟩ := (OwnCli.new w e l cs hc (by unfold maxLen; omega)).at
  simp only [Value.slice.injEq,true_and] at hv
  rw [hv.1]
  exact hA
 refine wpList_append_own _ hgd s x t ho base e i0 _ 7 72 ht hi hz0 hz1 hz2 rfl (by decide) v A.length (cltl A) hs (World.ownsRow.alloc hown _) ⟨w.heap.size, 0,none⟩ l.length l.length (cltl l) hx (cltl_length l) (hA.src.2 _ rfl) (cltl_one l) (by unfold maxLen; omega) (by omega) (by simp; omega) ?_
 intro v' w' h1 h2 _
 refine h v' w' ?_ (grownBy_trans (grownBy_below ((Below.refl _ _).alloc (Nat.le_refl _) _)) h2)
 unfold OwnCli
 rw [cltl_append,List.length_append]
 exact h1
end Go.Proofs.YtaahjcljanckaaaGreatDoor
namespace Go.Proofs.YtaahjcljanckaaaGreatDoor
open Go.RowKit Go.Sort
theorem Tryz.infoFet : (Tryz.prog.info? 84).map (fun i => (i.zero,i.size,i.bytes)) = some (some (.agg #[.string ⟨#[]⟩,.string ⟨#[]⟩,.int .i64 0,.int .i64 0,.int .i64 0]), 5, 56) := by kernel_rfl
end Go.Proofs.YtaahjcljanckaaaGreatDoor
