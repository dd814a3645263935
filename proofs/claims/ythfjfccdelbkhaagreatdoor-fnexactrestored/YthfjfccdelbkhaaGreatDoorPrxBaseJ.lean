/- Texts that stand in one: PrxBase, EnsLaw, FetLaw. -/
import Derived.Test.YthfjfccdelbkhaaGreatDoorPolLaw2J
import Derived.Test.YthfjfccdelbkhaaGreatDoorFilesJ
import Derived.Test.YthfjfccdelbkhaaGreatDoorFetRowsJ
import Derived.Test.YthfjfccdelbkhaaGreatDoorSkLaw3J
import Derived.Lib.QuietBelow
import Derived.BigQuiet
namespace Go.Proofs.YthfjfccdelbkhaaGreatDoor
open Go.RowKit Go.Sort
structure Prx where
 now : Int
 ents : List En
 pol : Pol
 fes : List Fet
 cls : List Cli
 hits : Int
structure Pc where
 e : Value
 w : Value
 m : Value
 k : Value
 f : Value
 c : Value
def NB (w : World) (T : Nat) (t : TypeId) (a0 a1 a2 a3 a4 a5 a6 a7 a8 : Value) : Prop := w.heap[T]? = some (.cells #[a0,a1,a2,a3,a4,a5,a6,a7,a8] t (0, 0))
theorem NB.lt {w : World} {T : Nat} {t : TypeId} {a0 a1 a2 a3 a4 a5 a6 a7 a8 : Value} (h : NB w T t a0 a1 a2 a3 a4 a5 a6 a7 a8) : T < w.heap.size := (Array.getElem?_eq_some_iff.1 h).1
theorem NB.new (w : World) (t : TypeId) (a0 a1 a2 a3 a4 a5 a6 a7 a8 : Value) : NB (w.alloc (.cells #[a0,a1,a2,a3,a4,a5,a6,a7,a8] t)) w.heap.size t a0 a1 a2 a3 a4 a5 a6 a7 a8 := heap_alloc_new w _
theorem NB.kept {w w' : World} {T : Nat} {t : TypeId} {a0 a1 a2 a3 a4 a5 a6 a7 a8 : Value} (h : NB w T t a0 a1 a2 a3 a4 a5 a6 a7 a8) (hk : w'.heap[T]? = w.heap[T]?) : NB w' T t a0 a1 a2 a3 a4 a5 a6 a7 a8 := hk.trans h
theorem NB.on {w w' : World} {T : Nat} {t : TypeId} {a0 a1 a2 a3 a4 a5 a6 a7 a8 : Value} (h : NB w T t a0 a1 a2 a3 a4 a5 a6 a7 a8) (hb : Below w.heap.size w w') : NB w' T t a0 a1 a2 a3 a4 a5 a6 a7 a8 := h.kept (hb.block T h.lt)
theorem NB.thaw {w : World} {T : Nat} {t : TypeId} {a0 a1 a2 a3 a4 a5 a6 a7 a8 : Value} (h : NB w T t a0 a1 a2 a3 a4 a5 a6 a7 a8) (i : Nat) : w.frozen? ⟨T,i,none⟩ = false := by
 unfold NB at h
 simp [World.frozen?,h]
theorem NB.cells {w : World} {T : Nat} {t : TypeId} {a0 a1 a2 a3 a4 a5 a6 a7 a8 : Value} (h : NB w T t a0 a1 a2 a3 a4 a5 a6 a7 a8) : w.cell? ⟨T, 0,none⟩ = some a0 ∧ w.cell? ⟨T, 1,none⟩ = some a1 ∧ w.cell? ⟨T, 2,none⟩ = some a2 ∧ w.cell? ⟨T, 3,none⟩ = some a3 ∧ w.cell? ⟨T, 4,none⟩ = some a4 ∧ w.cell? ⟨T, 5,none⟩ = some a5 ∧ w.cell? ⟨T, 6,none⟩ = some a6 ∧ w.cell? ⟨T, 7,none⟩ = some a7 ∧ w.cell? ⟨T, 8,none⟩ = some a8 := by
 unfold NB at h
 refine ⟨?_, ?_, ?_, ?_, ?_, ?_, ?_, ?_, ?_⟩
 ·rw [cell_of_row w T 0 _ _ (0, 0) h]; rfl
 ·rw [cell_of_row w T 1 _ _ (0, 0) h]; rfl
 ·rw [cell_of_row w T 2 _ _ (0, 0) h]; rfl
 ·rw [cell_of_row w T 3 _ _ (0, 0) h]; rfl
 ·rw [cell_of_row w T 4 _ _ (0, 0) h]; rfl
 ·rw [cell_of_row w T 5 _ _ (0, 0) h]; rfl
 ·rw [cell_of_row w T 6 _ _ (0, 0) h]; rfl
 ·rw [cell_of_row w T 7 _ _ (0, 0) h]; rfl
 ·rw [cell_of_row w T 8 _ _ (0, 0) h]; rfl
theorem NB.set0 {w : World} {T : Nat} {t : TypeId} {a0 a1 a2 a3 a4 a5 a6 a7 a8 : Value} (h : NB w T t a0 a1 a2 a3 a4 a5 a6 a7 a8) (x : Value) : NB (w.setCell ⟨T, 0,none⟩ x) T t x a1 a2 a3 a4 a5 a6 a7 a8 := by
 unfold NB at *
 simp only [World.setCell,Array.getElem?_modify,h]
 simp
theorem NB.set1 {w : World} {T : Nat} {t : TypeId} {a0 a1 a2 a3 a4 a5 a6 a7 a8 : Value} (h : NB w T t a0 a1 a2 a3 a4 a5 a6 a7 a8) (x : Value) : NB (w.setCell ⟨T, 1,none⟩ x) T t a0 x a2 a3 a4 a5 a6 a7 a8 := by
 unfold NB at *
 simp only [World.setCell,Array.getElem?_modify,h]
 simp
theorem NB.set2 {w : World} {T : Nat} {t : TypeId} {a0 a1 a2 a3 a4 a5 a6 a7 a8 : Value} (h : NB w T t a0 a1 a2 a3 a4 a5 a6 a7 a8) (x : Value) : NB (w.setCell ⟨T, 2,none⟩ x) T t a0 a1 x a3 a4 a5 a6 a7 a8 := by
 unfold NB at *
 simp only [World.setCell,Array.getElem?_modify,h]
 simp
theorem NB.set3 {w : World} {T : Nat} {t : TypeId} {a0 a1 a2 a3 a4 a5 a6 a7 a8 : Value} (h : NB w T t a0 a1 a2 a3 a4 a5 a6 a7 a8) (x : Value) : NB (w.setCell ⟨T, 3,none⟩ x) T t a0 a1 a2 x a4 a5 a6 a7 a8 := by
 unfold NB at *
 simp only [World.setCell,Array.getElem?_modify,h]
 simp
theorem NB.set4 {w : World} {T : Nat} {t : TypeId} {a0 a1 a2 a3 a4 a5 a6 a7 a8 : Value} (h : NB w T t a0 a1 a2 a3 a4 a5 a6 a7 a8) (x : Value) : NB (w.setCell ⟨T, 4,none⟩ x) T t a0 a1 a2 a3 x a5 a6 a7 a8 := by
 unfold NB at *
 simp only [World.setCell,Array.getElem?_modify,h]
 simp
theorem NB.set5 {w : World} {T : Nat} {t : TypeId} {a0 a1 a2 a3 a4 a5 a6 a7 a8 : Value} (h : NB w T t a0 a1 a2 a3 a4 a5 a6 a7 a8) (x : Value) : NB (w.setCell ⟨T, 5,none⟩ x) T t a0 a1 a2 a3 a4 x a6 a7 a8 := by
 unfold NB at *
 simp only [World.setCell,Array.getElem?_modify,h]
 simp
theorem NB.set6 {w : World} {T : Nat} {t : TypeId} {a0 a1 a2 a3 a4 a5 a6 a7 a8 : Value} (h : NB w T t a0 a1 a2 a3 a4 a5 a6 a7 a8) (x : Value) : NB (w.setCell ⟨T, 6,none⟩ x) T t a0 a1 a2 a3 a4 a5 x a7 a8 := by
 unfold NB at *
 simp only [World.setCell,Array.getElem?_modify,h]
 simp
theorem NB.set7 {w : World} {T : Nat} {t : TypeId} {a0 a1 a2 a3 a4 a5 a6 a7 a8 : Value} (h : NB w T t a0 a1 a2 a3 a4 a5 a6 a7 a8) (x : Value) : NB (w.setCell ⟨T, 7,none⟩ x) T t a0 a1 a2 a3 a4 a5 a6 x a8 := by
 unfold NB at *
 simp only [World.setCell,Array.getElem?_modify,h]
 simp
theorem NB.set8 {w : World} {T : Nat} {t : TypeId} {a0 a1 a2 a3 a4 a5 a6 a7 a8 : Value} (h : NB w T t a0 a1 a2 a3 a4 a5 a6 a7 a8) (x : Value) : NB (w.setCell ⟨T, 8,none⟩ x) T t a0 a1 a2 a3 a4 a5 a6 a7 x := by
 unfold NB at *
 simp only [World.setCell,Array.getElem?_modify,h]
 simp
theorem NB.put {w : World} {T : Nat} {t : TypeId} {a0 a1 a2 a3 a4 a5 a6 a7 a8 : Value} (h : NB w T t a0 a1 a2 a3 a4 a5 a6 a7 a8) (x0 x1 x2 x3 x4 x5 x6 x7 x8 : Value) : NB (((((((((w.setCell ⟨T, 0,none⟩ x0).setCell ⟨T, 1,none⟩ x1).setCell ⟨T, 2,none⟩ x2).setCell ⟨T, 3,none⟩ x3).setCell ⟨T, 4,none⟩ x4).setCell ⟨T, 5,none⟩ x5).setCell ⟨T, 6,none⟩ x6).setCell ⟨T, 7,none⟩ x7).setCell ⟨T, 8,none⟩ x8) T t x0 x1 x2 x3 x4 x5 x6 x7 x8 := (((((((((h.set0 x0).set1 x1).set2 x2).set3 x3).set4 x4).set5 x5).set6 x6).set7 x7).set8 x8)
theorem put9_other (w : World) (T : Nat) (x0 x1 x2 x3 x4 x5 x6 x7 x8 : Value) (k : Nat) (hk : k ≠ T) : (((((((((w.setCell ⟨T, 0,none⟩ x0).setCell ⟨T, 1,none⟩ x1).setCell ⟨T, 2,none⟩ x2).setCell ⟨T, 3,none⟩ x3).setCell ⟨T, 4,none⟩ x4).setCell ⟨T, 5,none⟩ x5).setCell ⟨T, 6,none⟩ x6).setCell ⟨T, 7,none⟩ x7).setCell ⟨T, 8,none⟩ x8).heap[k]? = w.heap[k]? := by
 rw [Below.heap_setCell _ _ _ _ (by exact hk),Below.heap_setCell _ _ _ _ (by exact hk),Below.heap_setCell _ _ _ _ (by exact hk),Below.heap_setCell _ _ _ _ (by exact hk),Below.heap_setCell _ _ _ _ (by exact hk),Below.heap_setCell _ _ _ _ (by exact hk),Below.heap_setCell _ _ _ _ (by exact hk),Below.heap_setCell _ _ _ _ (by exact hk),Below.heap_setCell _ _ _ _ (by exact hk)]
theorem Below.put9 {B : Nat} {a w : World} (h : Below B a w) {T : Nat} (hT : B ≤ T) (x0 x1 x2 x3 x4 x5 x6 x7 x8 : Value) : Below B a (((((((((w.setCell ⟨T, 0,none⟩ x0).setCell ⟨T, 1,none⟩ x1).setCell ⟨T, 2,none⟩ x2).setCell ⟨T, 3,none⟩ x3).setCell ⟨T, 4,none⟩ x4).setCell ⟨T, 5,none⟩ x5).setCell ⟨T, 6,none⟩ x6).setCell ⟨T, 7,none⟩ x7).setCell ⟨T, 8,none⟩ x8) := ((((((((h.setCell hT x0).setCell hT x1).setCell hT x2).setCell hT x3).setCell hT x4).setCell hT x5).setCell hT x6).setCell hT x7).setCell hT x8
theorem NB.far {w : World} {T T' : Nat} {t : TypeId} {a0 a1 a2 a3 a4 a5 a6 a7 a8 : Value} (h : NB w T t a0 a1 a2 a3 a4 a5 a6 a7 a8) (i : Nat) (x : Value) (hn : T ≠ T') : NB (w.setCell ⟨T',i,none⟩ x) T t a0 a1 a2 a3 a4 a5 a6 a7 a8 := h.kept (Below.heap_setCell _ _ _ _ (by exact hn))
def EnsV (w : World) (v : Value) (L : List En) (B : Nat) : Prop := ∃ a cap,v = .slice a L.length cap ∧ NAt w a L B
theorem EnsV.on {w w' : World} {v : Value} {L : List En} (h : EnsV w v L w.heap.size) (hb : Below w.heap.size w w') : EnsV w' v L w'.heap.size := by
 obtain ⟨a,cap,rfl,hA⟩ := h
 exact ⟨a,cap,rfl,hA.on hb⟩
theorem EnsV.below {w w' : World} {v : Value} {L : List En} {B B' : Nat} (h : EnsV w v L B) (hb : Below B' w w') (hB : B ≤ B') : EnsV w' v L B := by
 obtain ⟨a,cap,rfl,hA⟩ := h
 exact ⟨a,cap,rfl,hA.below hb hB⟩
def StrsV (w : World) (v : Value) (L : List ByteArray) (B : Nat) : Prop := ∃ a cap,v = .slice a L.length cap ∧ LAt w a L B
theorem StrsV.on {w w' : World} {v : Value} {L : List ByteArray} (h : StrsV w v L w.heap.size) (hb : Below w.heap.size w w') : StrsV w' v L w'.heap.size := by
 obtain ⟨a,cap,rfl,hA⟩ := h
 exact ⟨a,cap,rfl,hA.on hb⟩
theorem StrsV.below {w w' : World} {v : Value} {L : List ByteArray} {B B' : Nat} (h : StrsV w v L B) (hb : Below B' w w') (hB : B ≤ B') : StrsV w' v L B := by
 obtain ⟨a,cap,rfl,hA⟩ := h
 exact ⟨a,cap,rfl,hA.below hb hB⟩
def SSV (w : World) (v : Value) (L : List (List Int)) (B : Nat) : Prop := ∃ a cap,v = .slice a L.length cap ∧ SSAt w a L B
theorem SSV.on {w w' : World} {v : Value} {L : List (List Int)} (h : SSV w v L w.heap.size) (hb : Below w.heap.size w w') : SSV w' v L w'.heap.size := by
 obtain ⟨a,cap,rfl,hA⟩ := h
 exact ⟨a,cap,rfl,hA.on hb⟩
theorem SSV.below {w w' : World} {v : Value} {L : List (List Int)} {B B' : Nat} (h : SSV w v L B) (hb : Below B' w w') (hB : B ≤ B') : SSV w' v L B := by
 obtain ⟨a,cap,rfl,hA⟩ := h
 exact ⟨a,cap,rfl,hA.below hb hB⟩
def FetV (w : World) (v : Value) (L : List Fet) (B : Nat) : Prop := ∃ a cap,v = .slice a L.length cap ∧ FetAt w a L B
theorem FetV.on {w w' : World} {v : Value} {L : List Fet} (h : FetV w v L w.heap.size) (hb : Below w.heap.size w w') : FetV w' v L w'.heap.size := by
 obtain ⟨a,cap,rfl,hA⟩ := h
 exact ⟨a,cap,rfl,hA.on hb⟩
theorem FetV.below {w w' : World} {v : Value} {L : List Fet} {B B' : Nat} (h : FetV w v L B) (hb : Below B' w w') (hB : B ≤ B') : FetV w' v L B := by
 obtain ⟨a,cap,rfl,hA⟩ := h
 exact ⟨a,cap,rfl,hA.below hb hB⟩
def CliV (w : World) (v : Value) (L : List Cli) (B : Nat) : Prop := ∃ a cap,v = .slice a L.length cap ∧ CliAt w a L B
theorem CliV.on {w w' : World} {v : Value} {L : List Cli} (h : CliV w v L w.heap.size) (hb : Below w.heap.size w w') : CliV w' v L w'.heap.size := by
 obtain ⟨a,cap,rfl,hA⟩ := h
 exact ⟨a,cap,rfl,hA.on hb⟩
theorem CliV.below {w w' : World} {v : Value} {L : List Cli} {B B' : Nat} (h : CliV w v L B) (hb : Below B' w w') (hB : B ≤ B') : CliV w' v L B := by
 obtain ⟨a,cap,rfl,hA⟩ := h
 exact ⟨a,cap,rfl,hA.below hb hB⟩
structure PxAt (w : World) (X : Pc) (R : Prx) (B : Nat) : Prop where
 e : EnsV w X.e R.ents B
 pw : StrsV w X.w R.pol.win B
 pm : StrsV w X.m R.pol.main B
 pk : SSV w X.k R.pol.sk.rows B
 f : FetV w X.f R.fes B
 c : CliV w X.c R.cls B
theorem PxAt.on {w w' : World} {X : Pc} {R : Prx} (h : PxAt w X R w.heap.size) (hb : Below w.heap.size w w') : PxAt w' X R w'.heap.size := ⟨h.e.on hb,h.pw.on hb,h.pm.on hb,h.pk.on hb,h.f.on hb,h.c.on hb⟩
theorem PxAt.below {w w' : World} {X : Pc} {R : Prx} {B B' : Nat} (h : PxAt w X R B) (hb : Below B' w w') (hB : B ≤ B') : PxAt w' X R B := ⟨h.e.below hb hB,h.pw.below hb hB,h.pm.below hb hB,h.pk.below hb hB,h.f.below hb hB,h.c.below hb hB⟩
structure PlV (w : World) (x y z : Value) (P : Pol) (B : Nat) : Prop where
 pw : StrsV w x P.win B
 pm : StrsV w y P.main B
 pk : SSV w z P.sk.rows B
theorem PlV.on {w w' : World} {x y z : Value} {P : Pol} (h : PlV w x y z P w.heap.size) (hb : Below w.heap.size w w') : PlV w' x y z P w'.heap.size := ⟨h.pw.on hb,h.pm.on hb,h.pk.on hb⟩
theorem PlV.at {w : World} {x y z : Value} {P : Pol} {B : Nat} (h : PlV w x y z P B) : ∃ aw cw am cm ak ck,x = .slice aw P.win.length cw ∧ y = .slice am P.main.length cm ∧ z = .slice ak P.sk.rows.length ck ∧ PolAt w aw am ak P B := by
 obtain ⟨⟨aw,cw,e1,h1⟩,⟨am,cm,e2,h2⟩,⟨ak,ck,e3,h3⟩⟩ := h
 exact ⟨aw,cw,am,cm,ak,ck,e1,e2,e3,h1,h2,h3⟩
theorem PxAt.pol {w : World} {X : Pc} {R : Prx} {B : Nat} (h : PxAt w X R B) : PlV w X.w X.m X.k R.pol B := ⟨h.pw,h.pm,h.pk⟩
theorem POwn.pl {w : World} {lo hi : Nat} {x y z u : Value} {P : Pol} (h : POwn w lo hi (.agg #[x,y,z,u]) P) : u = .int .i64 P.sk.added ∧ PlV w x y z P w.heap.size := by
 obtain ⟨aw,cw,am,cm,ak,ck,e,hA⟩ := h.at
 simp only [Value.agg.injEq,Array.mk.injEq,List.cons.injEq,and_true] at e
 obtain ⟨rfl,rfl,rfl,rfl⟩ := e
 exact ⟨rfl,⟨_,_,rfl,hA.1⟩,⟨_,_,rfl,hA.2.1⟩,⟨_,_,rfl,hA.2.2⟩⟩
theorem POwn.keptT {w w' : World} {lo hi : Nat} {v : Value} {P : Pol} (h : POwn w lo hi v P) (hk : ∀ k,lo ≤ k → k < hi → k < w.heap.size → (∀ c,w.heap[k]? = some c → ∃ cs e,c = .cells cs e (0, 0) ∧ (e = 9 ∨ e = 107 ∨ e = 3)) → w'.heap[k]? = w.heap[k]?) : POwn w' lo hi v P := by
 obtain ⟨v1,v2,v3,rfl,a1,a2,a3,a4,a5⟩ := h
 refine ⟨v1,v2,v3,rfl,a1.kept fun k hk' => hk k (a1.lt k hk').1 (a3 k hk').1 (a1.lt k hk').2 fun c hc => ?_,a2.kept fun k hk' => hk k (a2.lt k hk').1 (a4 k hk') (a2.lt k hk').2 fun c hc => ?_,a3,a4,a5.kept fun k h1 h2 h3 h4 => hk k h1 h2 h3 fun c hc => ?_⟩
 ·obtain ⟨cs,e⟩ := ownV_type a1 k hk'
  rw [e] at hc
  exact ⟨cs, 9,(Option.some.inj hc).symm,.inl rfl⟩
 ·obtain ⟨cs,e⟩ := ownV_type a2 k hk'
  rw [e] at hc
  exact ⟨cs, 9,(Option.some.inj hc).symm,.inl rfl⟩
 ·rcases h4 c hc with ⟨cs,e⟩ | ⟨cs,e⟩
  ·exact ⟨cs,_,e,.inr (.inl rfl)⟩
  ·exact ⟨cs,_,e,.inr (.inr rfl)⟩
theorem OwnN.type {w : World} {base : Nat} {e : TypeId} {v : Value} {L : List En} (h : OwnN w base e v L) : ∀ k,v.ownBlock = some k → ∃ cs,w.heap[k]? = some (.cells cs e (0, 0)) := by
 intro k hk
 rcases h.2 with ⟨rfl,_⟩ | ⟨g,cap,cur,rfl,_,hg,_⟩
 ·simp [Value.ownBlock] at hk
 ·simp [Value.ownBlock] at hk
  subst hk
  exact ⟨_,hg⟩
def PxT (e : TypeId) : Prop := (e = 9 ∨ e = 107 ∨ e = 3) ∨ e = 47 ∨ e = 83 ∨ e = 86
structure PxOwn (w : World) (lo hi : Nat) (X : Pc) (R : Prx) : Prop where
 e : OwnN w lo 47 X.e R.ents
 p : POwn w lo hi (.agg #[X.w,X.m,X.k,.int .i64 R.pol.sk.added]) R.pol
 f : OwnFet w lo 83 X.f R.fes
 c : OwnCli w lo 86 X.c R.cls
 eh : ∀ k,X.e.ownBlock = some k → k < hi
 fh : ∀ k,X.f.ownBlock = some k → k < hi
 ch : ∀ k,X.c.ownBlock = some k → k < hi
theorem PxOwn.at {w : World} {lo hi : Nat} {X : Pc} {R : Prx} (h : PxOwn w lo hi X R) : PxAt w X R w.heap.size := by
 have hp := h.p.pl.2
 exact ⟨h.e.at,hp.pw,hp.pm,hp.pk,h.f.at,h.c.at⟩
theorem PxOwn.slices {w : World} {lo hi : Nat} {X : Pc} {R : Prx} (h : PxOwn w lo hi X R) : ∃ (e0 : Option Addr) (e1 : Nat) (w0 : Option Addr) (w1 : Nat) (m0 : Option Addr) (m1 : Nat) (k0 : Option Addr) (k1 : Nat) (f0 : Option Addr) (f1 : Nat) (c0 : Option Addr) (c1 : Nat),X = ⟨.slice e0 R.ents.length e1,.slice w0 R.pol.win.length w1,.slice m0 R.pol.main.length m1,.slice k0 R.pol.sk.rows.length k1,.slice f0 R.fes.length f1,.slice c0 R.cls.length c1⟩ := by
 obtain ⟨xe,xw,xm,xk,xf,xc⟩ := X
 obtain ⟨⟨e0,e1,h1,_⟩,⟨w0,w1,h2,_⟩,⟨m0,m1,h3,_⟩,⟨k0,k1,h4,_⟩,⟨f0,f1,h5,_⟩,⟨c0,c1,h6,_⟩⟩ := h.at
 dsimp only at *
 subst h1 h2 h3 h4 h5 h6
 exact ⟨_,_,_,_,_,_,_,_,_,_,_,_,rfl⟩
theorem PxOwn.mono {w : World} {lo hi lo' hi' : Nat} {X : Pc} {R : Prx} (h : PxOwn w lo hi X R) (h1 : lo' ≤ lo) (h2 : hi ≤ hi') : PxOwn w lo' hi' X R :=
 ⟨h.e.mono h1,h.p.mono h1 h2,h.f.mono h1,h.c.mono h1,fun k hk => Nat.lt_of_lt_of_le (h.eh k hk) h2,fun k hk => Nat.lt_of_lt_of_le (h.fh k hk) h2,fun k hk => Nat.lt_of_lt_of_le (h.ch k hk) h2⟩
theorem PxOwn.up {w : World} {lo hi : Nat} {X : Pc} {R : Prx} (h : PxOwn w lo hi X R) : PxOwn w lo w.heap.size X R :=
 ⟨h.e,h.p.up,h.f,h.c,fun k hk => (h.e.lt k hk).2,fun k hk => (h.f.lt k hk).2,fun k hk => (h.c.lt k hk).2⟩
theorem PxOwn.kept {w w' : World} {lo hi : Nat} {X : Pc} {R : Prx} (h : PxOwn w lo hi X R) (hk : ∀ k,lo ≤ k → k < hi → k < w.heap.size → (∀ c,w.heap[k]? = some c → ∃ cs e,c = .cells cs e (0, 0) ∧ PxT e) → w'.heap[k]? = w.heap[k]?) : PxOwn w' lo hi X R := by
 refine ⟨h.e.kept fun k hk' => hk k (h.e.lt k hk').1 (h.eh k hk') (h.e.lt k hk').2 fun c hc => ?_,h.p.keptT fun k h1 h2 h3 h4 => hk k h1 h2 h3 fun c hc => ?_,h.f.kept fun k hk' => hk k (h.f.lt k hk').1 (h.fh k hk') (h.f.lt k hk').2 fun c hc => ?_,h.c.kept fun k hk' => hk k (h.c.lt k hk').1 (h.ch k hk') (h.c.lt k hk').2 fun c hc => ?_,h.eh,h.fh,h.ch⟩
 ·obtain ⟨cs,e⟩ := h.e.type k hk'
  rw [e] at hc
  exact ⟨cs,_,(Option.some.inj hc).symm,.inr (.inl rfl)⟩
 ·obtain ⟨cs,e,h5,h6⟩ := h4 c hc
  exact ⟨cs,e,h5,.inl h6⟩
 ·obtain ⟨cs,e⟩ := h.f.type k hk'
  rw [e] at hc
  exact ⟨cs,_,(Option.some.inj hc).symm,.inr (.inr (.inl rfl))⟩
 ·obtain ⟨cs,e⟩ := h.c.type k hk'
  rw [e] at hc
  exact ⟨cs,_,(Option.some.inj hc).symm,.inr (.inr (.inr rfl))⟩
theorem PxOwn.below {w w' : World} {B lo hi : Nat} {X : Pc} {R : Prx} (h : PxOwn w lo hi X R) (hb : Below B w w') (hB : w.heap.size ≤ B) : PxOwn w' lo hi X R := h.kept fun k _ _ hk _ => hb.block k (Nat.lt_of_lt_of_le hk hB)
theorem PxOwn.tch {S : Nat → Prop} {w w' : World} {lo hi : Nat} {X : Pc} {R : Prx} (h : PxOwn w lo hi X R) (ht : Tch S w w') (hn : ∀ k,S k → k < lo ∨ hi ≤ k) : PxOwn w' lo hi X R := h.kept fun k h1 h2 hk _ => ht.2 k hk (fun e => by have := hn k e; omega)
theorem PxOwn.box {w w' : World} {lo hi T : Nat} {t : TypeId} {cs : Array Value} {X : Pc} {R : Prx} (h : PxOwn w lo hi X R) (hB : w.heap[T]? = some (.cells cs t (0, 0))) (ht : ¬ PxT t) (hk : ∀ k,k ≠ T → w'.heap[k]? = w.heap[k]?) : PxOwn w' lo hi X R :=
 h.kept fun k _ _ _ hty => hk k (fun e => by
  subst e
  obtain ⟨cs',e,h1,h2⟩ := hty _ hB
  simp only [Obj.cells.injEq] at h1
  exact ht (by rw [h1.2.1]; exact h2))
structure PXV (w : World) (lo T : Nat) (X : Pc) (R : Prx) : Prop where
 le : lo ≤ T
 box : NB w T 34 (.int .i64 R.now) X.e X.w X.m X.k (.int .i64 R.pol.sk.added) X.f X.c (.int .i64 R.hits)
 own : PxOwn w lo T X R
theorem PXV.new {w : World} {lo : Nat} {X : Pc} {R : Prx} (h : PxOwn w lo w.heap.size X R) (hlo : lo ≤ w.heap.size) :
  PXV (w.alloc (.cells #[.int .i64 R.now,X.e,X.w,X.m,X.k,.int .i64 R.pol.sk.added,X.f,X.c,.int .i64 R.hits] 34)) lo w.heap.size X R :=
 ⟨hlo,NB.new _ _ _ _ _ _ _ _ _ _ _,h.below ((Below.refl _ _).alloc (Nat.le_refl _) _) (Nat.le_refl _)⟩
theorem PXV.on {w w' : World} {lo T : Nat} {X : Pc} {R : Prx} (h : PXV w lo T X R) (hb : Below w.heap.size w w') : PXV w' lo T X R := ⟨h.le,h.box.on hb,h.own.below hb (Nat.le_refl _)⟩
theorem PXV.at {w : World} {lo T : Nat} {X : Pc} {R : Prx} (h : PXV w lo T X R) : PxAt w X R w.heap.size := h.own.at
theorem PXV.tch {S : Nat → Prop} {w w' : World} {lo T : Nat} {X : Pc} {R : Prx} (h : PXV w lo T X R) (ht : Tch S w w') (hn : ∀ k,S k → k < lo ∨ T < k) : PXV w' lo T X R := by
 have hlo := h.le
 exact ⟨h.le,h.box.kept (ht.2 T h.box.lt (fun e => by have := hn T e; omega)),h.own.tch ht fun k hk => by have := hn k hk; omega⟩
def wgtX (R : Prx) : Nat := R.ents.length + ewg R.ents + wgtP R.pol + (R.fes.length + ftwg R.fes) + (R.cls.length + clwg R.cls)
def PxSz (R : Prx) : Prop := wgtX R ≤ 1048576
theorem PxSz.parts {R : Prx} (h : PxSz R) : R.ents.length ≤ 1048576 ∧ PolSz R.pol ∧ R.fes.length ≤ 1048576 ∧ R.cls.length ≤ 1048576 := by
 unfold PxSz wgtX at h
 refine ⟨by omega, ?_,by omega,by omega⟩
 unfold PolSz
 omega
theorem Tryz.infoEn : (Tryz.prog.info? 47).map (fun i => (i.zero,i.size,i.bytes)) = some (some (.agg #[.string ⟨#[]⟩,.int .i64 0,.int .i64 0,.string ⟨#[]⟩]), 4, 48) := by kernel_rfl
set_option maxHeartbeats 1000000 in
theorem szEntryS_any (w : World) (a : Option Addr) (cap : Nat) (L : List En) (left : Int) (h0 : 0 ≤ left) (h1 : left ≤ 1048576) (hL : NAt w a L w.heap.size) (hs : SizedN L) (hm : L.length ≤ maxLen) :
  Calls Tryz.prog 4 #[.slice a L.length cap,.int .i64 left] w fun e w' => ∃ r : Int,e = .returned (.int .i64 r) ∧ (r = -1 ∨ 0 ≤ r ∧ r + ((L.length + ewg L : Nat) : Int) = left) ∧ Below w.heap.size w w' := by
 unfold maxLen at hm
 by_cases hA : left - L.length < 0
 ·go_enter Tryz.func4,Tryz.ntmps4
  go_wp2
  go_ret
  exact ⟨_,rfl,.inl rfl,Below.refl _ _⟩
 ·go_enter Tryz.func4,Tryz.ntmps4
  go_wp2
  go_loopw [1, 5] (fun n i wr => Box (∃ (k : Nat) (r : Int),k ≤ L.length ∧ i = .int .i64 k ∧ n = .int .i64 r ∧ 0 ≤ r ∧ r + ((L.length + ewg (L.take k) : Nat) : Int) = left ∧ Below w.heap.size w wr))
   (fun _ i _ => L.length - (intOf i).toNat)
  case atStart => exact ⟨⟨0,_,by omega,rfl,rfl,by omega,by simp [ewg],Below.refl _ _⟩⟩
  case round =>
   obtain ⟨k,r,hk,rfl,rfl,hr0,hr,hbel⟩ := hrel.out
   by_cases hlt : k < L.length
   ·obtain ⟨g,off,rfl,hg,hc0,hc1,hc2,hc3⟩ := (hL.below hbel (Nat.le_refl _)) k hlt
    have hsz := hs k hlt
    have hstep := ewg_take_succ L k hlt
    unfold En.wg at hstep
    obtain ⟨f,hf⟩ : ∃ f,L[k] = f := ⟨_,rfl⟩
    rw [hf] at hc0 hc1 hc2 hc3 hsz hstep
    have c1 := szEntry_any wr f.key f.bd f.st f.lf r (by omega) (by omega) hsz.1.1 hsz.1.2
    clear hL hs hsz hrel
    have hi1 : (0 : Int) ≤ (k : Int) := by omega
    have hi2 : (k : Int) < (L.length : Int) := by omega
    go_wp2_with fail
    refine c1.mono ?_
    rintro e w1 ⟨r1,rfl,hr1,hb1⟩
    have hbel1 := hbel.trans (hb1.mono hbel.size)
    rcases hr1 with rfl | ⟨hp,hr1⟩
    ·go_wp2
     go_ret
     exact ⟨_,rfl,.inl rfl,hbel1⟩
    ·go_wp2
     go_roundw
     case rel =>
      try ((repeat apply Exists.intro); refine ⟨?_,rfl⟩)
      exact ⟨⟨k + 1,_,by omega,by go_num,rfl,hp,by omega,hbel1⟩⟩
     case measure => simp [intOf]; omega
   ·go_wp2
    go_ret
    have hke : k = L.length := by omega
    subst hke
    rw [List.take_length] at hr
    exact ⟨_,rfl,.inr ⟨hr0,hr⟩,hbel⟩
set_option maxHeartbeats 1000000 in
theorem toEntryS_any (w : World) (a : Option Addr) (cap : Nat) (L : List En) (hL : NAt w a L w.heap.size) (hm : L.length ≤ 1048576) :
  Calls Tryz.prog 6 #[.slice a L.length cap] w fun e w' => ∃ v,e = .returned v ∧ OwnN w' w.heap.size 47 v L ∧ Below w.heap.size w w' := by
 obtain ⟨w0,hmk,hown,hb0⟩ := make_entries (P := Tryz.prog) w 24 47 Tryz.underlying24 Tryz.infoEn L.length hm
 obtain ⟨G,hG⟩ : ∃ G,w.heap.size = G := ⟨_,rfl⟩
 rw [hG] at hmk hown
 go_enter Tryz.func6,Tryz.ntmps6
 go_wp2
 go_loopw [4] (fun i wr => Box (∃ (k : Nat),k ≤ L.length ∧ i = .int .i64 k ∧ OwnN wr G 47 (.slice (some ⟨G, 0,none⟩) L.length L.length) (L.take k ++ List.replicate (L.length - k) zen) ∧ Below w.heap.size w wr))
  (fun i _ => L.length - (intOf i).toNat)
 case atStart => exact ⟨⟨0,by omega,rfl,by simpa using hown,hb0⟩⟩
 case round =>
  obtain ⟨k,hk,rfl,hown1,hbel⟩ := hrel.out
  by_cases hlt : k < L.length
  ·obtain ⟨g,off,rfl,hg,hc0,hc1,hc2,hc3⟩ := (hL.below hbel (Nat.le_refl _)) k hlt
   have hset := take_set_zen L k hlt
   obtain ⟨f,hf⟩ : ∃ f,L[k] = f := ⟨_,rfl⟩
   rw [hf] at hc0 hc1 hc2 hc3
   have c1 := toEntry_any wr f.key f.bd f.st f.lf
   have hlen : L.length = (L.take k ++ List.replicate (L.length - k) zen).length := by simp; omega
   have HX : Hid (∀ w1,Below wr.heap.size wr w1 → OwnN w1 G 47 (.slice (some ⟨G, 0,none⟩) L.length L.length) (L.take k ++ List.replicate (L.length - k) zen)) := fun w1 hb => hown1.below hb (Nat.le_refl _)
   have HS : Hid (L.length = (L.take k ++ List.replicate (L.length - k) zen).length ∧ (L.take k ++ List.replicate (L.length - k) zen).set k f = L.take (k + 1) ++ List.replicate (L.length - (k + 1)) zen) := ⟨hlen,hset f hf⟩
   clear hL hrel
   have hi1 : (0 : Int) ≤ (k : Int) := by omega
   have hi2 : (k : Int) < (L.length : Int) := by omega
   clear hmk hown hb0 hset hlen hown1
   go_wp2_with fail
   refine c1.mono ?_
   rintro e w1 ⟨rfl,hb1⟩
   have hown2 := HX.out w1 hb1
   have hrow2 : w1.ownsRow G 47 4 (.slice (some ⟨G, 0,none⟩) L.length L.length) L.length (enl (L.take k ++ List.replicate (L.length - k) zen)) := by
    have h := hown2
    unfold OwnN at h
    rwa [← HS.out.1] at h
   obtain ⟨u0,k0,f0⟩ := rowN_there hrow2 (k * 4) (by omega)
   obtain ⟨u1,k1,f1⟩ := rowN_there hrow2 (k * 4 + 1) (by omega)
   obtain ⟨u2,k2,f2⟩ := rowN_there hrow2 (k * 4 + 2) (by omega)
   obtain ⟨u3,k3,f3⟩ := rowN_there hrow2 (k * 4 + 3) (by omega)
   clear hrow2
   go_wp2
   go_roundw
   case rel =>
    try ((repeat apply Exists.intro); refine ⟨?_,rfl⟩)
    have h2 := hown2.stored HS.out.1 k f
    rw [HS.out.2] at h2
    exact ⟨⟨k + 1,by omega,by go_num,h2.1,Below.grown (hbel.trans (hb1.mono hbel.size)) h2.2 (Nat.le_trans hbel.size hb1.size) (fun j hj => by simp at hj; omega)⟩⟩
   case measure => simp [intOf]; omega
  ·go_wp2
   go_ret
   have hke : k = L.length := by omega
   subst hke
   simp only [List.take_length,Nat.sub_self,List.replicate_zero,List.append_nil] at hown1
   exact ⟨_,rfl,by rw [hG]; exact hown1,hbel⟩
set_option maxHeartbeats 1000000 in
theorem eqEntryS_same (w : World) (a b : Option Addr) (c1 c2 : Nat) (L : List En) (hA : NAt w a L w.heap.size) (hB : NAt w b L w.heap.size) (hl : L.length ≤ 1048576) :
  Calls Tryz.prog 9 #[.slice a L.length c1,.slice b L.length c2] w fun e w' => e = .returned (.bool true) ∧ Below w.heap.size w w' := by
 go_enter Tryz.func9,Tryz.ntmps9
 go_wp2
 go_loopw [5] (fun i wr => Box (∃ (k : Nat),k ≤ L.length ∧ i = .int .i64 k ∧ Below w.heap.size w wr))
  (fun i _ => L.length - (intOf i).toNat)
 case atStart => exact ⟨⟨0,by omega,rfl,Below.refl _ _⟩⟩
 case round =>
  obtain ⟨k,hk,rfl,hbel⟩ := hrel.out
  by_cases hlt : k < L.length
  ·obtain ⟨g,off,rfl,hg,hc0,hc1,hc2,hc3⟩ := (hA.below hbel (Nat.le_refl _)) k hlt
   obtain ⟨g',off',rfl,hg',hd0,hd1,hd2,hd3⟩ := (hB.below hbel (Nat.le_refl _)) k hlt
   obtain ⟨f,hf⟩ : ∃ f,L[k] = f := ⟨_,rfl⟩
   rw [hf] at hc0 hc1 hc2 hc3 hd0 hd1 hd2 hd3
   have k0 := cell_regrown hc0
   have k1 := cell_regrown hc1
   have k2 := cell_regrown hc2
   have k3 := cell_regrown hc3
   have l0 := cell_regrown hd0
   have l1 := cell_regrown hd1
   have l2 := cell_regrown hd2
   have l3 := cell_regrown hd3
   have cV : ∀ d os,Calls Tryz.prog 26 #[.agg #[.string f.key,.int .i64 f.st,.int .i64 f.lf,.string f.bd],.agg #[.string f.key,.int .i64 f.st,.int .i64 f.lf,.string f.bd]] (grow (redrawn wr d) os) fun e w'' => e = .returned (.bool true) ∧ ∃ p : Regrown,w'' = grow (redrawn wr p.d) p.os := fun d os => Calls.regrown_of (by have := eqEntry_same (grow (redrawn wr d) os) f.key f.bd f.st f.lf; simpa using this)
   clear hA hB hrel hc0 hc1 hc2 hc3 hd0 hd1 hd2 hd3
   have hi1 : (0 : Int) ≤ (k : Int) := by omega
   have hi2 : (k : Int) < (L.length : Int) := by omega
   go_wp2
   refine wp_region_quiet_below (by kernel_rfl) (by kernel_rfl) ?_
   repeat (first | go_big_quiet_step (exact cV _ _) | quiet_step (exact cV _ _))
   refine wpQuiet_nil ?_
   intro _ hw'
   obtain ⟨⟨dq,osq⟩,hw''⟩ := hw'
   subst hw''
   go_wp2
   go_roundw
   case rel =>
    try ((repeat apply Exists.intro); refine ⟨?_,rfl⟩)
    exact ⟨⟨k + 1,by omega,by go_num,hbel.trans ((below_regrown wr dq osq).mono hbel.size)⟩⟩
   case measure => simp [intOf]; omega
  ·go_wp2
   go_ret
   exact ⟨rfl,hbel⟩
theorem Tryz.infoFet : (Tryz.prog.info? 83).map (fun i => (i.zero,i.size,i.bytes)) = some (some (.agg #[.string ⟨#[]⟩,.string ⟨#[]⟩,.int .i64 0,.int .i64 0,.int .i64 0]), 5, 56) := by kernel_rfl
theorem eqFetch_same (w : World) (f : Fet) :
  Calls Tryz.prog 52 #[.agg #[.string f.key,.string f.tx,.int .i64 f.st,.int .i64 f.lf,.int .i64 f.sto],.agg #[.string f.key,.string f.tx,.int .i64 f.st,.int .i64 f.lf,.int .i64 f.sto]] w fun e w' => e = .returned (.bool true) ∧ Below w.heap.size w w' := by
 go_enter Tryz.func52,Tryz.ntmps52
 go_wp2
 go_ret
 exact ⟨rfl,((Below.refl w.heap.size w).alloc (Nat.le_refl _) _).alloc (by simp) _⟩
set_option maxHeartbeats 1000000 in
theorem eqFetchS_same (w : World) (a b : Option Addr) (c1 c2 : Nat) (L : List Fet) (hA : FetAt w a L w.heap.size) (hB : FetAt w b L w.heap.size) (hl : L.length ≤ 1048576) :
  Calls Tryz.prog 24 #[.slice a L.length c1,.slice b L.length c2] w fun e w' => e = .returned (.bool true) ∧ Below w.heap.size w w' := by
 go_enter Tryz.func24,Tryz.ntmps24
 go_wp2
 go_loopw [5] (fun i wr => Box (∃ (k : Nat),k ≤ L.length ∧ i = .int .i64 k ∧ Below w.heap.size w wr))
  (fun i _ => L.length - (intOf i).toNat)
 case atStart => exact ⟨⟨0,by omega,rfl,Below.refl _ _⟩⟩
 case round =>
  obtain ⟨k,hk,rfl,hbel⟩ := hrel.out
  by_cases hlt : k < L.length
  ·obtain ⟨g,off,rfl,hg,hc0,hc1,hc2,hc3,hc4⟩ := (hA.below hbel (Nat.le_refl _)) k hlt
   obtain ⟨g',off',rfl,hg',hd0,hd1,hd2,hd3,hd4⟩ := (hB.below hbel (Nat.le_refl _)) k hlt
   obtain ⟨f,hf⟩ : ∃ f,L[k] = f := ⟨_,rfl⟩
   rw [hf] at hc0 hc1 hc2 hc3 hc4 hd0 hd1 hd2 hd3 hd4
   have k0 := cell_regrown hc0
   have k1 := cell_regrown hc1
   have k2 := cell_regrown hc2
   have k3 := cell_regrown hc3
   have k4 := cell_regrown hc4
   have l0 := cell_regrown hd0
   have l1 := cell_regrown hd1
   have l2 := cell_regrown hd2
   have l3 := cell_regrown hd3
   have l4 := cell_regrown hd4
   have cV : ∀ d os,Calls Tryz.prog 52 #[.agg #[.string f.key,.string f.tx,.int .i64 f.st,.int .i64 f.lf,.int .i64 f.sto],.agg #[.string f.key,.string f.tx,.int .i64 f.st,.int .i64 f.lf,.int .i64 f.sto]] (grow (redrawn wr d) os) fun e w'' => e = .returned (.bool true) ∧ ∃ p : Regrown,w'' = grow (redrawn wr p.d) p.os := fun d os => Calls.regrown_of (by have := eqFetch_same (grow (redrawn wr d) os) f; simpa using this)
   clear hA hB hrel hc0 hc1 hc2 hc3 hc4 hd0 hd1 hd2 hd3 hd4
   have hi1 : (0 : Int) ≤ (k : Int) := by omega
   have hi2 : (k : Int) < (L.length : Int) := by omega
   go_wp2
   refine wp_region_quiet_below (by kernel_rfl) (by kernel_rfl) ?_
   repeat (first | go_big_quiet_step (exact cV _ _) | quiet_step (exact cV _ _))
   refine wpQuiet_nil ?_
   intro _ hw'
   obtain ⟨⟨dq,osq⟩,hw''⟩ := hw'
   subst hw''
   go_wp2
   go_roundw
   case rel =>
    try ((repeat apply Exists.intro); refine ⟨?_,rfl⟩)
    exact ⟨⟨k + 1,by omega,by go_num,hbel.trans ((below_regrown wr dq osq).mono hbel.size)⟩⟩
   case measure => simp [intOf]; omega
  ·go_wp2
   go_ret
   exact ⟨rfl,hbel⟩
end Go.Proofs.YthfjfccdelbkhaaGreatDoor
