/- Texts that stand in one: HallKit, RowSet, TchKit, HallMore, IdxCli, DelCli. -/
import Derived.Test.YtaahjcljanckaaaGreatDoorPrxCopyI
import Derived.Test.YtaahjcljanckaaaGreatDoorFetRowsJ
import Derived.Test.YtaahjcljanckaaaGreatDoorPrxBaseJ
import Derived.Test.YtaahjcljanckaaaGreatDoorSkBaseJ
import Derived.Test.YtaahjcljanckaaaGreatDoorFindPlainJ
import Derived.Deep.RegionLaw
import Derived.Shelf.Abstract
namespace Go.Proofs.YtaahjcljanckaaaGreatDoor
open Go.RowKit Go.Sort
structure HallAt (w : World) (lo T : Nat) (X : Pc) (R : Prx) : Prop where
 box : NB w T 60 (.int .i64 R.now) X.e X.w X.m X.k (.int .i64 R.pol.sk.added) X.f X.c (.int .i64 R.hits)
 own : PxOwn w lo w.heap.size X R
 le : lo ≤ T
set_option maxRecDepth 100000 in
set_option maxHeartbeats 4000000 in
theorem holdProxy_any (w : World) (X : Pc) (R : Prx) (hA : PxAt w X R w.heap.size) (hsz : PxSz R) :
  Calls Tryz.prog 19 #[.agg #[.int .i64 R.now,X.e,X.w,X.m,X.k,.int .i64 R.pol.sk.added,X.f,X.c,.int .i64 R.hits]] w fun e w' => ∃ (T : Nat) (Y : Pc),e = .returned (.pointer (some ⟨T, 0,none⟩)) ∧ HallAt w' w.heap.size T Y R ∧ Below w.heap.size w w' := by
 obtain ⟨w1,hw1⟩ : ∃ x,w.alloc (.cells #[.int .i64 R.now,X.e,X.w,X.m,X.k,.int .i64 R.pol.sk.added,X.f,X.c,.int .i64 R.hits] 36) = x := ⟨_,rfl⟩
 have hb1 : Below w.heap.size w w1 := by rw [← hw1]; exact (Below.refl _ _).alloc (Nat.le_refl _) _
 have hB : NB w1 w.heap.size 36 (.int .i64 R.now) X.e X.w X.m X.k (.int .i64 R.pol.sk.added) X.f X.c (.int .i64 R.hits) := by rw [← hw1]; exact NB.new _ _ _ _ _ _ _ _ _ _ _
 have c1 := proxyCopy_any w1 X R (hA.on hb1) hsz
 obtain ⟨b0,b1,b2,b3,b4,b5,b6,b7,b8⟩ := hB.cells
 have HW : Hid (w.alloc (.cells #[.int .i64 R.now,X.e,X.w,X.m,X.k,.int .i64 R.pol.sk.added,X.f,X.c,.int .i64 R.hits] 36) = w1) := hw1
 rw [← hw1] at b0 b1 b2 b3 b4 b5 b6 b7 b8
 clear hw1 hA hB
 go_enter Tryz.func19,Tryz.ntmps19
 go_wp2_with fail
 rw [HW.out] at b0 b1 b2 b3 b4 b5 b6 b7 b8 ⊢
 refine c1.mono ?_
 rintro e w2 ⟨Y,he,ho,hb2⟩
 obtain ⟨e0,e1,x0,x1,m0,m1,k0,k1,f0,f1,c0,c1',rfl⟩ := ho.slices
 dsimp only at he
 subst he
 have hb3 : Below w2.heap.size w2 (w2.alloc (.cells #[.int .i64 R.now,.slice e0 R.ents.length e1,.slice x0 R.pol.win.length x1,.slice m0 R.pol.main.length m1,.slice k0 R.pol.sk.rows.length k1,.int .i64 R.pol.sk.added,.slice f0 R.fes.length f1,.slice c0 R.cls.length c1',.int .i64 R.hits] 60)) := (Below.refl _ _).alloc (Nat.le_refl _) _
 have HF : Hid (HallAt (w2.alloc (.cells #[.int .i64 R.now,.slice e0 R.ents.length e1,.slice x0 R.pol.win.length x1,.slice m0 R.pol.main.length m1,.slice k0 R.pol.sk.rows.length k1,.int .i64 R.pol.sk.added,.slice f0 R.fes.length f1,.slice c0 R.cls.length c1',.int .i64 R.hits] 60)) w.heap.size w2.heap.size ⟨.slice e0 R.ents.length e1,.slice x0 R.pol.win.length x1,.slice m0 R.pol.main.length m1,.slice k0 R.pol.sk.rows.length k1,.slice f0 R.fes.length f1,.slice c0 R.cls.length c1'⟩ R ∧ Below w.heap.size w (w2.alloc (.cells #[.int .i64 R.now,.slice e0 R.ents.length e1,.slice x0 R.pol.win.length x1,.slice m0 R.pol.main.length m1,.slice k0 R.pol.sk.rows.length k1,.int .i64 R.pol.sk.added,.slice f0 R.fes.length f1,.slice c0 R.cls.length c1',.int .i64 R.hits] 60))) :=
  ⟨⟨NB.new _ _ _ _ _ _ _ _ _ _ _,((ho.mono hb1.size (Nat.le_refl _)).below hb3 (Nat.le_refl _)).up,Nat.le_trans hb1.size hb2.size⟩,(hb1.trans (hb2.mono hb1.size)).alloc (Nat.le_trans hb1.size hb2.size) _⟩
 clear ho hb2 hb3 c1 b0 b1 b2 b3 b4 b5 b6 b7 b8
 go_wp2_with fail
 go_ret
 exact ⟨_,_,rfl,HF.out.1,HF.out.2⟩
end Go.Proofs.YtaahjcljanckaaaGreatDoor
namespace Go.Proofs.YtaahjcljanckaaaGreatDoor
open Go.RowKit
def Fet.w_tx (g : Fet) (x : ByteArray) : Fet := ⟨g.key,x,g.st,g.lf,g.sto⟩
theorem ftl_set_tx : ∀ (L : List Fet) (j : Nat) (h : j < L.length) (x : ByteArray),(ftl L).set (j * 5 + 1) (.string x) = ftl (L.set j (L[j].w_tx x))
 | [],j,h,_ => absurd h (Nat.not_lt_zero _)
 | g :: L, 0,_,x => by simp [ftl_cons,Fet.cells,Fet.w_tx]
 | g :: L,j + 1,h,x => by
  have ih := ftl_set_tx L j (by simpa using h) x
  rw [show (j + 1) * 5 + 1 = (j * 5 + 1) + 1 + 1 + 1 + 1 + 1 by omega,ftl_cons,List.set_cons_succ,ftl_cons]
  rw [show (g :: L)[j + 1] = L[j]'(by simpa using h) from rfl, ← ih]
  simp [Fet.cells]
theorem OwnFet.set_tx {w : World} {base : Nat} {e : TypeId} {G c : Nat} {L : List Fet} (h : OwnFet w base e (.slice (some ⟨G, 0,none⟩) L.length c) L) (j : Nat) (hj : j < L.length) (x : ByteArray) :
  OwnFet (w.setCell ⟨G,j * 5 + 1,none⟩ (.string x)) base e (.slice (some ⟨G, 0,none⟩) L.length c) (L.set j (L[j].w_tx x)) := by
 have h' := row5_stored h (j * 5 + 1) (.string x)
 rw [ftl_set_tx L j hj x] at h'
 unfold OwnFet
 rw [List.length_set]
 exact h'.1
def Fet.w_st (g : Fet) (x : Int) : Fet := ⟨g.key,g.tx,x,g.lf,g.sto⟩
theorem ftl_set_st : ∀ (L : List Fet) (j : Nat) (h : j < L.length) (x : Int),(ftl L).set (j * 5 + 2) (.int .i64 x) = ftl (L.set j (L[j].w_st x))
 | [],j,h,_ => absurd h (Nat.not_lt_zero _)
 | g :: L, 0,_,x => by simp [ftl_cons,Fet.cells,Fet.w_st]
 | g :: L,j + 1,h,x => by
  have ih := ftl_set_st L j (by simpa using h) x
  rw [show (j + 1) * 5 + 2 = (j * 5 + 2) + 1 + 1 + 1 + 1 + 1 by omega,ftl_cons,List.set_cons_succ,ftl_cons]
  rw [show (g :: L)[j + 1] = L[j]'(by simpa using h) from rfl, ← ih]
  simp [Fet.cells]
theorem OwnFet.set_st {w : World} {base : Nat} {e : TypeId} {G c : Nat} {L : List Fet} (h : OwnFet w base e (.slice (some ⟨G, 0,none⟩) L.length c) L) (j : Nat) (hj : j < L.length) (x : Int) :
  OwnFet (w.setCell ⟨G,j * 5 + 2,none⟩ (.int .i64 x)) base e (.slice (some ⟨G, 0,none⟩) L.length c) (L.set j (L[j].w_st x)) := by
 have h' := row5_stored h (j * 5 + 2) (.int .i64 x)
 rw [ftl_set_st L j hj x] at h'
 unfold OwnFet
 rw [List.length_set]
 exact h'.1
def Fet.w_lf (g : Fet) (x : Int) : Fet := ⟨g.key,g.tx,g.st,x,g.sto⟩
theorem ftl_set_lf : ∀ (L : List Fet) (j : Nat) (h : j < L.length) (x : Int),(ftl L).set (j * 5 + 3) (.int .i64 x) = ftl (L.set j (L[j].w_lf x))
 | [],j,h,_ => absurd h (Nat.not_lt_zero _)
 | g :: L, 0,_,x => by simp [ftl_cons,Fet.cells,Fet.w_lf]
 | g :: L,j + 1,h,x => by
  have ih := ftl_set_lf L j (by simpa using h) x
  rw [show (j + 1) * 5 + 3 = (j * 5 + 3) + 1 + 1 + 1 + 1 + 1 by omega,ftl_cons,List.set_cons_succ,ftl_cons]
  rw [show (g :: L)[j + 1] = L[j]'(by simpa using h) from rfl, ← ih]
  simp [Fet.cells]
theorem OwnFet.set_lf {w : World} {base : Nat} {e : TypeId} {G c : Nat} {L : List Fet} (h : OwnFet w base e (.slice (some ⟨G, 0,none⟩) L.length c) L) (j : Nat) (hj : j < L.length) (x : Int) :
  OwnFet (w.setCell ⟨G,j * 5 + 3,none⟩ (.int .i64 x)) base e (.slice (some ⟨G, 0,none⟩) L.length c) (L.set j (L[j].w_lf x)) := by
 have h' := row5_stored h (j * 5 + 3) (.int .i64 x)
 rw [ftl_set_lf L j hj x] at h'
 unfold OwnFet
 rw [List.length_set]
 exact h'.1
def Fet.w_sto (g : Fet) (x : Int) : Fet := ⟨g.key,g.tx,g.st,g.lf,x⟩
theorem ftl_set_sto : ∀ (L : List Fet) (j : Nat) (h : j < L.length) (x : Int),(ftl L).set (j * 5 + 4) (.int .i64 x) = ftl (L.set j (L[j].w_sto x))
 | [],j,h,_ => absurd h (Nat.not_lt_zero _)
 | g :: L, 0,_,x => by simp [ftl_cons,Fet.cells,Fet.w_sto]
 | g :: L,j + 1,h,x => by
  have ih := ftl_set_sto L j (by simpa using h) x
  rw [show (j + 1) * 5 + 4 = (j * 5 + 4) + 1 + 1 + 1 + 1 + 1 by omega,ftl_cons,List.set_cons_succ,ftl_cons]
  rw [show (g :: L)[j + 1] = L[j]'(by simpa using h) from rfl, ← ih]
  simp [Fet.cells]
theorem OwnFet.set_sto {w : World} {base : Nat} {e : TypeId} {G c : Nat} {L : List Fet} (h : OwnFet w base e (.slice (some ⟨G, 0,none⟩) L.length c) L) (j : Nat) (hj : j < L.length) (x : Int) :
  OwnFet (w.setCell ⟨G,j * 5 + 4,none⟩ (.int .i64 x)) base e (.slice (some ⟨G, 0,none⟩) L.length c) (L.set j (L[j].w_sto x)) := by
 have h' := row5_stored h (j * 5 + 4) (.int .i64 x)
 rw [ftl_set_sto L j hj x] at h'
 unfold OwnFet
 rw [List.length_set]
 exact h'.1
def Cli.w_st (g : Cli) (x : Int) : Cli := ⟨g.id,g.key,g.fe,g.fr,x,g.got,g.ag⟩
theorem cltl_set_st : ∀ (L : List Cli) (j : Nat) (h : j < L.length) (x : Int),(cltl L).set (j * 7 + 4) (.int .i64 x) = cltl (L.set j (L[j].w_st x))
 | [],j,h,_ => absurd h (Nat.not_lt_zero _)
 | g :: L, 0,_,x => by simp [cltl_cons,Cli.cells,Cli.w_st]
 | g :: L,j + 1,h,x => by
  have ih := cltl_set_st L j (by simpa using h) x
  rw [show (j + 1) * 7 + 4 = (j * 7 + 4) + 1 + 1 + 1 + 1 + 1 + 1 + 1 by omega,cltl_cons,List.set_cons_succ,cltl_cons]
  rw [show (g :: L)[j + 1] = L[j]'(by simpa using h) from rfl, ← ih]
  simp [Cli.cells]
theorem OwnCli.set_st {w : World} {base : Nat} {e : TypeId} {G c : Nat} {L : List Cli} (h : OwnCli w base e (.slice (some ⟨G, 0,none⟩) L.length c) L) (j : Nat) (hj : j < L.length) (x : Int) :
  OwnCli (w.setCell ⟨G,j * 7 + 4,none⟩ (.int .i64 x)) base e (.slice (some ⟨G, 0,none⟩) L.length c) (L.set j (L[j].w_st x)) := by
 have h' := row7_stored h (j * 7 + 4) (.int .i64 x)
 rw [cltl_set_st L j hj x] at h'
 unfold OwnCli
 rw [List.length_set]
 exact h'.1
def Cli.w_got (g : Cli) (x : ByteArray) : Cli := ⟨g.id,g.key,g.fe,g.fr,g.st,x,g.ag⟩
theorem cltl_set_got : ∀ (L : List Cli) (j : Nat) (h : j < L.length) (x : ByteArray),(cltl L).set (j * 7 + 5) (.string x) = cltl (L.set j (L[j].w_got x))
 | [],j,h,_ => absurd h (Nat.not_lt_zero _)
 | g :: L, 0,_,x => by simp [cltl_cons,Cli.cells,Cli.w_got]
 | g :: L,j + 1,h,x => by
  have ih := cltl_set_got L j (by simpa using h) x
  rw [show (j + 1) * 7 + 5 = (j * 7 + 5) + 1 + 1 + 1 + 1 + 1 + 1 + 1 by omega,cltl_cons,List.set_cons_succ,cltl_cons]
  rw [show (g :: L)[j + 1] = L[j]'(by simpa using h) from rfl, ← ih]
  simp [Cli.cells]
theorem OwnCli.set_got {w : World} {base : Nat} {e : TypeId} {G c : Nat} {L : List Cli} (h : OwnCli w base e (.slice (some ⟨G, 0,none⟩) L.length c) L) (j : Nat) (hj : j < L.length) (x : ByteArray) :
  OwnCli (w.setCell ⟨G,j * 7 + 5,none⟩ (.string x)) base e (.slice (some ⟨G, 0,none⟩) L.length c) (L.set j (L[j].w_got x)) := by
 have h' := row7_stored h (j * 7 + 5) (.string x)
 rw [cltl_set_got L j hj x] at h'
 unfold OwnCli
 rw [List.length_set]
 exact h'.1
end Go.Proofs.YtaahjcljanckaaaGreatDoor
namespace Go.Proofs.YtaahjcljanckaaaGreatDoor
open Go.RowKit Go.Sort
theorem grown_tch {w w' : World} {v : Value} (ht : Tch (fun b => v.ownBlock = some b) w w') : w.grownBy w' v.ownBlock := ⟨ht.1.os,ht.1.tape,ht.1.output,ht.1.size,fun k hk hn => ht.2 k hk (fun e => hn e.symm)⟩
theorem tch_setV {w w' : World} {v : Value} {G i : Nat} {u : Value} (hv : v.ownBlock = some G) (ht : Tch (fun b => v.ownBlock = some b) w w') : Tch (fun b => v.ownBlock = some b) w (w'.setCell ⟨G,i,none⟩ u) :=
 ⟨ht.1.setCell (Nat.zero_le _) _,fun k hk hn => by rw [Below.heap_setCell _ _ _ _ (fun e => hn (by rw [show k = G from e]; exact hv))]; exact ht.2 k hk hn⟩
theorem OwnFet.cellP {w : World} {base G n c : Nat} {e : TypeId} {L : List Fet} (h : OwnFet w base e (.slice (some ⟨G, 0,none⟩) n c) L) (j : Nat) (hj : j < L.length) : w.cell? ⟨G,j * 5,none⟩ = some (.string L[j].key) ∧ w.cell? ⟨G,j * 5 + 1,none⟩ = some (.string L[j].tx) ∧ w.cell? ⟨G,j * 5 + 2,none⟩ = some (.int .i64 L[j].st) ∧ w.cell? ⟨G,j * 5 + 3,none⟩ = some (.int .i64 L[j].lf) ∧ w.cell? ⟨G,j * 5 + 4,none⟩ = some (.int .i64 L[j].sto) := by
 obtain ⟨a,cap,e1,hA⟩ := h.at
 cases e1
 obtain ⟨g,o,e2,_,h1⟩ := hA j hj
 cases e2
 simpa using h1
theorem OwnFet.thaw {w : World} {base G c : Nat} {e : TypeId} {L : List Fet} (h : OwnFet w base e (.slice (some ⟨G, 0,none⟩) L.length c) L) (i : Nat) : w.frozen? ⟨G,i,none⟩ = false := World.ownsRow.frozenAt h i
theorem OwnCli.thaw {w : World} {base G c : Nat} {e : TypeId} {L : List Cli} (h : OwnCli w base e (.slice (some ⟨G, 0,none⟩) L.length c) L) (i : Nat) : w.frozen? ⟨G,i,none⟩ = false := World.ownsRow.frozenAt h i
def Fet.turn (f : Fet) (tx : ByteArray) (st : Int) : Fet := ⟨f.key,tx,st,f.lf,f.sto⟩
def Fet.done (f : Fet) (lf sto : Int) : Fet := ⟨f.key,f.tx,f.st,lf,sto⟩
theorem set_twoF (L : List Fet) (k : Nat) (hk : k < L.length) (tx : ByteArray) (st : Int) : ((L.set k (L[k].w_tx tx)).set k (((L.set k (L[k].w_tx tx))[k]'(by rw [List.length_set]; exact hk)).w_st st)) = L.set k (L[k].turn tx st) := by
 rw [List.set_set,List.getElem_set_self]
 rfl
theorem set_twoD (L : List Fet) (k : Nat) (hk : k < L.length) (lf sto : Int) : ((L.set k (L[k].w_lf lf)).set k (((L.set k (L[k].w_lf lf))[k]'(by rw [List.length_set]; exact hk)).w_sto sto)) = L.set k (L[k].done lf sto) := by
 rw [List.set_set,List.getElem_set_self]
 rfl
theorem HallAt.on {w w' : World} {lo T : Nat} {X : Pc} {R : Prx} (H : HallAt w lo T X R) (hb : Below w.heap.size w w') : HallAt w' lo T X R :=
 ⟨H.box.on hb,(H.own.below hb (Nat.le_refl _)).up,H.le⟩
theorem HallAt.lt {w : World} {lo T : Nat} {X : Pc} {R : Prx} (H : HallAt w lo T X R) : lo ≤ w.heap.size := Nat.le_trans H.le (Nat.le_of_lt H.box.lt)
theorem HallAt.far {w : World} {lo T : Nat} {X : Pc} {R : Prx} (H : HallAt w lo T X R) {v : Value} {e : TypeId} (hty : ∀ k,v.ownBlock = some k → ∃ cs,w.heap[k]? = some (.cells cs e (0, 0))) (hne : 60 ≠ e) : v.ownBlock ≠ some T := fun h => by
 obtain ⟨c,hc⟩ := hty T h
 have h2 : w.heap[T]? = _ := H.box
 rw [h2] at hc
 simp only [Option.some.injEq,Obj.cells.injEq] at hc
 exact hne hc.2.1
theorem HallAt.setCls {w w' : World} {lo T : Nat} {X : Pc} {R : Prx} {L : List Cli} (H : HallAt w lo T X R) (ht : Tch (fun b => X.c.ownBlock = some b) w w') (ho : OwnCli w' lo 45 X.c L) : HallAt w' lo T X ⟨R.now,R.ents,R.pol,R.fes,L,R.hits⟩ ∧ Below lo w w' :=
 ⟨⟨H.box.kept (ht.2 T H.box.lt (H.far H.own.c.type (by decide))),H.own.setC (grown_tch ht) ho,H.le⟩,Tch.below (Below.refl _ _) ht H.lt (fun k hk => (H.own.c.lt k hk).1)⟩
theorem HallAt.setFes {w w' : World} {lo T : Nat} {X : Pc} {R : Prx} {L : List Fet} (H : HallAt w lo T X R) (ht : Tch (fun b => X.f.ownBlock = some b) w w') (ho : OwnFet w' lo 84 X.f L) : HallAt w' lo T X ⟨R.now,R.ents,R.pol,L,R.cls,R.hits⟩ ∧ Below lo w w' :=
 ⟨⟨H.box.kept (ht.2 T H.box.lt (H.far H.own.f.type (by decide))),H.own.setF (grown_tch ht) ho,H.le⟩,Tch.below (Below.refl _ _) ht H.lt (fun k hk => (H.own.f.lt k hk).1)⟩
theorem OwnCli.row {w : World} {base G n c : Nat} {e : TypeId} {L : List Cli} (h : OwnCli w base e (.slice (some ⟨G, 0,none⟩) n c) L) : ∃ cur : List Value,w.heap[G]? = some (.cells cur.toArray e (0, 0)) ∧ base ≤ G ∧ n = L.length ∧ L.length ≤ c ∧ c ≤ maxLen ∧ cur.length = c * 7 ∧ cur.take (L.length * 7) = cltl L := by
 rcases h.2 with ⟨e1,_⟩ | ⟨g',cp,cur,e1,h1,h2,h3,h4,h5,h6⟩
 ·cases e1
 ·simp only [Value.slice.injEq,Option.some.injEq,Addr.mk.injEq,and_true] at e1
  obtain ⟨rfl,rfl,rfl⟩ := e1
  exact ⟨cur.toList,by simpa using h2,h1,rfl,h3,h4,by simpa using h5,h6⟩
theorem OwnCli.of_row {w : World} {base G c : Nat} {e : TypeId} {L : List Cli} {cur : List Value} (h2 : w.heap[G]? = some (.cells cur.toArray e (0, 0))) (h1 : base ≤ G) (h3 : L.length ≤ c) (h4 : c ≤ maxLen) (h5 : cur.length = c * 7) (h6 : cur.take (L.length * 7) = cltl L) : OwnCli w base e (.slice (some ⟨G, 0,none⟩) L.length c) L :=
 ⟨by rw [cltl_length],.inr ⟨G,c,cur.toArray,rfl,h1,h2,h3,h4,by simpa using h5,by simpa using h6⟩⟩
theorem OwnCli.cellP {w : World} {base G n c : Nat} {e : TypeId} {L : List Cli} (h : OwnCli w base e (.slice (some ⟨G, 0,none⟩) n c) L) (j : Nat) (hj : j < L.length) : w.cell? ⟨G,j * 7,none⟩ = some (.int .i64 L[j].id) ∧ w.cell? ⟨G,j * 7 + 1,none⟩ = some (.string L[j].key) ∧ w.cell? ⟨G,j * 7 + 2,none⟩ = some (.int .i64 L[j].fe) ∧ w.cell? ⟨G,j * 7 + 3,none⟩ = some (.int .i64 L[j].fr) ∧ w.cell? ⟨G,j * 7 + 4,none⟩ = some (.int .i64 L[j].st) ∧ w.cell? ⟨G,j * 7 + 5,none⟩ = some (.string L[j].got) ∧ w.cell? ⟨G,j * 7 + 6,none⟩ = some (.int .i64 L[j].ag) := by
 obtain ⟨a,cp,e1,hA⟩ := h.at
 simp only [Value.slice.injEq] at e1
 obtain ⟨rfl,_,_⟩ := e1
 obtain ⟨g,off,e2,_,q0,q1,q2,q3,q4,q5,q6⟩ := hA j hj
 simp only [Option.some.injEq,Addr.mk.injEq,and_true] at e2
 obtain ⟨rfl,rfl⟩ := e2
 rw [Nat.zero_add] at q0 q1 q2 q3 q4 q5 q6
 exact ⟨q0,q1,q2,q3,q4,q5,q6⟩
theorem Tryz.zeroXCli : ∀ w,(zeroValue 45).run Tryz.prog w = .ok (.agg #[.int .i64 0,.string ⟨#[]⟩,.int .i64 0,.int .i64 0,.int .i64 0,.string ⟨#[]⟩,.int .i64 0]) w := by intro w; kernel_rfl
end Go.Proofs.YtaahjcljanckaaaGreatDoor
