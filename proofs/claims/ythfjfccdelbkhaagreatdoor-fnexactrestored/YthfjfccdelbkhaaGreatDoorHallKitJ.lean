/- Texts that stand in one: HallKit, RowSet, TchKit, HallMore, HallSet, IdxEnt. -/
import Derived.Test.YthfjfccdelbkhaaGreatDoorPrxCopyI
import Derived.Test.YthfjfccdelbkhaaGreatDoorFetRowsJ
import Derived.Test.YthfjfccdelbkhaaGreatDoorPrxBaseJ
import Derived.Test.YthfjfccdelbkhaaGreatDoorIntsJ
import Derived.Test.YthfjfccdelbkhaaGreatDoorPxPlainJ
import Derived.Test.YthfjfccdelbkhaaGreatDoorFolderPlainJ
import Derived.Test.YthfjfccdelbkhaaGreatDoorFilesJ
import Derived.Deep.RegionLaw
import Derived.Shelf.Abstract
namespace Go.Proofs.YthfjfccdelbkhaaGreatDoor
open Go.RowKit Go.Sort
structure HallAt (w : World) (lo T : Nat) (X : Pc) (R : Prx) : Prop where
 box : NB w T 53 (.int .i64 R.now) X.e X.w X.m X.k (.int .i64 R.pol.sk.added) X.f X.c (.int .i64 R.hits)
 own : PxOwn w lo w.heap.size X R
 le : lo ≤ T
end Go.Proofs.YthfjfccdelbkhaaGreatDoor
namespace Go.Proofs.YthfjfccdelbkhaaGreatDoor
open Go.RowKit
end Go.Proofs.YthfjfccdelbkhaaGreatDoor
namespace Go.Proofs.YthfjfccdelbkhaaGreatDoor
open Go.RowKit Go.Sort
theorem grown_tch {w w' : World} {v : Value} (ht : Tch (fun b => v.ownBlock = some b) w w') : w.grownBy w' v.ownBlock := ⟨ht.1.os,ht.1.tape,ht.1.output,ht.1.size,fun k hk hn => ht.2 k hk (fun e => hn e.symm)⟩
theorem tch_setV {w w' : World} {v : Value} {G i : Nat} {u : Value} (hv : v.ownBlock = some G) (ht : Tch (fun b => v.ownBlock = some b) w w') : Tch (fun b => v.ownBlock = some b) w (w'.setCell ⟨G,i,none⟩ u) :=
 ⟨ht.1.setCell (Nat.zero_le _) _,fun k hk hn => by rw [Below.heap_setCell _ _ _ _ (fun e => hn (by rw [show k = G from e]; exact hv))]; exact ht.2 k hk hn⟩
theorem OwnFet.cellP {w : World} {base G n c : Nat} {e : TypeId} {L : List Fet} (h : OwnFet w base e (.slice (some ⟨G, 0,none⟩) n c) L) (j : Nat) (hj : j < L.length) : w.cell? ⟨G,j * 5,none⟩ = some (.string L[j].key) ∧ w.cell? ⟨G,j * 5 + 1,none⟩ = some (.string L[j].tx) ∧ w.cell? ⟨G,j * 5 + 2,none⟩ = some (.int .i64 L[j].st) ∧ w.cell? ⟨G,j * 5 + 3,none⟩ = some (.int .i64 L[j].lf) ∧ w.cell? ⟨G,j * 5 + 4,none⟩ = some (.int .i64 L[j].sto) := by
 obtain ⟨a,cap,e1,hA⟩ := h.at
 cases e1
 obtain ⟨g,o,e2,_,h1⟩ := hA j hj
 cases e2
 simpa using h1
theorem OwnFet.thaw {w : World} {base G c : Nat} {e : TypeId} {L : List Fet} (h : OwnFet w base e (.slice (some ⟨G, 0,none⟩) L.length c) L) (i : Nat) : w.frozen? ⟨G,i,none⟩ = false := World.ownsRow.frozenAt h i
theorem OwnCli.thaw {w : World} {base G c : Nat} {e : TypeId} {L : List Cli} (h : OwnCli w base e (.slice (some ⟨G, 0,none⟩) L.length c) L) (i : Nat) : w.frozen? ⟨G,i,none⟩ = false := World.ownsRow.frozenAt h i
def Fet.done (f : Fet) (lf sto : Int) : Fet := ⟨f.key,f.tx,f.st,lf,sto⟩
theorem HallAt.on {w w' : World} {lo T : Nat} {X : Pc} {R : Prx} (H : HallAt w lo T X R) (hb : Below w.heap.size w w') : HallAt w' lo T X R :=
 ⟨H.box.on hb,(H.own.below hb (Nat.le_refl _)).up,H.le⟩
theorem HallAt.lt {w : World} {lo T : Nat} {X : Pc} {R : Prx} (H : HallAt w lo T X R) : lo ≤ w.heap.size := Nat.le_trans H.le (Nat.le_of_lt H.box.lt)
theorem HallAt.far {w : World} {lo T : Nat} {X : Pc} {R : Prx} (H : HallAt w lo T X R) {v : Value} {e : TypeId} (hty : ∀ k,v.ownBlock = some k → ∃ cs,w.heap[k]? = some (.cells cs e (0, 0))) (hne : 53 ≠ e) : v.ownBlock ≠ some T := fun h => by
 obtain ⟨c,hc⟩ := hty T h
 have h2 : w.heap[T]? = _ := H.box
 rw [h2] at hc
 simp only [Option.some.injEq,Obj.cells.injEq] at hc
 exact hne hc.2.1
theorem HallAt.setPol {w w' : World} {lo T : Nat} {X : Pc} {R : Prx} {Q : Pol} {y1 y2 y3 : Value} (H : HallAt w lo T X R) (hb : Below w.heap.size w w') (ho : POwn w' w.heap.size w'.heap.size (.agg #[y1,y2,y3,.int .i64 Q.sk.added]) Q) :
  HallAt ((((w'.setCell ⟨T, 2,none⟩ y1).setCell ⟨T, 3,none⟩ y2).setCell ⟨T, 4,none⟩ y3).setCell ⟨T, 5,none⟩ (.int .i64 Q.sk.added)) lo T ⟨X.e,y1,y2,y3,X.f,X.c⟩ ⟨R.now,R.ents,Q,R.fes,R.cls,R.hits⟩ ∧ Below lo w ((((w'.setCell ⟨T, 2,none⟩ y1).setCell ⟨T, 3,none⟩ y2).setCell ⟨T, 4,none⟩ y3).setCell ⟨T, 5,none⟩ (.int .i64 Q.sk.added)) := by
 have hbx := H.box.on hb
 have hO : PxOwn w' lo w'.heap.size ⟨X.e,y1,y2,y3,X.f,X.c⟩ ⟨R.now,R.ents,Q,R.fes,R.cls,R.hits⟩ := by
  have h := (H.own.below hb (Nat.le_refl _)).up
  exact ⟨h.e,ho.mono H.lt (Nat.le_refl _),h.f,h.c,h.eh,h.fh,h.ch⟩
 refine ⟨⟨(((hbx.set2 _).set3 _).set4 _).set5 _,(hO.box hbx (by unfold PxT; decide) (fun j hj => ?_)).up,H.le⟩, ?_⟩
 ·exact (Below.heap_setCell _ _ _ _ (by exact hj)).trans ((Below.heap_setCell _ _ _ _ (by exact hj)).trans ((Below.heap_setCell _ _ _ _ (by exact hj)).trans (Below.heap_setCell _ _ _ _ (by exact hj))))
 ·exact ((((hb.mono H.lt).setCell H.le _).setCell H.le _).setCell H.le _).setCell H.le _
theorem HallAt.setSk {w w' : World} {lo T : Nat} {X : Pc} {R : Prx} {S : Sk} {y3 : Value} (H : HallAt w lo T X R) (hb : Below w.heap.size w w') (ho : OwnSS w' w.heap.size w'.heap.size y3 S.rows) :
  HallAt ((w'.setCell ⟨T, 4,none⟩ y3).setCell ⟨T, 5,none⟩ (.int .i64 S.added)) lo T ⟨X.e,X.w,X.m,y3,X.f,X.c⟩ ⟨R.now,R.ents,⟨R.pol.win,R.pol.main,S⟩,R.fes,R.cls,R.hits⟩ ∧ Below lo w ((w'.setCell ⟨T, 4,none⟩ y3).setCell ⟨T, 5,none⟩ (.int .i64 S.added)) := by
 have hbx := H.box.on hb
 have hO : PxOwn w' lo w'.heap.size ⟨X.e,X.w,X.m,y3,X.f,X.c⟩ ⟨R.now,R.ents,⟨R.pol.win,R.pol.main,S⟩,R.fes,R.cls,R.hits⟩ := by
  have h := (H.own.below hb (Nat.le_refl _)).up
  obtain ⟨v1,v2,v3,e,a1,a2,a3,a4,a5⟩ := id h.p
  simp only [Value.agg.injEq,Array.mk.injEq,List.cons.injEq,and_true] at e
  obtain ⟨rfl,rfl,rfl⟩ := e
  exact ⟨h.e,⟨_,_,_,rfl,a1,a2,a3,a4,ho.mono H.lt (Nat.le_refl _)⟩,h.f,h.c,h.eh,h.fh,h.ch⟩
 refine ⟨⟨(hbx.set4 _).set5 _,(hO.box hbx (by unfold PxT; decide) (fun j hj => ?_)).up,H.le⟩, ?_⟩
 ·exact (Below.heap_setCell _ _ _ _ (by exact hj)).trans (Below.heap_setCell _ _ _ _ (by exact hj))
 ·exact ((hb.mono H.lt).setCell H.le _).setCell H.le _
set_option maxHeartbeats 2000000 in
theorem indexEnt_any (g : Nat) (lb : Array Value) (p : En → Bool) (eg : ∀ args w,(callFunc g args).run Tryz.prog w = .ok (.enter g args) w) (w : World) (a : Option Addr) (cap : Nat) (L : List (En)) (hL : NAt w a L w.heap.size) (hm : L.length ≤ 10000000)
  (hp : ∀ (W : World) (x : En),Below w.heap.size w W → Calls Tryz.prog g (#[.agg #[.string x.key,.int .i64 x.st,.int .i64 x.lf,.string x.bd]] ++ lb) W fun e w' => e = .returned (.bool (p x)) ∧ Below w.heap.size w w') :
  Calls Tryz.prog 97 #[.slice a L.length cap,.func (.func g) #[] lb] w fun e w' => e = .returned (.int .i64 (idxX p L)) ∧ Below w.heap.size w w' := by
 go_enter Tryz.func97,Tryz.ntmps97
 go_wp2
 go_loopw [5, 8] (fun _ i wr => Box (∃ k : Nat,k ≤ L.length ∧ i = .int .i64 k ∧ Below w.heap.size w wr ∧ ∀ j (hj : j < k) (hl : j < L.length),p L[j] = false))
  (fun _ i _ => L.length - (intOf i).toNat)
 case atStart => exact ⟨⟨0,by omega,rfl,Below.refl _ _,fun j hj => absurd hj (Nat.not_lt_zero _)⟩⟩
 case round =>
  obtain ⟨k,hk,rfl,hb,hno⟩ := hrel.out
  by_cases hlt : k < L.length
  ·obtain ⟨g1,off,rfl,_,hc0,hc1,hc2,hc3⟩ := (hL.below hb (Nat.le_refl _)) k hlt
   obtain ⟨f,hf⟩ : ∃ f,L[k] = f := ⟨_,rfl⟩
   have HF : Hid (L[k] = f) := hf
   rw [hf] at hc0 hc1 hc2 hc3
   have hcall := hp wr f hb
   have HNO : Hid (∀ j (hj : j < k) (hl : j < L.length),p L[j] = false) := hno
   clear hL hp hf hno hrel
   have hi1 : (0 : Int) ≤ (k : Int) := by omega
   have hi2 : (k : Int) < (L.length : Int) := by omega
   cases hq : p f with
   | true =>
    rw [hq] at hcall
    go_wp2_with (go_at_fn g; refine hcall.mono ?_; rintro e w' ⟨rfl,hb'⟩)
    go_ret
    refine ⟨?_,hb'⟩
    rw [idxX_hit hlt (by rw [HF.out]; exact hq) (fun j hj => HNO.out j hj (by omega))]
    rfl
   | false =>
    rw [hq] at hcall
    go_wp2_with (go_at_fn g; refine hcall.mono ?_; rintro e w' ⟨rfl,hb'⟩)
    go_roundw
    case rel =>
     try ((repeat apply Exists.intro); refine ⟨?_,rfl⟩)
     refine ⟨⟨k + 1,by omega,by go_num,hb',fun j hj hl => ?_⟩⟩
     by_cases e : j = k
     ·subst e
      rw [HF.out]; exact hq
     ·exact HNO.out j (by omega) hl
    case measure => simp [intOf]; omega
  ·have hi2 : ¬ (k : Int) < (L.length : Int) := by omega
   go_wp2
   go_ret
   refine ⟨?_,hb⟩
   rw [idxX_miss (fun x hx => by
    obtain ⟨j,hj,rfl⟩ := List.getElem_of_mem hx
    exact hno j (by omega) hj)]
   rfl
end Go.Proofs.YthfjfccdelbkhaaGreatDoor
