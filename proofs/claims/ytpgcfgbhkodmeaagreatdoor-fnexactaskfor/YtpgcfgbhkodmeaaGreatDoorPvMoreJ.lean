/- Texts that stand in one: PvMore, SpecAskKit, SpecWithout, AskSame, SkCopySpec. -/
import Derived.Test.YtpgcfgbhkodmeaaGreatDoorHallKitJ
import Derived.Test.YtpgcfgbhkodmeaaGreatDoorPolSzTextJ
import Derived.Test.YtpgcfgbhkodmeaaGreatDoorDiskPlainJ
import Derived.Test.YtpgcfgbhkodmeaaGreatDoorFilesJ
import Derived.Test.YtpgcfgbhkodmeaaGreatDoorPrxBaseJ
import Derived.Test.YtpgcfgbhkodmeaaGreatDoorPrxMarkJ
import Derived.Test.YtpgcfgbhkodmeaaGreatDoorPxOkImplJ
import Derived.Test.YtpgcfgbhkodmeaaGreatDoorSkStepJ
import Derived.Test.YtpgcfgbhkodmeaaGreatDoorSumTabJ
import Derived.Test.YtpgcfgbhkodmeaaGreatDoorCellPlainJ
namespace Go.Proofs.YtpgcfgbhkodmeaaGreatDoor
open Go.RowKit Go.Sort
structure PvAt (w : World) (lo T : Nat) (X : Pc) (R : Prx) : Prop where
 box : NB w T 48 (.int .i64 R.now) X.e X.w X.m X.k (.int .i64 R.pol.sk.added) X.f X.c (.int .i64 R.hits)
 own : PxOwn w lo w.heap.size X R
 le : lo ≤ T
theorem PvAt.on {w w' : World} {lo T : Nat} {X : Pc} {R : Prx} (H : PvAt w lo T X R) (hb : Below w.heap.size w w') : PvAt w' lo T X R :=
 ⟨H.box.on hb,(H.own.below hb (Nat.le_refl _)).up,H.le⟩
theorem PvAt.lt {w : World} {lo T : Nat} {X : Pc} {R : Prx} (H : PvAt w lo T X R) : lo ≤ w.heap.size := Nat.le_trans H.le (Nat.le_of_lt H.box.lt)
theorem PvAt.far {w : World} {lo T : Nat} {X : Pc} {R : Prx} (H : PvAt w lo T X R) {v : Value} {e : TypeId} (hty : ∀ k,v.ownBlock = some k → ∃ cs,w.heap[k]? = some (.cells cs e (0, 0))) (hne : 48 ≠ e) : v.ownBlock ≠ some T := fun h => by
 obtain ⟨c,hc⟩ := hty T h
 have h2 : w.heap[T]? = _ := H.box
 rw [h2] at hc
 simp only [Option.some.injEq,Obj.cells.injEq] at hc
 exact hne hc.2.1
theorem CliB.set2 {w : World} {T : Nat} {t : TypeId} {f : Cli} (h : CliB w T t f) (x : Int) : CliB (w.setCell ⟨T, 2,none⟩ (.int .i64 x)) T t ⟨f.id,f.key,x,f.fr,f.st,f.got,f.ag⟩ := by
 unfold CliB at *
 simp only [World.setCell,Array.getElem?_modify,h]
 simp
theorem CliB.set3 {w : World} {T : Nat} {t : TypeId} {f : Cli} (h : CliB w T t f) (x : Int) : CliB (w.setCell ⟨T, 3,none⟩ (.int .i64 x)) T t ⟨f.id,f.key,f.fe,x,f.st,f.got,f.ag⟩ := by
 unfold CliB at *
 simp only [World.setCell,Array.getElem?_modify,h]
 simp
theorem CliB.set4 {w : World} {T : Nat} {t : TypeId} {f : Cli} (h : CliB w T t f) (x : Int) : CliB (w.setCell ⟨T, 4,none⟩ (.int .i64 x)) T t ⟨f.id,f.key,f.fe,f.fr,x,f.got,f.ag⟩ := by
 unfold CliB at *
 simp only [World.setCell,Array.getElem?_modify,h]
 simp
theorem CliB.set5 {w : World} {T : Nat} {t : TypeId} {f : Cli} (h : CliB w T t f) (x : ByteArray) : CliB (w.setCell ⟨T, 5,none⟩ (.string x)) T t ⟨f.id,f.key,f.fe,f.fr,f.st,x,f.ag⟩ := by
 unfold CliB at *
 simp only [World.setCell,Array.getElem?_modify,h]
 simp
theorem CliB.set6 {w : World} {T : Nat} {t : TypeId} {f : Cli} (h : CliB w T t f) (x : Int) : CliB (w.setCell ⟨T, 6,none⟩ (.int .i64 x)) T t ⟨f.id,f.key,f.fe,f.fr,f.st,f.got,x⟩ := by
 unfold CliB at *
 simp only [World.setCell,Array.getElem?_modify,h]
 simp
theorem CliB.kept {w w' : World} {T : Nat} {t : TypeId} {f : Cli} (h : CliB w T t f) (hk : w'.heap[T]? = w.heap[T]?) : CliB w' T t f := hk.trans h
theorem PxOwn.cbox {w w' : World} {lo hi C : Nat} {X : Pc} {R : Prx} {c : Cli} (h : PxOwn w lo hi X R) (hC : CliB w C 87 c) (hn : X.c.ownBlock ≠ some C) (hk : ∀ k,k ≠ C → w'.heap[k]? = w.heap[k]?) : PxOwn w' lo hi X R := by
 have ne : ∀ (k : Nat) (cs : Array Value) (e : TypeId),w.heap[k]? = some (.cells cs e (0, 0)) → e ≠ 87 → k ≠ C := fun k cs e h1 h2 h3 => by
  subst h3
  have h4 : w.heap[k]? = _ := hC
  rw [h1] at h4
  simp only [Option.some.injEq,Obj.cells.injEq] at h4
  exact h2 h4.2.1
 refine ⟨h.e.kept fun k hk' => ?_,h.p.keptT fun k h1 h2 h3 h4 => ?_,h.f.kept fun k hk' => ?_,h.c.kept fun k hk' => hk k (fun e => hn (e ▸ hk')),h.eh,h.fh,h.ch⟩
 ·obtain ⟨cs,e⟩ := h.e.type k hk'
  exact hk k (ne k cs _ e (by decide))
 ·have hlt : ∃ c,w.heap[k]? = some c := ⟨_,Array.getElem?_eq_getElem h3⟩
  obtain ⟨c0,hc0⟩ := hlt
  obtain ⟨cs,e,h5,h6⟩ := h4 c0 hc0
  refine hk k (ne k cs e (by rw [hc0,h5]) ?_)
  rcases h6 with rfl | rfl | rfl <;> decide
 ·obtain ⟨cs,e⟩ := h.f.type k hk'
  exact hk k (ne k cs _ e (by decide))
structure AskS (w0 w : World) (T C : Nat) (X : Pc) (R : Prx) (c : Cli) : Prop where
 box : NB w T 48 (.int .i64 R.now) X.e X.w X.m X.k (.int .i64 R.pol.sk.added) X.f X.c (.int .i64 R.hits)
 own : PxOwn w w0.heap.size w.heap.size X R
 le : w0.heap.size ≤ T
 tc : T < C
 cb : CliB w C 87 c
 nc : X.c.ownBlock ≠ some C
 bl : Below w0.heap.size w0 w
theorem AskS.on {w0 w w' : World} {T C : Nat} {X : Pc} {R : Prx} {c : Cli} (H : AskS w0 w T C X R c) (hb : Below w.heap.size w w') : AskS w0 w' T C X R c :=
 ⟨H.box.on hb,(H.own.below hb (Nat.le_refl _)).up,H.le,H.tc,H.cb.on hb,H.nc,H.bl.trans (hb.mono H.bl.size)⟩
theorem AskS.pv {w0 w : World} {T C : Nat} {X : Pc} {R : Prx} {c : Cli} (H : AskS w0 w T C X R c) : PvAt w w0.heap.size T X R := ⟨H.box,H.own,H.le⟩
theorem AskS.setc {w0 w : World} {T C : Nat} {X : Pc} {R : Prx} {c c' : Cli} (H : AskS w0 w T C X R c) {i : Nat} {v : Value} (hc : CliB (w.setCell ⟨C,i,none⟩ v) C 87 c') : AskS w0 (w.setCell ⟨C,i,none⟩ v) T C X R c' :=
 ⟨H.box.far i v (by have := H.tc; omega),(H.own.cbox H.cb H.nc fun k hk => Below.heap_setCell _ _ _ _ (by exact hk)).up,H.le,H.tc,hc,H.nc,H.bl.setCell (by have := H.le; have := H.tc; show _ ≤ C; omega) _⟩
theorem AskS.seth {w0 w : World} {T C : Nat} {X : Pc} {R : Prx} {c : Cli} (H : AskS w0 w T C X R c) (n : Int) : AskS w0 (w.setCell ⟨T, 8,none⟩ (.int .i64 n)) T C X ⟨R.now,R.ents,R.pol,R.fes,R.cls,n⟩ c := by
 have h := (H.own.box (w' := w.setCell ⟨T, 8,none⟩ (.int .i64 n)) H.box (by unfold PxT; decide) (fun j hj => Below.heap_setCell _ _ _ _ (by exact hj))).up
 exact ⟨H.box.set8 _,⟨h.e,h.p,h.f,h.c,h.eh,h.fh,h.ch⟩,H.le,H.tc,H.cb.kept (Below.heap_setCell _ _ _ _ (by show C ≠ T; have := H.tc; omega)),H.nc,H.bl.setCell H.le _⟩
theorem AskS.setPol {w0 w w' : World} {T C : Nat} {X : Pc} {R : Prx} {c : Cli} {Q : Pol} {y1 y2 y3 : Value} (H : AskS w0 w T C X R c) (hb : Below w.heap.size w w') (ho : POwn w' w.heap.size w'.heap.size (.agg #[y1,y2,y3,.int .i64 Q.sk.added]) Q) :
  AskS w0 ((((w'.setCell ⟨T, 2,none⟩ y1).setCell ⟨T, 3,none⟩ y2).setCell ⟨T, 4,none⟩ y3).setCell ⟨T, 5,none⟩ (.int .i64 Q.sk.added)) T C ⟨X.e,y1,y2,y3,X.f,X.c⟩ ⟨R.now,R.ents,Q,R.fes,R.cls,R.hits⟩ c := by
 have hbx := H.box.on hb
 have hlw : w0.heap.size ≤ w.heap.size := H.bl.size
 have hO : PxOwn w' w0.heap.size w'.heap.size ⟨X.e,y1,y2,y3,X.f,X.c⟩ ⟨R.now,R.ents,Q,R.fes,R.cls,R.hits⟩ := by
  have h := (H.own.below hb (Nat.le_refl _)).up
  exact ⟨h.e,ho.mono hlw (Nat.le_refl _),h.f,h.c,h.eh,h.fh,h.ch⟩
 have hx : ∀ j,j ≠ T → ((((w'.setCell ⟨T, 2,none⟩ y1).setCell ⟨T, 3,none⟩ y2).setCell ⟨T, 4,none⟩ y3).setCell ⟨T, 5,none⟩ (.int .i64 Q.sk.added)).heap[j]? = w'.heap[j]? := fun j hj =>
  (Below.heap_setCell _ _ _ _ (by exact hj)).trans ((Below.heap_setCell _ _ _ _ (by exact hj)).trans ((Below.heap_setCell _ _ _ _ (by exact hj)).trans (Below.heap_setCell _ _ _ _ (by exact hj))))
 exact ⟨(((hbx.set2 _).set3 _).set4 _).set5 _,(hO.box hbx (by unfold PxT; decide) hx).up,H.le,H.tc,(H.cb.on hb).kept (hx C (by have := H.tc; omega)),H.nc,((((H.bl.trans (hb.mono hlw)).setCell H.le _).setCell H.le _).setCell H.le _).setCell H.le _⟩
theorem AskS.setSk {w0 w w' : World} {T C : Nat} {X : Pc} {R : Prx} {c : Cli} {S : Sk} {y3 : Value} (H : AskS w0 w T C X R c) (hb : Below w.heap.size w w') (ho : OwnSS w' w.heap.size w'.heap.size y3 S.rows) :
  AskS w0 ((w'.setCell ⟨T, 4,none⟩ y3).setCell ⟨T, 5,none⟩ (.int .i64 S.added)) T C ⟨X.e,X.w,X.m,y3,X.f,X.c⟩ ⟨R.now,R.ents,⟨R.pol.win,R.pol.main,S⟩,R.fes,R.cls,R.hits⟩ c := by
 have hbx := H.box.on hb
 have hlw : w0.heap.size ≤ w.heap.size := H.bl.size
 have hO : PxOwn w' w0.heap.size w'.heap.size ⟨X.e,X.w,X.m,y3,X.f,X.c⟩ ⟨R.now,R.ents,⟨R.pol.win,R.pol.main,S⟩,R.fes,R.cls,R.hits⟩ := by
  have h := (H.own.below hb (Nat.le_refl _)).up
  obtain ⟨v1,v2,v3,e,a1,a2,a3,a4,a5⟩ := id h.p
  simp only [Value.agg.injEq,Array.mk.injEq,List.cons.injEq,and_true] at e
  obtain ⟨rfl,rfl,rfl⟩ := e
  exact ⟨h.e,⟨_,_,_,rfl,a1,a2,a3,a4,ho.mono hlw (Nat.le_refl _)⟩,h.f,h.c,h.eh,h.fh,h.ch⟩
 have hx : ∀ j,j ≠ T → ((w'.setCell ⟨T, 4,none⟩ y3).setCell ⟨T, 5,none⟩ (.int .i64 S.added)).heap[j]? = w'.heap[j]? := fun j hj => (Below.heap_setCell _ _ _ _ (by exact hj)).trans (Below.heap_setCell _ _ _ _ (by exact hj))
 exact ⟨(hbx.set4 _).set5 _,(hO.box hbx (by unfold PxT; decide) hx).up,H.le,H.tc,(H.cb.on hb).kept (hx C (by have := H.tc; omega)),H.nc,((H.bl.trans (hb.mono hlw)).setCell H.le _).setCell H.le _⟩
theorem AskS.setE {w0 w w' : World} {T C : Nat} {X : Pc} {R : Prx} {c : Cli} {L : List En} {y : Value} (H : AskS w0 w T C X R c) (hb : Below w.heap.size w w') (ho : OwnN w' w.heap.size 69 y L) :
  AskS w0 (w'.setCell ⟨T, 1,none⟩ y) T C ⟨y,X.w,X.m,X.k,X.f,X.c⟩ ⟨R.now,L,R.pol,R.fes,R.cls,R.hits⟩ c := by
 have hbx := H.box.on hb
 have hlw : w0.heap.size ≤ w.heap.size := H.bl.size
 have hO : PxOwn w' w0.heap.size w'.heap.size ⟨y,X.w,X.m,X.k,X.f,X.c⟩ ⟨R.now,L,R.pol,R.fes,R.cls,R.hits⟩ := by
  have h := (H.own.below hb (Nat.le_refl _)).up
  exact ⟨ho.mono hlw,h.p,h.f,h.c,fun k hk => (ho.lt k hk).2,h.fh,h.ch⟩
 have hx : ∀ j,j ≠ T → (w'.setCell ⟨T, 1,none⟩ y).heap[j]? = w'.heap[j]? := fun j hj => Below.heap_setCell _ _ _ _ (by exact hj)
 exact ⟨hbx.set1 _,(hO.box hbx (by unfold PxT; decide) hx).up,H.le,H.tc,(H.cb.on hb).kept (hx C (by have := H.tc; omega)),H.nc,(H.bl.trans (hb.mono hlw)).setCell H.le _⟩
theorem AskS.setF {w0 w w' : World} {T C : Nat} {X : Pc} {R : Prx} {c : Cli} {M : List Fet} {y : Value} (H : AskS w0 w T C X R c) (ht : Tch (fun j => X.f.ownBlock = some j) w w') (ho : OwnFet w' w0.heap.size 94 y M) :
  AskS w0 (w'.setCell ⟨T, 6,none⟩ y) T C ⟨X.e,X.w,X.m,X.k,y,X.c⟩ ⟨R.now,R.ents,R.pol,M,R.cls,R.hits⟩ c := by
 have hbx := H.box.kept (ht.2 T H.box.lt (H.pv.far H.own.f.type (by decide)))
 have hO := H.own.setF (grown_tch ht) ho
 have hcf : ¬ X.f.ownBlock = some C := fun e => by
  obtain ⟨cs,h1⟩ := H.own.f.type C e
  have h2 : w.heap[C]? = _ := H.cb
  rw [h1] at h2
  simp only [Option.some.injEq,Obj.cells.injEq] at h2
  exact absurd h2.2.1 (by decide)
 have hx : ∀ j,j ≠ T → (w'.setCell ⟨T, 6,none⟩ y).heap[j]? = w'.heap[j]? := fun j hj => Below.heap_setCell _ _ _ _ (by exact hj)
 exact ⟨hbx.set6 _,(hO.box hbx (by unfold PxT; decide) hx).up,H.le,H.tc,(H.cb.kept (ht.2 C H.cb.lt hcf)).kept (hx C (by have := H.tc; omega)),H.nc,(Tch.below H.bl ht H.bl.size (fun j hj => (H.own.f.lt j hj).1)).setCell H.le _⟩
theorem AskS.join {w0 w w' : World} {T C : Nat} {X : Pc} {R : Prx} {c : Cli} {L : List Cli} {y : Value} (H : AskS w0 w T C X R c) (hb : Below w.heap.size w w') (ho : OwnCli w' w.heap.size 87 y L) :
  PvAt (w'.setCell ⟨T, 7,none⟩ y) w0.heap.size T ⟨X.e,X.w,X.m,X.k,X.f,y⟩ ⟨R.now,R.ents,R.pol,R.fes,L,R.hits⟩ ∧ Below w0.heap.size w0 (w'.setCell ⟨T, 7,none⟩ y) := by
 have hbx := H.box.on hb
 have hlw : w0.heap.size ≤ w.heap.size := H.bl.size
 have hO : PxOwn w' w0.heap.size w'.heap.size ⟨X.e,X.w,X.m,X.k,X.f,y⟩ ⟨R.now,R.ents,R.pol,R.fes,L,R.hits⟩ := by
  have h := (H.own.below hb (Nat.le_refl _)).up
  exact ⟨h.e,h.p,h.f,ho.mono hlw,h.eh,h.fh,fun k hk => (ho.lt k hk).2⟩
 exact ⟨⟨hbx.set7 _,(hO.box hbx (by unfold PxT; decide) (fun j hj => Below.heap_setCell _ _ _ _ (by exact hj))).up,H.le⟩,(H.bl.trans (hb.mono hlw)).setCell H.le _⟩
theorem Tryz.infoEnW : (Tryz.prog.info? 69).map (fun i => (i.zero,i.size,i.bytes)) = some (some (.agg #[.string ⟨#[]⟩,.int .i64 0,.int .i64 0,.string ⟨#[]⟩]), 4, 48) := by kernel_rfl
theorem filterN_on {L : List En} {p : En → Bool} {k : Nat} (hk : k < L.length) {x : En} (hx : L[k] = x) (hp : p x = true) : (L.take (k + 1)).filter p = (L.take k).filter p ++ [x] := by
 rw [List.take_succ_eq_append_getElem hk,List.filter_append,hx]; simp [hp]
theorem filterN_off {L : List En} {p : En → Bool} {k : Nat} (hk : k < L.length) {x : En} (hx : L[k] = x) (hp : p x = false) : (L.take (k + 1)).filter p = (L.take k).filter p := by
 rw [List.take_succ_eq_append_getElem hk,List.filter_append,hx]; simp [hp]
theorem filterN_len (L : List En) (p : En → Bool) (k : Nat) : ((L.take k).filter p).length ≤ L.length := by
 have h1 := List.length_filter_le p (L.take k)
 have h2 : (L.take k).length ≤ L.length := by rw [List.length_take]; omega
 omega
set_option maxRecDepth 100000 in
set_option maxHeartbeats 4000000 in
theorem l16Without_any (w : World) (a : Option Addr) (c : Nat) (L : List En) (key : ByteArray) (hL : NAt w a L w.heap.size) (hm : L.length ≤ 100000) :
  Calls Tryz.prog 49 #[.slice a L.length c,.string key] w fun e' w' => ∃ v,e' = .returned v ∧ OwnN w' w.heap.size 69 v (L.filter fun x => !decide (x.key = key)) ∧ Below w.heap.size w w' := by
 obtain ⟨wb,hwb⟩ : ∃ wb,wb = w := ⟨_,rfl⟩
 subst hwb
 have HD : Hid (∀ wi,Below wb.heap.size wb wi → NAt wi a L wi.heap.size) := fun wi hi => hL.on hi
 obtain ⟨wd,hwd⟩ : ∃ wd,wb.alloc (.cells #[] 69) = wd := ⟨_,rfl⟩
 have HBd : Hid (Below wb.heap.size wb wd) := by show Below _ _ _; rw [← hwd]; exact (Below.refl _ _).alloc (Nat.le_refl _) _
 have HO : Hid (OwnN wd wb.heap.size 69 (.slice (some ⟨wb.heap.size, 0,none⟩) 0 0) []) := by
  show OwnN _ _ _ _ _
  rw [← hwd]
  exact ownN_new wb 69 [] _ rfl (by simp [maxLen])
 have HW : Hid (wb.alloc (.cells #[] 69) = wd) := hwd
 clear hwd hL
 go_enter Tryz.func49,Tryz.ntmps49
 go_wp2_with fail
 rw [HW.out]
 go_loopw [5, 6] (fun s i wr => Box (∃ (k : Nat) (v : Value),k ≤ L.length ∧ i = .int .i64 k ∧ v = s ∧ Below wb.heap.size wb wr ∧ OwnN wr wb.heap.size 69 v ((L.take k).filter fun x => !decide (x.key = key))))
  (fun _ i _ => L.length - (intOf i).toNat)
 case atStart => exact ⟨⟨0,_,by omega,rfl,rfl,HBd.out,HO.out⟩⟩
 case round =>
  obtain ⟨k,v,hk,rfl,hsv,hbel,hown⟩ := hrel.out
  subst hsv
  have hLr := HD.out wr hbel
  have HB : Hid (Below wb.heap.size wb wr) := hbel
  by_cases hlt : k < L.length
  ·obtain ⟨g,off,rfl,hg,hc0,hc1,hc2,hc3⟩ := hLr k hlt
   obtain ⟨x,hx⟩ : ∃ x,L[k] = x := ⟨_,rfl⟩
   rw [hx] at hc0 hc1 hc2 hc3
   have hi1 : (0 : Int) ≤ (k : Int) := by omega
   have hi2 : (k : Int) < (L.length : Int) := by omega
   have HF : Hid (L[k] = x) := hx
   have HOW : Hid (OwnN wr wb.heap.size 69 v ((L.take k).filter fun x => !decide (x.key = key))) := hown
   have hlenf := filterN_len L (fun x => !decide (x.key = key)) k
   clear hx hown hLr hrel hbel
   by_cases he : x.key = key
   ·have hp : (!decide (x.key = key)) = false := by simp [he]
    have HN : Hid (((L.take (k + 1)).filter fun x => !decide (x.key = key)) = (L.take k).filter fun x => !decide (x.key = key)) := filterN_off (p := fun x => !decide (x.key = key)) hlt HF.out hp
    clear hp
    subst he
    go_wp2
    go_roundw
    case rel =>
     try ((repeat apply Exists.intro); refine ⟨?_,rfl⟩)
     exact ⟨⟨k + 1,v,by omega,by go_num,rfl,HB.out.trans ⟨rfl,rfl,rfl,Nat.le_refl _,fun _ _ => rfl⟩,by rw [HN.out]; exact HOW.out⟩⟩
    case measure => simp [intOf]; omega
   ·have hp : Hid ((!decide (x.key = key)) = true) := by show _ = _; simp [he]
    have hz1 := bytes_nk he
    obtain ⟨wq,hwq⟩ : ∃ wq,wr = wq := ⟨_,rfl⟩
    have HQ : Hid (Below wb.heap.size wb wq ∧ OwnN wq wb.heap.size 69 v ((L.take k).filter fun x => !decide (x.key = key))) := by
     rw [← hwq]
     exact ⟨HB.out.trans ⟨rfl,rfl,rfl,Nat.le_refl _,fun _ _ => rfl⟩,HOW.out⟩
    have d0 : wq.cell? ⟨g,off + k * 4,none⟩ = some (.string x.key) := by rw [← hwq]; exact hc0
    have d1 : wq.cell? ⟨g,off + k * 4 + 1,none⟩ = some (.int .i64 x.st) := by rw [← hwq]; exact hc1
    have d2 : wq.cell? ⟨g,off + k * 4 + 2,none⟩ = some (.int .i64 x.lf) := by rw [← hwq]; exact hc2
    have d3 : wq.cell? ⟨g,off + k * 4 + 3,none⟩ = some (.string x.bd) := by rw [← hwq]; exact hc3
    rw [hwq]
    clear hwq hc0 hc1 hc2 hc3 HOW HB
    go_wp2_with (at_builtin; refine wpList_plusN rfl (.tmp 21) (.tmp 26) 41 rfl wb.heap.size 69 Tryz.underlying41 Tryz.infoEnW v ((L.take k).filter fun x => !decide (x.key = key)) rfl HQ.out.2 [x] _ rfl rfl (by simp only [List.length_singleton]; omega) HQ.out.1.size ?_; intro v2 w2 ho2 hg2)
    have HB2 : Hid (Below wb.heap.size wb w2) := Below.grown HQ.out.1 hg2 HQ.out.1.size (fun j hj => (HQ.out.2.lt j hj).1)
    rw [← filterN_on (p := fun x => !decide (x.key = key)) hlt HF.out hp.out] at ho2
    clear hg2 HQ
    go_roundw
    case rel =>
     try ((repeat apply Exists.intro); refine ⟨?_,rfl⟩)
     exact ⟨⟨k + 1,v2,by omega,by go_num,rfl,HB2.out,ho2⟩⟩
    case measure => simp [intOf]; omega
  ·have hke : k = L.length := by omega
   rw [hke,List.take_length] at hown
   have HOW : Hid (OwnN wr wb.heap.size 69 v (L.filter fun x => !decide (x.key = key)) ∧ Below wb.heap.size wb wr) := ⟨hown,HB.out⟩
   clear hown hLr hrel hbel
   go_wp2
   go_ret
   exact ⟨_,rfl,HOW.out.1,HOW.out.2⟩
theorem offE_filter (E : List En) (key : ByteArray) : (E.filter fun x => !decide (x.key = key)) = offE E key := by
 unfold offE keepX
 refine List.filter_congr fun x _ => ?_
 show (!decide (x.key = key)) = !(eqS x.key key)
 by_cases h : x.key = key
 ·rw [decide_eq_true h,eqS_iff.2 h]
 ·rw [decide_eq_false h]
  cases hb : eqS x.key key with
  | true => exact absurd (eqS_iff.1 hb) h
  | false => rfl
theorem nohas {P : Prx} {key : ByteArray} (h : OkX P) (hno : (entAtX P.ents key).2 = false) : offE P.ents key = P.ents ∧ dropP P.pol key = P.pol := by
 have hn : ∀ x ∈ P.ents, ¬ x.key = key := fun x hx e => by
  unfold entAtX at hno
  cases hf : P.ents.find? (fun x => decide (x.key = key)) with
  | none => rw [List.find?_eq_none] at hf; exact hf x hx (by simpa using e)
  | some y => rw [hf] at hno; cases hno
 constructor
 ·rw [← offE_filter]
  exact List.filter_eq_self.2 fun x hx => by simpa using hn x hx
 ·have hk : ∀ z ∈ P.pol.win ++ P.pol.main, ¬ z = key := fun z hz e => by
   have h1 : hasP P.pol key = true := by
    unfold hasP
    rw [Bool.or_eq_true,inL_iff,inL_iff, ← List.mem_append, ← e]
    exact hz
   obtain ⟨x,hx,hxe⟩ := (h.has key).1 h1
   exact hn x hx hxe
  have hw : without P.pol.win key = P.pol.win := List.filter_eq_self.2 fun z hz => by simpa using hk z (List.mem_append_left _ hz)
  have hm : without P.pol.main key = P.pol.main := List.filter_eq_self.2 fun z hz => by simpa using hk z (List.mem_append_right _ hz)
  unfold dropP
  rw [hw,hm]
theorem waitR_has (P : Prx) (id : Int) (key : ByteArray) {z : Nat} (hz : askAt P key = z) : waitR P id key = ⟨P.now,P.ents.filter (fun x => !decide (x.key = key)),⟨(dropP P.pol key).win,(dropP P.pol key).main,bumpS (dropP P.pol key).sk key⟩,waitF P.fes key z,insC P.cls (waitC P.fes id key z),P.hits⟩ := by
 unfold waitR
 rw [hz,offE_filter]
 rfl
theorem waitR_none {P : Prx} (id : Int) {key : ByteArray} {z : Nat} (h : OkX P) (hno : (entAtX P.ents key).2 = false) (hz : askAt P key = z) : waitR P id key = ⟨P.now,P.ents,⟨P.pol.win,P.pol.main,bumpS P.pol.sk key⟩,waitF P.fes key z,insC P.cls (waitC P.fes id key z),P.hits⟩ := by
 obtain ⟨h1,h2⟩ := nohas h hno
 unfold waitR
 rw [hz,h1]
 unfold waitP
 rw [h2]
theorem ents_six {P : Prx} (h : OkX P) : P.ents.length ≤ 6 := by
 have := okP_iff.1 h.pol
 have h1 := h.len
 omega
theorem open_one {P : Prx} (h : OkX P) {key : ByteArray} {j : Nat} (hj : j < P.fes.length) (hp : openP key P.fes[j] = true) : ∀ n (hn : n < P.fes.length),openP key P.fes[n] = true ↔ n = j := fun n hn => by
 unfold openP at *
 rw [Bool.and_eq_true,eqS_iff,beq_iff_eq] at hp
 constructor
 ·intro h1
  rw [Bool.and_eq_true,eqS_iff,beq_iff_eq] at h1
  exact h.one n j hn hj h1.2 hp.2 (h1.1.trans hp.1.symm)
 ·rintro rfl
  rw [Bool.and_eq_true,eqS_iff,beq_iff_eq]
  exact hp
theorem waitC_open {F : List Fet} {id : Int} {key : ByteArray} {j : Nat} (hj : j < F.length) : waitC F id key j = ⟨id,key,(j : Int) + 1, 0, 1,F[j].tx, 0⟩ ∧ waitF F key j = F := by
 have e : waitF F key j = F := by unfold waitF; rw [if_neg (by omega)]
 unfold waitC
 rw [e,getD_of hj]
 exact ⟨rfl,rfl⟩
theorem waitC_new {F : List Fet} {id : Int} {key : ByteArray} : waitC F id key F.length = ⟨id,key,(F.length : Int) + 1, 0, 1,⟨#[]⟩, 0⟩ ∧ waitF F key F.length = F ++ [newF key] := by
 have e : waitF F key F.length = F ++ [newF key] := by unfold waitF; rw [if_pos rfl]
 unfold waitC
 rw [e,getD_of (by simp),List.getElem_append_right (Nat.le_refl _)]
 simp only [Nat.sub_self,List.getElem_cons_zero,newF]
 exact ⟨trivial,trivial⟩
theorem ownV_of_row {w : World} {base : Nat} {v : Value} {l : List Int} (h : w.ownsRow base 3 1 v l.length (ints l)) : OwnV w base 3 v (ints l) := by unfold OwnV; rw [ints_length]; exact h
set_option maxRecDepth 100000 in
set_option maxHeartbeats 4000000 in
theorem l12Copy_any (w : World) (a : Option Addr) (c : Nat) (S : Sk) (hA : SSAt w a S.rows w.heap.size) (hm : SkSz S) :
  Calls Tryz.prog 111 #[.agg #[.slice a S.rows.length c,.int .i64 S.added]] w fun e w' => ∃ v,e = .returned v ∧ SkOwn w' w.heap.size w'.heap.size v S ∧ Below w.heap.size w w' := by
 obtain ⟨rows,added⟩ := S
 unfold SkSz at hm
 dsimp only at *
 obtain ⟨w0,hw0⟩ : ∃ x,w.alloc (.cells #[.slice a rows.length c,.int .i64 added] 42) = x := ⟨_,rfl⟩
 obtain ⟨w1,hw1⟩ : ∃ x,w0.alloc (.cells #[.slice none 0 0,.int .i64 0] 42) = x := ⟨_,rfl⟩
 obtain ⟨w2,hw2⟩ : ∃ x,w1.alloc (.cells #[.slice none 0 0,.int .i64 added] 42) = x := ⟨_,rfl⟩
 have hb0 : Below w.heap.size w w0 := by rw [← hw0]; exact (Below.refl _ _).alloc (Nat.le_refl _) _
 have hb1 : Below w0.heap.size w0 w1 := by rw [← hw1]; exact (Below.refl _ _).alloc (Nat.le_refl _) _
 have hb2 : Below w1.heap.size w1 w2 := by rw [← hw2]; exact (Below.refl _ _).alloc (Nat.le_refl _) _
 have s0 : w0.heap.size = w.heap.size + 1 := by rw [← hw0]; simp
 have s1 : w1.heap.size = w.heap.size + 1 + 1 := by rw [← hw1]; simp; omega
 have s2 : w2.heap.size = w.heap.size + 1 + 1 + 1 := by rw [← hw2]; simp; omega
 have hb12 : Below w0.heap.size w0 w2 := hb1.trans (hb2.mono hb1.size)
 have hbw : Below w.heap.size w w2 := hb0.trans (hb12.mono hb0.size)
 have hB0 : SkBox w0 w.heap.size (.slice a rows.length c) (.int .i64 added) := by rw [← hw0]; exact SkBox.new _ _ _
 have hB : SkBox w2 w.heap.size (.slice a rows.length c) (.int .i64 added) := hB0.on hb12
 have hR : SkBox w2 (w.heap.size + 1) (.slice none 0 0) (.int .i64 0) := by
  have h : SkBox w1 (w.heap.size + 1) (.slice none 0 0) (.int .i64 0) := by rw [← hw1, ← s0]; exact SkBox.new _ _ _
  exact h.on hb2
 have hT : SkBox w2 (w.heap.size + 1 + 1) (.slice none 0 0) (.int .i64 added) := by rw [← hw2, ← s1]; exact SkBox.new _ _ _
 have HW : Hid (((w.alloc (.cells #[.slice a rows.length c,.int .i64 added] 42)).alloc (.cells #[.slice none 0 0,.int .i64 0] 42)).alloc (.cells #[.slice none 0 0,.int .i64 added] 42) = w2) := by rw [hw0,hw1]; exact hw2
 have bb := (hB0.on hb1).cells
 obtain ⟨b0,b1⟩ := bb
 rw [← hw1, ← hw0] at b0 b1
 clear hw0 hw1 hw2 s0 s1 hb0 hb1 hb2 hb12 hB0
 go_enter Tryz.func111,Tryz.ntmps111
 go_wp2
 rw [HW.out]
 clear b0 b1
 go_loopw [4] (fun i wr => Box (∃ (k : Nat) (v : Value),k ≤ rows.length ∧ i = .int .i64 k ∧ SkBox wr w.heap.size (.slice a rows.length c) (.int .i64 added) ∧ SkBox wr (w.heap.size + 1) (.slice none 0 0) (.int .i64 0) ∧ SkBox wr (w.heap.size + 1 + 1) v (.int .i64 added) ∧ OwnSS wr (w.heap.size + 3) wr.heap.size v (rows.take k) ∧ Below w.heap.size w wr ∧ w.heap.size + 3 ≤ wr.heap.size))
  (fun i _ => rows.length - (intOf i).toNat)
 case atStart => exact ⟨⟨0,_,by omega,rfl,hB,hR,hT,OwnSS.nil _ _ _,hbw,by omega⟩⟩
 case round =>
  obtain ⟨k,v,hk,rfl,hB1,hR1,hT1,hown,hbel,hsz⟩ := hrel.out
  by_cases hlt : k < rows.length
  ·obtain ⟨vs,hv,hvb,hvl,hvr,hvd⟩ := hown
   obtain ⟨g,off,ai,ci,rfl,hg,hc,hI⟩ := (hA.below hbel (Nat.le_refl _)) k hlt
   have hlen := tot_at rows k hlt
   have HTK : Hid (rows.take (k + 1) = rows.take k ++ [rows[k]]) := List.take_succ_eq_append_getElem hlt
   have hgs : g < wr.heap.size := Nat.lt_of_lt_of_le hg hbel.size
   obtain ⟨r,hr⟩ : ∃ r,rows[k] = r := ⟨_,rfl⟩
   rw [hr] at hc hI HTK hlen
   have HSI : Hid ((ai = none → r.length = 0) ∧ ∀ W,Below wr.heap.size wr W → ∀ ad,ai = some ad → ∀ j u,(ints r)[j]? = some u → W.cell? (ad.add j) = some u) := ⟨hI.srcI.1,fun W hW => ((hI.mono hbel.size).on hW).srcI.2⟩
   have KC : ∀ W,Below wr.heap.size wr W → W.cell? ⟨w.heap.size, 0,none⟩ = some (.slice (some ⟨g,off,none⟩) rows.length c) ∧ W.cell? ⟨w.heap.size + 1 + 1, 0,none⟩ = some v ∧ W.cell? ⟨g,off + k,none⟩ = some (.slice ai r.length ci) := fun W h => ⟨(hB1.on h).cells.1,(hT1.on h).cells.1,(h.cell hgs).trans hc⟩
   have HKC : Hid (∀ W,Below wr.heap.size wr W → W.cell? ⟨w.heap.size, 0,none⟩ = some (.slice (some ⟨g,off,none⟩) rows.length c) ∧ W.cell? ⟨w.heap.size + 1 + 1, 0,none⟩ = some v ∧ W.cell? ⟨g,off + k,none⟩ = some (.slice ai r.length ci)) := KC
   obtain ⟨d0,d1,d2⟩ := KC wr (Below.refl _ _)
   have hbE : Below wr.heap.size wr (wr.alloc (.cells #[] 3)) := (Below.refl _ _).alloc (Nat.le_refl _) _
   have hbEd : Below wr.heap.size wr (wr.alloc (.cells #[] 3)).drew := hbE.trans ⟨rfl,rfl,rfl,Nat.le_refl _,fun _ _ => rfl⟩
   obtain ⟨e0,e1,e2⟩ := KC _ hbE
   have hvk : vs.length = k := by rw [hvl,List.length_take]; omega
   have hvk1 : (vs.length + 1) * 24 ≤ 140737488355328 := by omega
   have hvk2 : vs.length < 140737488355328 := by omega
   have HV : Hid (∀ W,Below wr.heap.size wr W → OwnV W (w.heap.size + 3) 36 v vs ∧ w.heap.size + 3 ≤ W.heap.size) := fun W h => ⟨hv.below h (Nat.le_refl _),Nat.le_trans hsz h.size⟩
   have HG : Hid (∀ v' u wx w3,Below wr.heap.size wr wx → OwnV wx wr.heap.size 3 u (ints r) → OwnV w3 (w.heap.size + 3) 36 v' (vs ++ [u]) → wx.grownBy w3 v.ownBlock → w3.cell? ⟨w.heap.size + 1 + 1, 0,none⟩ = some v ∧ w3.frozen? ⟨w.heap.size + 1 + 1, 0,none⟩ = false ∧ Hid (SkBox (w3.setCell ⟨w.heap.size + 1 + 1, 0,none⟩ v') w.heap.size (.slice (some ⟨g,off,none⟩) rows.length c) (.int .i64 added) ∧ SkBox (w3.setCell ⟨w.heap.size + 1 + 1, 0,none⟩ v') (w.heap.size + 1) (.slice none 0 0) (.int .i64 0) ∧ SkBox (w3.setCell ⟨w.heap.size + 1 + 1, 0,none⟩ v') (w.heap.size + 1 + 1) v' (.int .i64 added) ∧ OwnSS (w3.setCell ⟨w.heap.size + 1 + 1, 0,none⟩ v') (w.heap.size + 3) (w3.setCell ⟨w.heap.size + 1 + 1, 0,none⟩ v').heap.size v' (rows.take (k + 1)) ∧ Below w.heap.size w (w3.setCell ⟨w.heap.size + 1 + 1, 0,none⟩ v') ∧ w.heap.size + 3 ≤ (w3.setCell ⟨w.heap.size + 1 + 1, 0,none⟩ v').heap.size)) := by
    intro v' u wx w3 hbx hu ho hg3
    obtain ⟨g1,g2,g3,g4,g5,g6⟩ := gatherSS hT1 (by omega) hsz hbel (by omega) hv hvl hvr hvd hbx hu hg3 ho
    refine ⟨g1,g2,hB1.kept (g5 _ (by omega) (by omega)),hR1.kept (g5 _ (by omega) (by omega)),g3, ?_,g6, ?_⟩
    ·rw [HTK.out]; exact g4
    ·have := hg3.size
     have := hbx.size
     simp
     omega
   have hrl : r.length ≤ 1048576 := by omega
   clear hrel hB hR hT hbw hA hB1 hR1 hT1 hv hvb hvl hvr hvd hbel hI hc hlen hvk KC hr hbE
   have hi1 : (0 : Int) ≤ (k : Int) := by omega
   have hi2 : (k : Int) < (rows.length : Int) := by omega
   go_wp2
   go_region_law (first
    | (refine step_allI rfl (.tmp 17) (.tmp 22) 36 rfl 3 Tryz.underlying36 (.int .i64 0) 1 8 Tryz.infoInt rfl (by omega) (by omega) wr.heap.size rfl (by exact heap_alloc_new _ _) ai r.length ci (ints r) rfl (by rw [ints_length]; omega) HSI.out.1 (HSI.out.2 _ hbEd) (ints_one' r) hrl ?_; rintro g4 c4 w4 o4 b4 n4 k4; have hb4 : Below wr.heap.size wr w4 := hbEd.trans b4; have hu4 := ownV_of_row o4; have hb5 : Below wr.heap.size wr (w4.alloc (.cells #[.slice (some ⟨g4, 0,none⟩) r.length c4] 36)) := hb4.alloc hb4.size _; have hu5 := hu4.alloc (.cells #[.slice (some ⟨g4, 0,none⟩) r.length c4] 36); have f1 := (HKC.out _ hb4).2.1; have f2 := (HKC.out _ hb5).2.1; have HV5 := HV.out _ hb5; clear o4 b4 n4 k4)
    | (refine step_snocO (by rfl) _ _ 24 (by rfl) (w.heap.size + 3) 36 Tryz.underlying24 (.slice none 0 0) 24 Tryz.infoIntS rfl v vs (by rfl) (by exact HV5.1) w4.heap.size (.slice (some ⟨g4, 0,none⟩) r.length c4) (0, 0) (by rfl) (by exact heap_alloc_new w4 _) rfl hvk1 hvk2 (by exact HV5.2) ?_; intro g6 c6 w6 hown6 hgr6; have hk6 := HG.out _ _ _ w6 hb5 hu5 hown6 hgr6; have q6 := hk6.1; have z6 := hk6.2.1; have HK6 := hk6.2.2; clear hk6 hown6 hgr6))
   all_goals (
    clear hb4 hb5 hu4 hu5 f1 f2 HV5 q6 z6 HV HG HSI HKC d0 d1 d2 e0 e1 e2 hbEd
    go_wp2
    refine ⟨?_, ?_⟩
    ·exact ⟨⟨k + 1,_,by omega,by go_num,HK6.out.1,HK6.out.2.1,HK6.out.2.2.1,HK6.out.2.2.2.1,HK6.out.2.2.2.2.1,HK6.out.2.2.2.2.2⟩⟩
    ·simp [intOf]; omega)
  ·have hke : k = rows.length := by omega
   subst hke
   rw [List.take_length] at hown
   obtain ⟨av,cv,rfl,_⟩ := hown.at
   obtain ⟨b0,b1⟩ := hB1.cells
   obtain ⟨t0,t1⟩ := hT1.cells
   obtain ⟨r0,r1⟩ := hR1.cells
   have f0 := hR1.thaw 0
   have f1 := hR1.thaw 1
   have HO : Hid (OwnSS wr (w.heap.size + 3) wr.heap.size (.slice av rows.length cv) rows) := hown
   clear hrel hown hT1 hlt hB hR hT hbw hA hB1
   go_wp2
   obtain ⟨q0,q1⟩ := (hR1.put (.slice av rows.length cv) (.int .i64 added)).cells
   refine bodyPost_ret (v := .agg #[.slice av rows.length cv,.int .i64 added]) (by simp [results,Tryz.results111,go_sem,q0,q1]) rfl ⟨_,rfl,⟨_,rfl, ?_⟩,Below.put2 hbel (by omega) _ _⟩
   refine (HO.out.put2 hR1 _ _).mono (by omega) ?_
   simp
end Go.Proofs.YtpgcfgbhkodmeaaGreatDoor
