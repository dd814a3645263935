/- Texts that stand in one: HallSet, IdxEnt, DelEnt, Forget, DelFunc, PolDropImpl. -/
import Derived.Test.YtaahjcljanckaaaGreatDoorHallKitJ
import Derived.Test.YtaahjcljanckaaaGreatDoorPxSlicesJ
import Derived.Test.YtaahjcljanckaaaGreatDoorFindPlainJ
import Derived.Test.YtaahjcljanckaaaGreatDoorFilesJ
import Derived.Deep.RegionLaw
import Derived.Shelf.Abstract
import Derived.Test.YtaahjcljanckaaaGreatDoorEntPlaceJ
import Derived.Test.YtaahjcljanckaaaGreatDoorHallSeatJ
import Derived.Test.YtaahjcljanckaaaGreatDoorCliLawJ
import Derived.Lib.SliceRun
import Derived.Test.YtaahjcljanckaaaGreatDoorPolSzTextJ
namespace Go.Proofs.YtaahjcljanckaaaGreatDoor
open Go.RowKit Go.Sort
theorem HallAt.setPol {w w' : World} {lo T : Nat} {X : Pc} {R : Prx} {Q : Pol} {y1 y2 y3 : Value} (H : HallAt w lo T X R) (hb : Below w.heap.size w w') (ho : POwn w' w.heap.size w'.heap.size (.agg #[y1,y2,y3,.int .i64 Q.sk.added]) Q) :
  HallAt ((((w'.setCell ⟨T, 2,none⟩ y1).setCell ⟨T, 3,none⟩ y2).setCell ⟨T, 4,none⟩ y3).setCell ⟨T, 5,none⟩ (.int .i64 Q.sk.added)) lo T ⟨X.e,y1,y2,y3,X.f,X.c⟩ ⟨R.now,R.ents,Q,R.fes,R.cls,R.hits⟩ ∧ Below lo w ((((w'.setCell ⟨T, 2,none⟩ y1).setCell ⟨T, 3,none⟩ y2).setCell ⟨T, 4,none⟩ y3).setCell ⟨T, 5,none⟩ (.int .i64 Q.sk.added)) := by
 have hbx := H.box.on hb
 have hO : PxOwn w' lo w'.heap.size ⟨X.e,y1,y2,y3,X.f,X.c⟩ ⟨R.now,R.ents,Q,R.fes,R.cls,R.hits⟩ := by
  have h := (H.own.below hb (Nat.le_refl _)).up
  exact ⟨h.e,ho.mono H.lt (Nat.le_refl _),h.f,h.c,h.eh,h.fh,h.ch⟩
 refine ⟨⟨(((hbx.set2 _).set3 _).set4 _).set5 _,(hO.box hbx (by unfold PxT; decide) (fun j hj => ?_)).up,H.le⟩, ?_⟩
 ·exact (Below.heap_setCell _ _ _ _ (by exact hj)).trans ((Below.heap_setCell _ _ _ _ (by exact hj)).trans ((Below.heap_setCell _ _ _ _ (by exact hj)).trans (Below.heap_setCell _ _ _ _ (by exact hj))))
 ·exact ((((hb.mono H.lt).setCell H.le _).setCell H.le _).setCell H.le _).setCell H.le _
theorem HallAt.setSk {w w' : World} {lo T : Nat} {X : Pc} {R : Prx} {S : Sk} {y3 : Value} (H : HallAt w lo T X R) (hb : Below w.heap.size w w') (ho : OwnSS w' w.heap.size w'.heap.size y3 S.rows) :
  HallAt ((w'.setCell ⟨T, 4,none⟩ y3).setCell ⟨T, 5,none⟩ (.int .i64 S.added)) lo T ⟨X.e,X.w,X.m,y3,X.f,X.c⟩ ⟨R.now,R.ents,⟨R.pol.win,R.pol.main,S⟩,R.fes,R.cls,R.hits⟩ ∧ Below lo w ((w'.setCell ⟨T, 4,none⟩ y3).setCell ⟨T, 5,none⟩ (.int .i64 S.added)) := by
 have hbx := H.box.on hb
 have hO : PxOwn w' lo w'.heap.size ⟨X.e,X.w,X.m,y3,X.f,X.c⟩ ⟨R.now,R.ents,⟨R.pol.win,R.pol.main,S⟩,R.fes,R.cls,R.hits⟩ := by
  have h := (H.own.below hb (Nat.le_refl _)).up
  obtain ⟨v1,v2,v3,e,a1,a2,a3,a4,a5⟩ := id h.p
  simp only [Value.agg.injEq,Array.mk.injEq,List.cons.injEq,and_true] at e
  obtain ⟨rfl,rfl,rfl⟩ := e
  exact ⟨h.e,⟨_,_,_,rfl,a1,a2,a3,a4,ho.mono H.lt (Nat.le_refl _)⟩,h.f,h.c,h.eh,h.fh,h.ch⟩
 refine ⟨⟨(hbx.set4 _).set5 _,(hO.box hbx (by unfold PxT; decide) (fun j hj => ?_)).up,H.le⟩, ?_⟩
 ·exact (Below.heap_setCell _ _ _ _ (by exact hj)).trans (Below.heap_setCell _ _ _ _ (by exact hj))
 ·exact ((hb.mono H.lt).setCell H.le _).setCell H.le _
theorem HallAt.storeF {w w' : World} {lo T : Nat} {X : Pc} {R : Prx} {M : List Fet} {y : Value} (H : HallAt w lo T X R) (ht : Tch (fun j => X.f.ownBlock = some j) w w') (ho : OwnFet w' lo 84 y M) :
  HallAt (w'.setCell ⟨T, 6,none⟩ y) lo T ⟨X.e,X.w,X.m,X.k,y,X.c⟩ ⟨R.now,R.ents,R.pol,M,R.cls,R.hits⟩ ∧ Below lo w (w'.setCell ⟨T, 6,none⟩ y) := by
 have hbx := H.box.kept (ht.2 T H.box.lt (H.far H.own.f.type (by decide)))
 have hO := H.own.setF (grown_tch ht) ho
 exact ⟨⟨hbx.set6 _,(hO.box hbx (by unfold PxT; decide) (fun j hj => Below.heap_setCell _ _ _ _ (by exact hj))).up,H.le⟩,(Tch.below (Below.refl _ _) ht H.lt (fun j hj => (H.own.f.lt j hj).1)).setCell H.le _⟩
set_option maxHeartbeats 2000000 in
theorem indexEnt_any (g : Nat) (lb : Array Value) (p : En → Bool) (eg : ∀ args w,(callFunc g args).run Tryz.prog w = .ok (.enter g args) w) (w : World) (a : Option Addr) (cap : Nat) (L : List (En)) (hL : NAt w a L w.heap.size) (hm : L.length ≤ 10000000)
  (hp : ∀ (W : World) (x : En),Below w.heap.size w W → Calls Tryz.prog g (#[.agg #[.string x.key,.int .i64 x.st,.int .i64 x.lf,.string x.bd]] ++ lb) W fun e w' => e = .returned (.bool (p x)) ∧ Below w.heap.size w w') :
  Calls Tryz.prog 94 #[.slice a L.length cap,.func (.func g) #[] lb] w fun e w' => e = .returned (.int .i64 (idxX p L)) ∧ Below w.heap.size w w' := by
 go_enter Tryz.func94,Tryz.ntmps94
 go_wp2
 go_loopw [5, 8] (fun _ i wr => Box (∃ k : Nat,k ≤ L.length ∧ i = .int .i64 k ∧ Below w.heap.size w wr ∧ ∀ j (hj : j < k) (hl : j < L.length),p L[j] = false))
  (fun _ i _ => L.length - (intOf i).toNat)
 case atStart => exact ⟨⟨0,by omega,rfl,Below.refl _ _,fun j hj => absurd hj (Nat.not_lt_zero _)⟩⟩
 case round =>
  obtain ⟨k,hk,rfl,hb,hno⟩ := hrel.out
  by_cases hlt : k < L.length
  ·obtain ⟨g1,off,rfl,_,hc0,hc1,hc2,hc3⟩ := (hL.below hb (Nat.le_refl _)) k hlt
   obtain ⟨f,hf⟩ : ∃ f,L[k] = f := ⟨_,rfl⟩
   have HF : Hid (L[k] = f) := hf
   rw [hf] at hc0 hc1 hc2 hc3
   have hcall := hp wr f hb
   have HNO : Hid (∀ j (hj : j < k) (hl : j < L.length),p L[j] = false) := hno
   clear hL hp hf hno hrel
   have hi1 : (0 : Int) ≤ (k : Int) := by omega
   have hi2 : (k : Int) < (L.length : Int) := by omega
   cases hq : p f with
   | true =>
    rw [hq] at hcall
    go_wp2_with (go_at_fn g; refine hcall.mono ?_; rintro e w' ⟨rfl,hb'⟩)
    go_ret
    refine ⟨?_,hb'⟩
    rw [idxX_hit hlt (by rw [HF.out]; exact hq) (fun j hj => HNO.out j hj (by omega))]
    rfl
   | false =>
    rw [hq] at hcall
    go_wp2_with (go_at_fn g; refine hcall.mono ?_; rintro e w' ⟨rfl,hb'⟩)
    go_roundw
    case rel =>
     try ((repeat apply Exists.intro); refine ⟨?_,rfl⟩)
     refine ⟨⟨k + 1,by omega,by go_num,hb',fun j hj hl => ?_⟩⟩
     by_cases e : j = k
     ·subst e
      rw [HF.out]; exact hq
     ·exact HNO.out j (by omega) hl
    case measure => simp [intOf]; omega
  ·have hi2 : ¬ (k : Int) < (L.length : Int) := by omega
   go_wp2
   go_ret
   refine ⟨?_,hb⟩
   rw [idxX_miss (fun x hx => by
    obtain ⟨j,hj,rfl⟩ := List.getElem_of_mem hx
    exact hno j (by omega) hj)]
   rfl
theorem zeroEnt_len (n : Nat) : (Builtin.zeroCells (Value.agg #[.string ⟨#[]⟩,.int .i64 0,.int .i64 0,.string ⟨#[]⟩]).cells n).toList.length = n * 4 := by simp [Builtin.zeroCells,Value.cells]
theorem zeroEnt_one (n : Nat) : ∀ v ∈ (Builtin.zeroCells (Value.agg #[.string ⟨#[]⟩,.int .i64 0,.int .i64 0,.string ⟨#[]⟩]).cells n).toList,v.oneCell' = true := by
 intro v hv
 simp only [Builtin.zeroCells,Array.toList_map,List.mem_map] at hv
 obtain ⟨i,_,rfl⟩ := hv
 have h2 : (Value.agg #[.string ⟨#[]⟩,.int .i64 0,.int .i64 0,.string ⟨#[]⟩]).cells = #[.string ⟨#[]⟩,.int .i64 0,.int .i64 0,.string ⟨#[]⟩] := rfl
 rw [h2]
 have h3 : i % (#[Value.string ⟨#[]⟩,.int .i64 0,.int .i64 0,.string ⟨#[]⟩]).size = 0 ∨ i % (#[Value.string ⟨#[]⟩,.int .i64 0,.int .i64 0,.string ⟨#[]⟩]).size = 1 ∨ i % (#[Value.string ⟨#[]⟩,.int .i64 0,.int .i64 0,.string ⟨#[]⟩]).size = 2 ∨ i % (#[Value.string ⟨#[]⟩,.int .i64 0,.int .i64 0,.string ⟨#[]⟩]).size = 3 := by simp; omega
 rcases h3 with h3 | h3 | h3 | h3 <;> rw [h3] <;> rfl
theorem OwnN.row {w : World} {base G n c : Nat} {e : TypeId} {L : List En} (h : OwnN w base e (.slice (some ⟨G, 0,none⟩) n c) L) : ∃ cur : List Value,w.heap[G]? = some (.cells cur.toArray e (0, 0)) ∧ base ≤ G ∧ n = L.length ∧ L.length ≤ c ∧ c ≤ maxLen ∧ cur.length = c * 4 ∧ cur.take (L.length * 4) = enl L := by
 rcases h.2 with ⟨e1,_⟩ | ⟨g',cp,cur,e1,h1,h2,h3,h4,h5,h6⟩
 ·cases e1
 ·simp only [Value.slice.injEq,Option.some.injEq,Addr.mk.injEq,and_true] at e1
  obtain ⟨rfl,rfl,rfl⟩ := e1
  exact ⟨cur.toList,by simpa using h2,h1,rfl,h3,h4,by simpa using h5,h6⟩
theorem OwnN.of_row {w : World} {base G c : Nat} {e : TypeId} {L : List En} {cur : List Value} (h2 : w.heap[G]? = some (.cells cur.toArray e (0, 0))) (h1 : base ≤ G) (h3 : L.length ≤ c) (h4 : c ≤ maxLen) (h5 : cur.length = c * 4) (h6 : cur.take (L.length * 4) = enl L) : OwnN w base e (.slice (some ⟨G, 0,none⟩) L.length c) L :=
 ⟨by rw [enl_length],.inr ⟨G,c,cur.toArray,rfl,h1,h2,h3,h4,by simpa using h5,by simpa using h6⟩⟩
theorem OwnN.cellP {w : World} {base G n c : Nat} {e : TypeId} {L : List En} (h : OwnN w base e (.slice (some ⟨G, 0,none⟩) n c) L) (j : Nat) (hj : j < L.length) : w.cell? ⟨G,j * 4,none⟩ = some (.string L[j].key) ∧ w.cell? ⟨G,j * 4 + 1,none⟩ = some (.int .i64 L[j].st) ∧ w.cell? ⟨G,j * 4 + 2,none⟩ = some (.int .i64 L[j].lf) ∧ w.cell? ⟨G,j * 4 + 3,none⟩ = some (.string L[j].bd) := by
 obtain ⟨a,cp,e1,hA⟩ := h.at
 simp only [Value.slice.injEq] at e1
 obtain ⟨rfl,_,_⟩ := e1
 obtain ⟨g,off,e2,_,q0,q1,q2,q3⟩ := hA j hj
 simp only [Option.some.injEq,Addr.mk.injEq,and_true] at e2
 obtain ⟨rfl,rfl⟩ := e2
 rw [Nat.zero_add] at q0 q1 q2 q3
 exact ⟨q0,q1,q2,q3⟩
theorem Tryz.zeroXEnt : ∀ w,(zeroValue 65).run Tryz.prog w = .ok (.agg #[.string ⟨#[]⟩,.int .i64 0,.int .i64 0,.string ⟨#[]⟩]) w := by intro w; kernel_rfl
set_option maxRecDepth 100000 in
set_option maxHeartbeats 4000000 in
theorem deleteEnt_row (g : Nat) (lb : Array Value) (p : En → Bool) (eg : ∀ args w,(callFunc g args).run Tryz.prog w = .ok (.enter g args) w) (w : World) (base G c : Nat) (L : List (En)) (ho : OwnN w base 65 (.slice (some ⟨G, 0,none⟩) L.length c) L) (hm : L.length ≤ 1048576)
  (hp : ∀ (W : World) (x : En),Tch (fun k => k = G) w W → Calls Tryz.prog g (#[.agg #[.string x.key,.int .i64 x.st,.int .i64 x.lf,.string x.bd]] ++ lb) W fun e w' => e = .returned (.bool (p x)) ∧ Below W.heap.size W w') :
  Calls Tryz.prog 70 #[.slice (some ⟨G, 0,none⟩) L.length c,.func (.func g) #[] lb] w fun e w' => ∃ n c',e = .returned (.slice (some ⟨G, 0,none⟩) n c') ∧ OwnN w' base 65 (.slice (some ⟨G, 0,none⟩) n c') (keepX p L) ∧ Tch (fun k => k = G) w w' := by
 obtain ⟨cur0,hg0,hbG,hx1,hLc,hcm,hx2,hx3⟩ := ho.row
 have hGs : G < w.heap.size := (Array.getElem?_eq_some_iff.1 hg0).1
 obtain ⟨a0,c0,e0,hL⟩ := ho.at
 simp only [Value.slice.injEq,true_and] at e0
 obtain ⟨rfl,rfl⟩ := e0
 have c1 := indexEnt_any g lb p eg w (some ⟨G, 0,none⟩) c L hL (by omega) (fun W x hb => (hp W x (Tch.of_below hb)).mono (by rintro e w' ⟨rfl,h⟩; exact ⟨rfl,hb.trans (h.mono hb.size)⟩))
 have HP : Hid (∀ (W : World) (x : En),Tch (fun k => k = G) w W → Calls Tryz.prog g (#[.agg #[.string x.key,.int .i64 x.st,.int .i64 x.lf,.string x.bd]] ++ lb) W fun e w' => e = .returned (.bool (p x)) ∧ Below W.heap.size W w') := hp
 clear hp hg0 hx1 hx2 hx3 cur0
 go_enter Tryz.func70,Tryz.ntmps70
 go_wp2_with fail
 refine c1.mono ?_
 rintro e w1 ⟨rfl,hb1⟩
 clear c1
 have HT1 : Hid (Tch (fun k => k = G) w w1) := Tch.of_below hb1
 have ho1 := ho.below hb1 (Nat.le_refl _)
 clear hL ho hb1
 rcases idxX_cases p L with ⟨k0,hk0,hidx,h1,h2⟩ | ⟨hidx,h⟩
 ·rw [hidx]
  have hi0 : ¬ ((k0 : Int) = -1) := by omega
  have HS : Hid (keepX p (L.take (k0 + 1)) = L.take k0) := keepX_step hk0 h1 h2
  have hk0b : k0 ≤ 1048576 := by omega
  have HLK : Hid (k0 < L.length) := hk0
  clear h1 h2 hk0 hidx
  go_wp2_with fail
  go_loopw [5, 6] (fun i j wr => Box (∃ (k n : Nat) (M : List (En)),k ≤ L.length ∧ j = .int .i64 k ∧ i = .int .i64 n ∧ n < k ∧ Hid (n = (keepX p (L.take k)).length) ∧ Hid (M.length = L.length) ∧ Hid (M.take n = keepX p (L.take k)) ∧ Hid (M.drop k = L.drop k) ∧ Hid (OwnN wr base 65 (.slice (some ⟨G, 0,none⟩) L.length c) M) ∧ Hid (Tch (fun k => k = G) w wr)))
   (fun _ j _ => L.length - (intOf j).toNat)
  case atStart => exact ⟨⟨k0 + 1,k0,L,HLK.out,by go_num,rfl,by omega,by show _ = _; rw [HS.out,List.length_take]; have := HLK.out; omega,rfl,by show _ = _; rw [HS.out],rfl,ho1,HT1⟩⟩
  case round =>
   obtain ⟨k,n,M,hk,rfl,rfl,hnk,HN,HML,HMT,HMD,HO,HG⟩ := hrel.out
   clear hrel ho1 HS
   by_cases hlt : k < L.length
   ·have HMk : Hid (∃ h : k < M.length,M[k] = L[k]) := by
     have hx : k < M.length := by rw [HML.out]; exact hlt
     refine ⟨hx, ?_⟩
     have := congrArg (fun l => l[0]?) HMD.out
     simp only [List.getElem?_drop,Nat.add_zero] at this
     rw [List.getElem?_eq_getElem hx,List.getElem?_eq_getElem hlt] at this
     exact Option.some.inj this
    obtain ⟨z,hzz⟩ : ∃ z,L[k] = z := ⟨_,rfl⟩
    have HZ : Hid (keepX p (L.take (k + 1)) = keepX p (L.take k) ++ if p z = true then [] else [z]) := by show _ = _; rw [keepX_take hlt,hzz]
    have hck := HO.out.cellP k HMk.out.1
    rw [HMk.out.2,hzz] at hck
    obtain ⟨q0,q1,q2,q3⟩ := hck
    obtain ⟨w2,hw2⟩ : ∃ w2,wr.alloc (.cells #[.string z.key,.int .i64 z.st,.int .i64 z.lf,.string z.bd] 65) = w2 := ⟨_,rfl⟩
    have hb2 : Below wr.heap.size wr w2 := by rw [← hw2]; exact (Below.refl _ _).alloc (Nat.le_refl _) _
    have hV2 : w2.heap[wr.heap.size]? = some (.cells #[.string z.key,.int .i64 z.st,.int .i64 z.lf,.string z.bd] 65 (0, 0)) := by rw [← hw2]; exact heap_alloc_new wr _
    have v0 : w2.cell? ⟨wr.heap.size, 0,none⟩ = some (.string z.key) := by rw [cell_of_row w2 wr.heap.size 0 _ _ (0, 0) hV2]; rfl
    have v1 : w2.cell? ⟨wr.heap.size, 1,none⟩ = some (.int .i64 z.st) := by rw [cell_of_row w2 wr.heap.size 1 _ _ (0, 0) hV2]; rfl
    have v2 : w2.cell? ⟨wr.heap.size, 2,none⟩ = some (.int .i64 z.lf) := by rw [cell_of_row w2 wr.heap.size 2 _ _ (0, 0) hV2]; rfl
    have v3 : w2.cell? ⟨wr.heap.size, 3,none⟩ = some (.string z.bd) := by rw [cell_of_row w2 wr.heap.size 3 _ _ (0, 0) hV2]; rfl
    have HW2 : Hid (wr.alloc (.cells #[.string z.key,.int .i64 z.st,.int .i64 z.lf,.string z.bd] 65) = w2) := hw2
    have hT2 : Tch (fun k => k = G) w w2 := HG.out.trans (Tch.of_below hb2)
    have hcall := HP.out w2 z hT2
    have hO2 := HO.out.below hb2 (Nat.le_refl _)
    have hi1 : (0 : Int) ≤ (k : Int) := by omega
    have hi2 : (k : Int) < (L.length : Int) := by omega
    have hi3 : (0 : Int) ≤ (n : Int) := by omega
    have hi4 : (n : Int) < (L.length : Int) := by omega
    cases hz : p z with
    | true =>
     rw [hz] at hcall
     rw [hz,if_pos rfl,List.append_nil] at HZ
     have HC : Hid (OwnN w2 base 65 (.slice (some ⟨G, 0,none⟩) L.length c) M ∧ Tch (fun k => k = G) w w2) := ⟨hO2,hT2⟩
     clear hzz hO2 hT2 hb2 hV2 hw2 HO HG
     go_wp2_with fail
     rw [HW2.out]
     refine hcall.mono ?_
     rintro e w3 ⟨rfl,hb3⟩
     go_wp2_with fail
     go_roundw
     case rel =>
      try ((repeat apply Exists.intro); refine ⟨?_,rfl⟩)
      refine ⟨⟨k + 1,n,M,by omega,by go_num,rfl,by omega,by show _ = _; rw [HZ.out]; exact HN.out,HML,by show _ = _; rw [HZ.out]; exact HMT.out, ?_,HC.out.1.below hb3 (Nat.le_refl _),HC.out.2.trans (Tch.of_below hb3)⟩⟩
      show M.drop (k + 1) = L.drop (k + 1)
      rw [← List.drop_drop,HMD.out,List.drop_drop]
     case measure => simp [intOf]; omega
    | false =>
     rw [hz] at hcall
     rw [hz,if_neg (by decide)] at HZ
     have HC : Hid (OwnN w2 base 65 (.slice (some ⟨G, 0,none⟩) L.length c) M ∧ Tch (fun k => k = G) w w2 ∧ w2.heap[wr.heap.size]? = some (.cells #[.string z.key,.int .i64 z.st,.int .i64 z.lf,.string z.bd] 65 (0, 0))) := ⟨hO2,hT2,hV2⟩
     clear hzz hO2 hT2 hb2 hV2 hw2 HO HG
     go_wp2_with fail
     rw [HW2.out]
     refine hcall.mono ?_
     rintro e w3 ⟨rfl,hb3⟩
     obtain ⟨hO2,hT2,hV2⟩ := HC.out
     have hO3 := hO2.below hb3 (Nat.le_refl _)
     have hT3 := hT2.trans (Tch.of_below hb3)
     have hV3 : w3.heap[wr.heap.size]? = some (.cells #[.string z.key,.int .i64 z.st,.int .i64 z.lf,.string z.bd] 65 (0, 0)) := (hb3.block _ (Array.getElem?_eq_some_iff.1 hV2).1).trans hV2
     have x0 : w3.cell? ⟨wr.heap.size, 0,none⟩ = some (.string z.key) := by rw [cell_of_row w3 wr.heap.size 0 _ _ (0, 0) hV3]; rfl
     have x1 : w3.cell? ⟨wr.heap.size, 1,none⟩ = some (.int .i64 z.st) := by rw [cell_of_row w3 wr.heap.size 1 _ _ (0, 0) hV3]; rfl
     have x2 : w3.cell? ⟨wr.heap.size, 2,none⟩ = some (.int .i64 z.lf) := by rw [cell_of_row w3 wr.heap.size 2 _ _ (0, 0) hV3]; rfl
     have x3 : w3.cell? ⟨wr.heap.size, 3,none⟩ = some (.string z.bd) := by rw [cell_of_row w3 wr.heap.size 3 _ _ (0, 0) hV3]; rfl
     obtain ⟨y0,y1,y2,y3⟩ := hO3.cellP n (by rw [HML.out]; omega)
     have hR3 : w3.ownsRow base 65 4 (.slice (some ⟨G, 0,none⟩) L.length c) L.length (enl M) := by have h := hO3; unfold OwnN at h; rwa [HML.out] at h
     have f0 := World.ownsRow.frozenAt hR3 (n * 4)
     have f1 := World.ownsRow.frozenAt hR3 (n * 4 + 1)
     have f2 := World.ownsRow.frozenAt hR3 (n * 4 + 2)
     have f3 := World.ownsRow.frozenAt hR3 (n * 4 + 3)
     have HST : Hid (OwnN ((((w3.setCell ⟨G,n * 4,none⟩ (.string z.key)).setCell ⟨G,n * 4 + 1,none⟩ (.int .i64 z.st)).setCell ⟨G,n * 4 + 2,none⟩ (.int .i64 z.lf)).setCell ⟨G,n * 4 + 3,none⟩ (.string z.bd)) base 65 (.slice (some ⟨G, 0,none⟩) L.length c) (M.set n z) ∧ Tch (fun k => k = G) w ((((w3.setCell ⟨G,n * 4,none⟩ (.string z.key)).setCell ⟨G,n * 4 + 1,none⟩ (.int .i64 z.st)).setCell ⟨G,n * 4 + 2,none⟩ (.int .i64 z.lf)).setCell ⟨G,n * 4 + 3,none⟩ (.string z.bd))) := ⟨(hO3.stored HML.out.symm n z).1,hT3.trans (Tch.of_grown (hO3.stored HML.out.symm n z).2 (fun k e => by cases e; rfl))⟩
     clear hO2 hT2 hV2 hO3 hR3 hT3 hV3 hb3 HC hcall
     go_wp2_with fail
     go_roundw
     case rel =>
      try ((repeat apply Exists.intro); refine ⟨?_,rfl⟩)
      have hML := HML.out
      have hMT := HMT.out
      have hN := HN.out
      refine ⟨⟨k + 1,n + 1,M.set n z,by omega,by go_num,by go_num,by omega, ?_,by show _ = _; rw [List.length_set]; exact hML, ?_, ?_,HST.out.1,HST.out.2⟩⟩
      ·show n + 1 = _
       rw [HZ.out,List.length_append, ← hN]
       rfl
      ·show (M.set n z).take (n + 1) = _
       rw [HZ.out, ← hMT,List.take_succ_eq_append_getElem (by rw [List.length_set]; omega),List.getElem_set_self,List.take_set_of_le (Nat.le_refl _)]
      ·show (M.set n z).drop (k + 1) = L.drop (k + 1)
       rw [List.drop_set_of_lt (by omega), ← List.drop_drop,HMD.out,List.drop_drop]
     case measure => simp [intOf]; omega
   ·have hke : k = L.length := by omega
    subst hke
    have hML := HML.out
    have hMT := HMT.out
    rw [List.take_length] at hMT
    have hnl : n < L.length := hnk
    obtain ⟨cur,hg,hy1,hy2,hy3,hy4,hcl,hct⟩ := HO.out.row
    have hzl := zeroEnt_len (L.length - n)
    have hfit : n * 4 + (Builtin.zeroCells (Value.agg #[.string ⟨#[]⟩,.int .i64 0,.int .i64 0,.string ⟨#[]⟩]).cells (L.length - n)).toList.length ≤ cur.length := by rw [hzl]; omega
    have hclr : ∀ ty cc,(Builtin.clear_ #[26] ty #[.slice (some ⟨G,n * 4,none⟩) (L.length - n) cc]).run Tryz.prog wr = .ok (.tuple #[]) (wr.setRow G (splice cur (n * 4) (Builtin.zeroCells (Value.agg #[.string ⟨#[]⟩,.int .i64 0,.int .i64 0,.string ⟨#[]⟩]).cells (L.length - n)).toList).toArray) := fun ty cc =>
     run_clear_x wr 26 65 ty _ Tryz.underlying26 Tryz.zeroXEnt (L.length - n) (by omega) (zeroEnt_one _) G (n * 4) cc cur 65 hg hfit
    obtain ⟨W2,hW2⟩ : ∃ W2,wr.setRow G (splice cur (n * 4) (Builtin.zeroCells (Value.agg #[.string ⟨#[]⟩,.int .i64 0,.int .i64 0,.string ⟨#[]⟩]).cells (L.length - n)).toList).toArray = W2 := ⟨_,rfl⟩
    rw [hW2] at hclr
    have HF : Hid (OwnN W2 base 65 (.slice (some ⟨G, 0,none⟩) n c) (keepX p L) ∧ Tch (fun k => k = G) w W2) := by
     have hnl2 : (keepX p L).length = n := by rw [← hMT,List.length_take]; omega
     refine ⟨?_, ?_⟩
     ·rw [← hnl2]
      refine OwnN.of_row (cur := splice cur (n * 4) (Builtin.zeroCells (Value.agg #[.string ⟨#[]⟩,.int .i64 0,.int .i64 0,.string ⟨#[]⟩]).cells (L.length - n)).toList) ?_ hbG (by omega) hcm (by rw [length_splice _ _ _ hfit]; exact hcl) ?_
      ·rw [← hW2]; exact setRow_heap wr G _ _ _ _ hg
      ·rw [hnl2]
       have e1 : (splice cur (n * 4) (Builtin.zeroCells (Value.agg #[.string ⟨#[]⟩,.int .i64 0,.int .i64 0,.string ⟨#[]⟩]).cells (L.length - n)).toList).take (n * 4) = cur.take (n * 4) := by
        unfold splice
        rw [List.take_append_of_le_length (by simp; omega),List.take_take,Nat.min_eq_left (Nat.le_refl _)]
       have e2 : cur.take (n * 4) = (enl M).take (n * 4) := by rw [← hct,List.take_take,Nat.min_eq_left (by omega)]
       have e3 : ∀ (A : List (En)) (i : Nat),(enl A).take (i * 4) = enl (A.take i) := by
        intro A
        induction A with
        | nil => intro i; simp [enl]
        | cons f A ih =>
         intro i
         cases i with
         | zero => simp [enl]
         | succ i => rw [enl_cons,show (i + 1) * 4 = i * 4 + 1 + 1 + 1 + 1 by omega]; simp only [En.cells,List.cons_append,List.take_succ_cons,List.nil_append,enl_cons,ih]
       rw [e1,e2,e3,hMT]
     ·rw [← hW2]
      exact HG.out.trans ⟨below_setRow (Below.refl 0 wr) (Nat.zero_le _) _,fun k _ hn => setRow_other wr G k _ hn⟩
    have hi1 : (0 : Int) ≤ (n : Int) := by omega
    have hi2 : (n : Int) ≤ (L.length : Int) := by omega
    have hi3 : (n : Int) ≤ (c : Int) := by omega
    have hi4 : (L.length : Int) ≤ (c : Int) := by omega
    have hd1 : ¬ (c = n) := by omega
    clear hML hMT HN HML HMT HMD HO HG hW2 hg hcl hct hzl hfit hy1 hy2 hy3 hy4
    go_wp2
    go_ret
    exact ⟨_,_,rfl,HF.out.1,HF.out.2⟩
 ·rw [hidx]
  have HW : Hid (keepX p L = L) := keepX_none h
  clear h hidx
  go_wp2_with fail
  go_ret
  exact ⟨_,_,rfl,by rw [HW.out]; exact ho1,HT1.out⟩
theorem deleteEnt_any (g : Nat) (lb : Array Value) (p : En → Bool) (eg : ∀ args w,(callFunc g args).run Tryz.prog w = .ok (.enter g args) w) (w : World) (base : Nat) (v : Value) (L : List (En)) (ho : OwnN w base 65 v L) (hm : L.length ≤ 1048576)
  (hp : ∀ (W : World) (x : En),Tch (fun k => v.ownBlock = some k) w W → Calls Tryz.prog g (#[.agg #[.string x.key,.int .i64 x.st,.int .i64 x.lf,.string x.bd]] ++ lb) W fun e w' => e = .returned (.bool (p x)) ∧ Below W.heap.size W w') :
  Calls Tryz.prog 70 #[v,.func (.func g) #[] lb] w fun e w' => ∃ v',e = .returned v' ∧ OwnN w' base 65 v' (keepX p L) ∧ Tch (fun k => v.ownBlock = some k) w w' := by
 rcases ho.2 with ⟨rfl,h0⟩ | ⟨G,c,cur,rfl,_⟩
 ·have hl : L = [] := List.length_eq_zero_iff.1 h0
  subst hl
  have c1 := indexEnt_any g lb p eg w none 0 [] (fun j hj => by simp at hj) (by simp) (fun W x hb => (hp W x (Tch.of_below hb)).mono (by rintro e w' ⟨rfl,h⟩; exact ⟨rfl,hb.trans (h.mono hb.size)⟩))
  go_enter Tryz.func70,Tryz.ntmps70
  go_wp2_with fail
  refine c1.mono ?_
  rintro e w' ⟨rfl,hb⟩
  clear c1
  rw [idxX_miss (fun x hx => by cases hx)]
  go_wp2_with fail
  go_ret
  exact ⟨_,rfl,ho.below hb (Nat.le_refl _),Tch.of_below hb⟩
 ·refine (deleteEnt_row g lb p eg w base G c L ho hm (fun W x ht => hp W x (ht.weak (fun k e => by rw [e]; rfl)))).mono ?_
  rintro e w' ⟨n,c',rfl,h1,h2⟩
  exact ⟨_,rfl,h1,h2.weak (fun k e => by rw [e]; rfl)⟩
theorem forget1_eg : ∀ args w,(callFunc 71 args).run Tryz.prog w = .ok (.enter 71 args) w := enters_of Tryz.func71 (by kernel_rfl) rfl
set_option maxHeartbeats 2000000 in
theorem forget1_any (T : Nat) (x : En) (key : ByteArray) (w : World) (hT : w.heap[T]? = some (.cells #[.string key] 9 (0, 0))) :
  Calls Tryz.prog 71 (#[.agg #[.string x.key,.int .i64 x.st,.int .i64 x.lf,.string x.bd]] ++ #[.pointer (some ⟨T, 0,none⟩)]) w fun e w' => e = .returned (.bool (eqS x.key key)) ∧ Below w.heap.size w w' := by
 show Calls _ _ #[.agg #[.string x.key,.int .i64 x.st,.int .i64 x.lf,.string x.bd],.pointer (some ⟨T, 0,none⟩)] _ _
 have hb1 : Below w.heap.size w (w.alloc (.cells #[.string x.key,.int .i64 x.st,.int .i64 x.lf,.string x.bd] 65)) := (Below.refl _ _).alloc (Nat.le_refl _) _
 have p0 : (w.alloc (.cells #[.string x.key,.int .i64 x.st,.int .i64 x.lf,.string x.bd] 65)).cell? ⟨T, 0,none⟩ = some (.string key) := by rw [cell_of_row _ T 0 _ _ (0, 0) ((hb1.block T (Array.getElem?_eq_some_iff.1 hT).1).trans hT)]; rfl
 go_enter Tryz.func71,Tryz.ntmps71
 go_wp2_with fail
 go_ret
 exact ⟨rfl,hb1⟩
theorem delEnt_call (w : World) (base T : Nat) (v : Value) (L : List En) (key : ByteArray) (ho : OwnN w base 65 v L) (hm : L.length ≤ 1048576) (hTb : w.heap[T]? = some (.cells #[.string key] 9 (0, 0))) :
  Calls Tryz.prog 70 #[v,.func (.func 71) #[] #[.pointer (some ⟨T, 0,none⟩)]] w fun e w' => ∃ d0 d1,e = .returned (.slice d0 (offE L key).length d1) ∧ OwnN w' base 65 (.slice d0 (offE L key).length d1) (offE L key) ∧ Tch (fun k => v.ownBlock = some k) w w' := by
 refine (deleteEnt_any 71 #[.pointer (some ⟨T, 0,none⟩)] (fun e => eqS e.key key) forget1_eg w base v L ho hm (fun W' x ht => forget1_any T x key W' (by
  rw [ht.2 T (Array.getElem?_eq_some_iff.1 hTb).1 (fun e => by
   obtain ⟨cs,hc⟩ := ho.type T e
   rw [hTb] at hc
   simp only [Option.some.injEq,Obj.cells.injEq] at hc
   exact absurd hc.2.1 (by decide))]
  exact hTb))).mono ?_
 rintro e w' ⟨v',rfl,h1,h2⟩
 obtain ⟨d0,d1,rfl,_⟩ := h1.at
 exact ⟨d0,d1,rfl,h1,h2⟩
set_option maxRecDepth 100000 in
set_option maxHeartbeats 8000000 in
theorem hallForget_any (w : World) (lo T : Nat) (X : Pc) (R : Prx) (key : ByteArray) (H : HallAt w lo T X R) (hm : R.ents.length ≤ 1048576) :
  Calls Tryz.prog 47 #[.pointer (some ⟨T, 0,none⟩),.string key] w fun e w' => e = .returned (.tuple #[]) ∧ ∃ v',HallAt w' lo T ⟨v',X.w,X.m,X.k,X.f,X.c⟩ ⟨R.now,offE R.ents key,R.pol,R.fes,R.cls,R.hits⟩ ∧ Below lo w w' := by
 obtain ⟨w1,hw1⟩ : ∃ y,w.alloc (.cells #[.string key] 9) = y := ⟨_,rfl⟩
 have hb1 : Below w.heap.size w w1 := by rw [← hw1]; exact (Below.refl _ _).alloc (Nat.le_refl _) _
 have hK : w1.heap[w.heap.size]? = some (.cells #[.string key] 9 (0, 0)) := by rw [← hw1]; exact heap_alloc_new _ _
 have hlo : lo ≤ w.heap.size := Nat.le_trans H.le (Nat.le_of_lt H.box.lt)
 have hB1 := H.box.on hb1
 have hO1 := H.own.below hb1 (Nat.le_refl _)
 obtain ⟨M,hM⟩ : ∃ M,offE R.ents key = M := ⟨_,rfl⟩
 have c1 := delEnt_call w1 lo w.heap.size X.e R.ents key hO1.e hm hK
 rw [hM] at c1 ⊢
 have y1 := hB1.cells.2.1
 have hmf : ∀ (fn : Fn) (first cap : Array Value) (w : World),(Instr.makeFunc fn first cap).run Tryz.prog w = .ok (.func fn first cap) w := fun _ _ _ _ => rfl
 have HW : Hid (w.alloc (.cells #[.string key] 9) = w1) := hw1
 have HI : Hid (NB w1 T 60 (.int .i64 R.now) X.e X.w X.m X.k (.int .i64 R.pol.sk.added) X.f X.c (.int .i64 R.hits) ∧ PxOwn w1 lo w.heap.size X R ∧ Below lo w w1 ∧ lo ≤ T) := ⟨hB1,hO1,hb1.mono hlo,H.le⟩
 rw [← hw1] at y1
 clear hw1 hb1 hK hB1 hO1 H hM hlo
 go_enter Tryz.func47,Tryz.ntmps47
 go_wp2_with fail
 rw [HW.out] at y1 ⊢
 refine c1.mono ?_
 rintro e w2 ⟨d0,d1,rfl,hd,ht⟩
 obtain ⟨hB1,hO1,hB0,hle⟩ := HI.out
 have hB2 := hB1.kept (ht.2 T hB1.lt (fun e => by
  obtain ⟨cs,hc⟩ := hO1.e.type T e
  have h := hB1
  unfold NB at h
  rw [h] at hc
  simp only [Option.some.injEq,Obj.cells.injEq] at hc
  exact absurd hc.2.1 (by decide)))
 have hg : w1.grownBy w2 X.e.ownBlock := ⟨ht.1.os,ht.1.tape,ht.1.output,ht.1.size,fun k hk hn => ht.2 k hk (fun e => hn e.symm)⟩
 have hO2 := hO1.setE hg hd
 have x1 := hB2.cells.2.1
 have xt := hB2.thaw 1
 have HF : Hid (HallAt (w2.setCell ⟨T, 1,none⟩ (.slice d0 M.length d1)) lo T ⟨.slice d0 M.length d1,X.w,X.m,X.k,X.f,X.c⟩ ⟨R.now,M,R.pol,R.fes,R.cls,R.hits⟩ ∧ Below lo w (w2.setCell ⟨T, 1,none⟩ (.slice d0 M.length d1))) :=
  ⟨⟨hB2.set1 _,(hO2.box hB2 (by unfold PxT; decide) (fun k hk => Below.heap_setCell _ _ _ _ (by exact hk))).up,hle⟩,(Tch.below hB0 ht (Nat.le_trans hle (Nat.le_of_lt hB1.lt)) (fun k hk => (hO1.e.lt k hk).1)).setCell hle _⟩
 clear hB1 hO1 hB0 hle hB2 hg hO2 hd ht y1 c1 HI
 go_wp2_with fail
 exact bodyPost_end (results_none rfl _ _ _) rfl ⟨rfl,_,HF.out.1,HF.out.2⟩
theorem Tryz.zeroStr : ∀ w,(zeroValue 9).run Tryz.prog w = .ok (.string ⟨#[]⟩) w := by intro w; kernel_rfl
theorem dropped_any (W : World) (T : Nat) (x key : ByteArray) (h : W.cell? ⟨T, 0,none⟩ = some (.string key)) :
  Calls Tryz.prog 72 #[.string x,.pointer (some ⟨T, 0,none⟩)] W fun e w' => e = .returned (.bool (decide (x = key))) ∧ w' = W := by
 by_cases hx : x = key
 ·subst hx
  go_enter Tryz.func72,Tryz.ntmps72
  go_wp2
  go_ret
  exact ⟨by simp,rfl⟩
 ·have hn := bytes_nk hx
  go_enter Tryz.func72,Tryz.ntmps72
  go_wp2
  go_ret
  exact ⟨by simp [hx],rfl⟩
theorem dropped_eg : ∀ args w,(callFunc 72 args).run Tryz.prog w = .ok (.enter 72 args) w := enters_of Tryz.func72 (by kernel_rfl) rfl
set_option maxHeartbeats 2000000 in
theorem indexF_any (w : World) (a : Option Addr) (c T : Nat) (L : List ByteArray) (s : ByteArray) (hA : LAt w a L w.heap.size) (hm : L.length ≤ 10000000) (hT : w.cell? ⟨T, 0,none⟩ = some (.string s)) :
  Calls Tryz.prog 95 #[.slice a L.length c,.func (.func 72) #[] #[.pointer (some ⟨T, 0,none⟩)]] w fun e w' => ∃ r : Int,e = .returned (.int .i64 r) ∧ w' = w ∧ ((r = -1 ∧ inL L s = false) ∨ ∃ k : Nat, ∃ hk : k < L.length,r = k ∧ L[k] = s ∧ inL (L.take k) s = false) := by
 have eg := dropped_eg
 go_enter Tryz.func95,Tryz.ntmps95
 go_wp2
 go_loopw [8] (fun i wr => Box (∃ (k : Nat),k ≤ L.length ∧ i = .int .i64 k ∧ Hid (inL (L.take k) s = false) ∧ w = wr))
  (fun i _ => L.length - (intOf i).toNat)
 case atStart => exact ⟨⟨0,by omega,rfl,rfl,rfl⟩⟩
 case round =>
  obtain ⟨k,hk,rfl,HN,rfl⟩ := hrel.out
  by_cases hlt : k < L.length
  ·obtain ⟨g,off,rfl,hg,hc⟩ := hA k hlt
   have hi1 : (0 : Int) ≤ (k : Int) := by omega
   have hi2 : (k : Int) < (L.length : Int) := by omega
   have hcall := dropped_any w T L[k] s hT
   by_cases hz : L[k] = s
   ·have HT : Hid (∃ k' : Nat, ∃ hk : k' < L.length,(k : Int) = k' ∧ L[k'] = s ∧ inL (L.take k') s = false) := ⟨k,hlt,rfl,hz,HN.out⟩
    rw [decide_eq_true hz] at hcall
    obtain ⟨z,hzz⟩ : ∃ z,L[k] = z := ⟨_,rfl⟩
    rw [hzz] at hc hcall
    clear hrel hz hzz hA
    go_wp2_with (go_at_fn 72; refine hcall.mono ?_; rintro e w' ⟨rfl,rfl⟩)
    go_ret
    exact ⟨_,rfl,rfl,.inr HT.out⟩
   ·have HT : Hid (inL (L.take (k + 1)) s = false) := inL_take hlt HN.out hz
    rw [decide_eq_false hz] at hcall
    obtain ⟨z,hzz⟩ : ∃ z,L[k] = z := ⟨_,rfl⟩
    rw [hzz] at hc hcall
    clear hrel hz hzz hA
    go_wp2_with (go_at_fn 72; refine hcall.mono ?_; rintro e w' ⟨rfl,rfl⟩)
    go_roundw
    case rel =>
     try ((repeat apply Exists.intro); refine ⟨?_,rfl⟩)
     exact ⟨⟨k + 1,by omega,by go_num,HT,by first | rfl | trivial⟩⟩
    case measure => simp [intOf]; omega
  ·go_wp2
   go_ret
   have hke : k = L.length := by omega
   have := HN.out
   rw [hke,List.take_length] at this
   exact ⟨_,rfl,rfl,.inl ⟨rfl,this⟩⟩
theorem without_step {L : List ByteArray} {key : ByteArray} {k : Nat} (hk : k < L.length) (h : inL (L.take k) key = false) (hz : L[k] = key) : without (L.take (k + 1)) key = L.take k := by
 rw [without_take hk,if_pos hz,List.append_nil]
 exact without_none (inL_false.1 h)
theorem strs_getD {M : List ByteArray} {j : Nat} (h : j < M.length) : (strs M)[j]'(by rw [strs_length]; exact h) = .string M[j] := strs_at h
set_option maxRecDepth 100000 in
set_option maxHeartbeats 4000000 in
theorem deleteF_row (w : World) (base G c T : Nat) (L : List ByteArray) (key : ByteArray) (ho : OwnV w base 9 (.slice (some ⟨G, 0,none⟩) L.length c) (strs L)) (hm : L.length ≤ 1048576) (hT : T < base) (hTb : T < w.heap.size) (hc : w.cell? ⟨T, 0,none⟩ = some (.string key)) :
  Calls Tryz.prog 73 #[.slice (some ⟨G, 0,none⟩) L.length c,.func (.func 72) #[] #[.pointer (some ⟨T, 0,none⟩)]] w fun e w' => ∃ n c',e = .returned (.slice (some ⟨G, 0,none⟩) n c') ∧ OwnV w' base 9 (.slice (some ⟨G, 0,none⟩) n c') (strs (without L key)) ∧ w.grownBy w' (some G) := by
 have eg := dropped_eg
 obtain ⟨a0,c0,e0,hL⟩ := ho.strsAt
 simp only [Value.slice.injEq,true_and] at e0
 obtain ⟨rfl,rfl⟩ := e0
 have c1 := indexF_any w (some ⟨G, 0,none⟩) c T L key hL (by omega) hc
 obtain ⟨hcp,hcm⟩ := ho.capOf
 have HT : Hid (∀ W,w.grownBy W (some G) → base ≤ G → W.cell? ⟨T, 0,none⟩ = some (.string key)) := fun W h hG => by
  rw [← hc]
  have hh := h.block T hTb (by simp; omega)
  simp only [World.cell?,hh]
 go_enter Tryz.func73,Tryz.ntmps73
 go_wp2_with fail
 refine c1.mono ?_
 rintro e w' ⟨r,rfl,hw',h⟩
 rw [hw']
 clear c1 hw'
 rcases h with ⟨rfl,h⟩ | ⟨k0,hk0,rfl,h1,h2⟩
 ·have HW : Hid (without L key = L) := without_none (inL_false.1 h)
  clear h
  go_wp2_with fail
  go_ret
  exact ⟨_,_,rfl,by rw [HW.out]; exact ho,grownBy_refl _ _⟩
 ·have hG : base ≤ G := (ho.cell (j := k0) (by rw [strs_length]; exact hk0)).2.2.1
  have hi0 : ¬ ((k0 : Int) = -1) := by omega
  have HS : Hid (without (L.take (k0 + 1)) key = L.take k0) := without_step hk0 h2 h1
  have hk0b : k0 ≤ 1048576 := by omega
  have HLK : Hid (k0 < L.length) := hk0
  clear h1 h2 hk0 hL hc
  go_wp2_with fail
  go_loopw [5, 6] (fun i j wr => Box (∃ (k n : Nat) (M : List ByteArray),k ≤ L.length ∧ j = .int .i64 k ∧ i = .int .i64 n ∧ n < k ∧ Hid (n = (without (L.take k) key).length) ∧ Hid (M.length = L.length) ∧ Hid (M.take n = without (L.take k) key) ∧ Hid (M.drop k = L.drop k) ∧ Hid (OwnV wr base 9 (.slice (some ⟨G, 0,none⟩) L.length c) (strs M)) ∧ Hid (w.grownBy wr (some G))))
   (fun _ j _ => L.length - (intOf j).toNat)
  case atStart => exact ⟨⟨k0 + 1,k0,L,HLK.out,by go_num,rfl,by omega,by show _ = _; rw [HS.out,List.length_take]; have := HLK.out; omega,rfl,by show _ = _; rw [HS.out],rfl,ho,grownBy_refl _ _⟩⟩
  case round =>
   obtain ⟨k,n,M,hk,rfl,rfl,hnk,HN,HML,HMT,HMD,HO,HG⟩ := hrel.out
   clear hrel ho HS
   by_cases hlt : k < L.length
   ·have HMk : Hid (∃ h : k < M.length,M[k] = L[k]) := by
     have hx : k < M.length := by rw [HML.out]; exact hlt
     refine ⟨hx, ?_⟩
     have := congrArg (fun l => l[0]?) HMD.out
     simp only [List.getElem?_drop,Nat.add_zero] at this
     rw [List.getElem?_eq_getElem hx,List.getElem?_eq_getElem hlt] at this
     exact Option.some.inj this
    obtain ⟨z,hzz⟩ : ∃ z,L[k] = z := ⟨_,rfl⟩
    have HZ : Hid (without (L.take (k + 1)) key = without (L.take k) key ++ if z = key then [] else [z]) := by show _ = _; rw [without_take hlt,hzz]
    have hck : wr.cell? ⟨G,k,none⟩ = some (.string z) := by
     obtain ⟨h1,h2⟩ := HMk.out
     have := (HO.out.cell (j := k) (by rw [strs_length]; exact h1)).1
     rw [strs_getD h1,h2,hzz] at this
     exact this
    have hcn : ∃ y,wr.cell? ⟨G,n,none⟩ = some y := ⟨_,(HO.out.cell (j := n) (by rw [strs_length,HML.out]; omega)).1⟩
    obtain ⟨y,hcn⟩ := hcn
    have hfn : wr.frozen? ⟨G,n,none⟩ = false := (HO.out.cell (j := n) (by rw [strs_length,HML.out]; omega)).2.1
    have hcall := dropped_any wr T z key (HT.out wr HG.out hG)
    have hi1 : (0 : Int) ≤ (k : Int) := by omega
    have hi2 : (k : Int) < (L.length : Int) := by omega
    have hi3 : (0 : Int) ≤ (n : Int) := by omega
    have hi4 : (n : Int) < (L.length : Int) := by omega
    by_cases hz : z = key
    ·rw [if_pos hz,List.append_nil] at HZ
     rw [decide_eq_true hz] at hcall
     clear hz hcn hfn hzz
     go_wp2_with (go_at_fn 72; refine hcall.mono ?_; rintro e w' ⟨rfl,rfl⟩)
     go_roundw
     case rel =>
      try ((repeat apply Exists.intro); refine ⟨?_,rfl⟩)
      refine ⟨⟨k + 1,n,M,by omega,by go_num,rfl,by omega,by show _ = _; rw [HZ.out]; exact HN.out,HML,by show _ = _; rw [HZ.out]; exact HMT.out, ?_,HO,HG⟩⟩
      show M.drop (k + 1) = L.drop (k + 1)
      rw [← List.drop_drop,HMD.out,List.drop_drop]
     case measure => simp [intOf]; omega
    ·rw [if_neg hz] at HZ
     rw [decide_eq_false hz] at hcall
     have HST : Hid _ := HO.out.stored (by rw [strs_length,HML.out]) n (.string z)
     clear hz hzz
     go_wp2_with (go_at_fn 72; refine hcall.mono ?_; rintro e w' ⟨rfl,rfl⟩)
     go_roundw
     case rel =>
      try ((repeat apply Exists.intro); refine ⟨?_,rfl⟩)
      have hML := HML.out
      have hMT := HMT.out
      have hN := HN.out
      refine ⟨⟨k + 1,n + 1,M.set n z,by omega,by go_num,by go_num,by omega, ?_,by show _ = _; rw [List.length_set]; exact hML, ?_, ?_, ?_,grownBy_trans HG.out HST.out.2⟩⟩
      ·show n + 1 = _
       rw [HZ.out,List.length_append, ← hN]
       rfl
      ·show (M.set n z).take (n + 1) = _
       rw [HZ.out, ← hMT,List.take_succ_eq_append_getElem (by rw [List.length_set]; omega),List.getElem_set_self,List.take_set_of_le (Nat.le_refl _)]
      ·show (M.set n z).drop (k + 1) = L.drop (k + 1)
       rw [List.drop_set_of_lt (by omega), ← List.drop_drop,HMD.out,List.drop_drop]
      ·have h := HST.out.1
       rw [show (strs M).set n (.string z) = strs (M.set n z) by unfold strs; rw [List.map_set]] at h
       exact h
     case measure => simp [intOf]; omega
   ·have hke : k = L.length := by omega
    subst hke
    have hML := HML.out
    have hMT := HMT.out
    rw [List.take_length] at hMT
    have hnl : n < L.length := hnk
    have hcl : ∀ ty cc,(Builtin.clear_ #[27] ty #[.slice (some ⟨G,n,none⟩) (L.length - n) cc]).run Tryz.prog wr = .ok (.tuple #[]) (wr.setCells G n (List.replicate (L.length - n) (.string ⟨#[]⟩))) := fun ty cc =>
     Lib.run_clear_slice wr 27 9 ty (.string ⟨#[]⟩) Tryz.underlying27 Tryz.zeroStr rfl rfl G n (L.length - n) cc (by omega)
      (fun j hj => by rw [(HO.out.cell (j := n + j) (by rw [strs_length,hML]; omega)).1]; rfl) (fun j hj => (HO.out.cell (j := n + j) (by rw [strs_length,hML]; omega)).2.1)
    obtain ⟨W2,hW2⟩ : ∃ W2,wr.setCells G n (List.replicate (L.length - n) (.string ⟨#[]⟩)) = W2 := ⟨_,rfl⟩
    rw [hW2] at hcl
    have HF : Hid (OwnV W2 base 9 (.slice (some ⟨G, 0,none⟩) n c) (strs (without L key)) ∧ w.grownBy W2 (some G)) := by
     obtain ⟨ys,e1,e2,_,_,e5,e6⟩ := OwnV.storedAll (List.replicate (L.length - n) (.string ⟨#[]⟩)) n wr (strs M) HO.out (by rw [strs_length,hML])
     rw [hW2] at e5 e6
     have h := e5.cut (by rw [e1,strs_length,hML]) n (by omega)
     rw [take_same e2,show (strs M).take n = strs (M.take n) by unfold strs; rw [List.map_take],hMT] at h
     exact ⟨h,grownBy_trans HG.out e6⟩
    have hi1 : (0 : Int) ≤ (n : Int) := by omega
    have hi2 : (n : Int) ≤ (L.length : Int) := by omega
    have hi3 : (n : Int) ≤ (c : Int) := by omega
    have hi4 : (L.length : Int) ≤ (c : Int) := by omega
    have hd1 : ¬ (c = n) := by omega
    clear hML hMT HN HML HMT HMD HO HG HT hW2
    go_wp2
    go_ret
    exact ⟨_,_,rfl,HF.out.1,HF.out.2⟩
theorem deleteF_any (w : World) (base T : Nat) (v : Value) (L : List ByteArray) (key : ByteArray) (ho : OwnV w base 9 v (strs L)) (hm : L.length ≤ 1048576) (hT : T < base) (hTb : T < w.heap.size) (hc : w.cell? ⟨T, 0,none⟩ = some (.string key)) :
  Calls Tryz.prog 73 #[v,.func (.func 72) #[] #[.pointer (some ⟨T, 0,none⟩)]] w fun e w' => ∃ v',e = .returned v' ∧ OwnV w' base 9 v' (strs (without L key)) ∧ v'.ownBlock = v.ownBlock ∧ w.grownBy w' v.ownBlock := by
 rcases ho.2 with ⟨rfl,h0⟩ | ⟨G,c,cur,rfl,_⟩
 ·rw [strs_length] at h0
  have hl : L = [] := List.length_eq_zero_iff.1 h0
  subst hl
  have c1 := indexF_any w none 0 T [] key (fun j hj => by simp at hj) (by simp) hc
  go_enter Tryz.func73,Tryz.ntmps73
  go_wp2_with fail
  refine c1.mono ?_
  rintro e w' ⟨r,rfl,rfl,h⟩
  clear c1
  rcases h with ⟨rfl,h⟩ | ⟨k0,hk0,_⟩
  ·go_wp2_with fail
   go_ret
   exact ⟨_,rfl,ho,rfl,grownBy_refl _ _⟩
  ·simp at hk0
 ·rw [strs_length] at ho ⊢
  refine (deleteF_row w base G c T L key ho hm hT hTb hc).mono ?_
  rintro e w' ⟨n,c',rfl,h1,h2⟩
  exact ⟨_,rfl,h1,rfl,h2⟩
set_option maxRecDepth 100000 in
set_option maxHeartbeats 8000000 in
theorem implPolicyDrop_any (w : World) (aw am ak : Option Addr) (cw cm ck : Nat) (P : Pol) (key : ByteArray) (hA : PolAt w aw am ak P w.heap.size) (hsz : PolSz P) :
  Calls Tryz.prog 48 #[.agg #[.slice aw P.win.length cw,.slice am P.main.length cm,.slice ak P.sk.rows.length ck,.int .i64 P.sk.added],.string key] w fun e w' => ∃ v,e = .returned v ∧ POwn w' w.heap.size w'.heap.size v (dropP P key) ∧ Below w.heap.size w w' := by
 obtain ⟨l1,l2,l3⟩ := hsz.parts
 obtain ⟨w1,hw1⟩ : ∃ x,((w.alloc (.cells #[.slice aw P.win.length cw,.slice am P.main.length cm,.slice ak P.sk.rows.length ck,.int .i64 P.sk.added] 32)).alloc (.cells #[.string key] 9)).alloc (.cells #[.slice none 0 0,.slice none 0 0,.slice none 0 0,.int .i64 0] 32) = x := ⟨_,rfl⟩
 have hb1 : Below w.heap.size w w1 := by rw [← hw1]; exact (((Below.refl _ _).alloc (Nat.le_refl _) _).alloc (by simp) _).alloc (by simp; omega) _
 have s1 : w1.heap.size = w.heap.size + 3 := by rw [← hw1]; simp
 have hK : w1.heap[w.heap.size + 1]? = some (.cells #[.string key] 9 (0, 0)) := by
  have h := heap_alloc_new (w.alloc (.cells #[.slice aw P.win.length cw,.slice am P.main.length cm,.slice ak P.sk.rows.length ck,.int .i64 P.sk.added] 32)) (.cells #[.string key] 9)
  rw [← hw1]
  exact (((Below.refl _ _).alloc (Nat.le_refl _) _).block _ (by simp)).trans (by simpa using h)
 have hR : PBox w1 (w.heap.size + 2) (.slice none 0 0) (.slice none 0 0) (.slice none 0 0) (.int .i64 0) := by
  have h := PBox.new ((w.alloc (.cells #[.slice aw P.win.length cw,.slice am P.main.length cm,.slice ak P.sk.rows.length ck,.int .i64 P.sk.added] 32)).alloc (.cells #[.string key] 9)) (.slice none 0 0) (.slice none 0 0) (.slice none 0 0) (.int .i64 0)
  rw [hw1] at h
  simpa using h
 have c1 := policyCopy_any w1 aw am ak cw cm ck P (hA.on hb1) hsz
 have HW : Hid (((w.alloc (.cells #[.slice aw P.win.length cw,.slice am P.main.length cm,.slice ak P.sk.rows.length ck,.int .i64 P.sk.added] 32)).alloc (.cells #[.string key] 9)).alloc (.cells #[.slice none 0 0,.slice none 0 0,.slice none 0 0,.int .i64 0] 32) = w1) := hw1
 have HB1 : Hid (Below w.heap.size w w1 ∧ w1.heap.size = w.heap.size + 3) := ⟨hb1,s1⟩
 clear hw1 hb1 s1 hA
 go_enter Tryz.func48,Tryz.ntmps48
 go_wp2_with fail
 rw [HW.out]
 refine c1.mono ?_
 rintro e w2 ⟨v,rfl,hO,hb2⟩
 have hO0 := hO
 obtain ⟨v1,v2,v3,rfl,o1,o2,d1,d2,o3⟩ := hO
 obtain ⟨a2,k2,rfl,_⟩ := o1.strsAt
 obtain ⟨a3,k3,rfl,_⟩ := o2.strsAt
 obtain ⟨a4,k4,rfl,_⟩ := o3.at
 obtain ⟨hb1,s1⟩ := HB1.out
 have H3 := hO0.hold 32 []
 have ht : tyOk 32 := by unfold tyOk; decide
 obtain ⟨w3,hw3⟩ : ∃ x,w2.alloc (.cells #[.slice a2 P.win.length k2,.slice a3 P.main.length k3,.slice a4 P.sk.rows.length k4,.int .i64 P.sk.added] 32) = x := ⟨_,rfl⟩
 have hb3 : Below w1.heap.size w1 w3 := by
  rw [← hw3]
  exact hb2.alloc hb2.size _
 rw [hw3] at H3
 have HW3 : Hid (w2.alloc (.cells #[.slice a2 P.win.length k2,.slice a3 P.main.length k3,.slice a4 P.sk.rows.length k4,.int .i64 P.sk.added] 32) = w3) := hw3
 obtain ⟨V,hV⟩ : ∃ V,w2.heap.size = V := ⟨_,rfl⟩
 rw [hV] at H3
 have hVlo : w1.heap.size ≤ V := by rw [← hV]; exact hb2.size
 have hKc : ∀ W,Below w1.heap.size w1 W → W.cell? ⟨w.heap.size + 1, 0,none⟩ = some (.string key) := fun W h => by
  rw [cell_of_row W (w.heap.size + 1) 0 _ _ (0, 0) ((h.block _ (by omega)).trans hK)]; rfl
 have hs3 := hb3.size
 have c2 := deleteF_any w3 w1.heap.size (w.heap.size + 1) _ P.win key H3.2.1 l1 (by omega) (by omega) (hKc _ hb3)
 have HL : Hid (P.win.length ≤ 1048576 ∧ P.main.length ≤ 1048576) := ⟨l1,l2⟩
 have HKC : Hid _ := hKc
 have HV : Hid (w2.heap.size = V) := hV
 clear c1 hO0 o1 o2 d1 d2 o3 hw3 hKc hV hK hs3 l1 l2 l3 hsz hb2
 go_wp2_with fail
 rw [HW3.out]
 refine c2.mono ?_
 rintro e w4 ⟨v1',rfl,ho4,hn4,hg4⟩
 obtain ⟨a5,k5,rfl,_⟩ := ho4.strsAt
 obtain ⟨x0,xf⟩ := H3.var1 ht hg4
 have xf0 := xf 0
 have hb4 : Below w1.heap.size w1 w4 := hb3.grown hg4 hb3.size (fun k e => (H3.2.1.lt k e).1)
 have H5 := H3.setWin ht hg4 ho4 (fun k e => .inl (by rw [← hn4]; exact e))
 have hb5 : Below w1.heap.size w1 (w4.setCell ⟨V, 0,none⟩ (.slice a5 (without P.win key).length k5)) := hb4.setCell hVlo _
 obtain ⟨w5,hw5⟩ : ∃ x,w4.setCell ⟨V, 0,none⟩ (.slice a5 (without P.win key).length k5) = x := ⟨_,rfl⟩
 have HW5 : Hid (w4.setCell ⟨V, 0,none⟩ (.slice a5 (without P.win key).length k5) = w5) := hw5
 obtain ⟨n1,hn1⟩ : ∃ n,(without P.win key).length = n := ⟨_,rfl⟩
 rw [hw5] at H5 hb5
 rw [hn1] at H5 HW5 ⊢
 have c3 := deleteF_any w5 w1.heap.size (w.heap.size + 1) _ P.main key H5.2.2.1 HL.out.2 (by omega) (by have := hb5.size; omega) (HKC.out _ hb5)
 obtain ⟨y0,y1,y2,y3,_⟩ := H5.cells
 have HP5 : Hid (PHold w5 V 32 [] w1.heap.size (.slice a5 n1 k5) (.slice a3 P.main.length k3) (.slice a4 P.sk.rows.length k4) ⟨without P.win key,P.main,P.sk⟩) := H5
 have HQ5 : Hid (Below w1.heap.size w1 w5 ∧ w1.heap.size ≤ V ∧ Below w.heap.size w w1 ∧ w1.heap.size = w.heap.size + 3 ∧ PBox w1 (w.heap.size + 2) (.slice none 0 0) (.slice none 0 0) (.slice none 0 0) (.int .i64 0)) := ⟨hb5,hVlo,hb1,s1,hR⟩
 rw [← HW5.out] at y0 y1 y2 y3
 rw [HV.out]
 clear c2 hw5 hn1 H3 H5 hb3 hb4 hb5 ho4 hn4 hg4 xf hb1 s1 hVlo HB1 HW HW3 hR
 go_wp2_with fail
 rw [HW5.out] at y0 y1 y2 y3 ⊢
 refine c3.mono ?_
 rintro e w6 ⟨v2',rfl,ho6,hn6,hg6⟩
 obtain ⟨a6,k6,rfl,_⟩ := ho6.strsAt
 have H5 : PHold w5 V 32 [] w1.heap.size (.slice a5 n1 k5) (.slice a3 P.main.length k3) (.slice a4 P.sk.rows.length k4) ⟨without P.win key,P.main,P.sk⟩ := HP5.out
 obtain ⟨hb5,hVlo,hb1,s1,hR⟩ := HQ5.out
 obtain ⟨z0,zf⟩ := H5.var2 ht hg6
 have zf1 := zf 1
 have hb6 : Below w1.heap.size w1 w6 := hb5.grown hg6 hb5.size (fun k e => (H5.2.2.1.lt k e).1)
 have H7 := H5.setMain ht hg6 ho6 (fun k e => .inl (by rw [← hn6]; exact e))
 have hb7 : Below w1.heap.size w1 (w6.setCell ⟨V, 1,none⟩ (.slice a6 (without P.main key).length k6)) := hb6.setCell hVlo _
 obtain ⟨w7,hw7⟩ : ∃ x,w6.setCell ⟨V, 1,none⟩ (.slice a6 (without P.main key).length k6) = x := ⟨_,rfl⟩
 have HW7 : Hid (w6.setCell ⟨V, 1,none⟩ (.slice a6 (without P.main key).length k6) = w7) := hw7
 obtain ⟨n2,hn2⟩ : ∃ n,(without P.main key).length = n := ⟨_,rfl⟩
 rw [hw7] at H7 hb7
 rw [hn2] at H7 HW7 ⊢
 obtain ⟨u0,u1,u2,u3,_⟩ := H7.cells
 have hR7 := hR.on hb7
 obtain ⟨r0,r1,r2,r3⟩ := hR7.cells
 have f0 := hR7.thaw 0
 have f1 := hR7.thaw 1
 have f2 := hR7.thaw 2
 have f3 := hR7.thaw 3
 have HF : Hid (PHold w7 V 32 [] w1.heap.size (.slice a5 n1 k5) (.slice a6 n2 k6) (.slice a4 P.sk.rows.length k4) (dropP P key) ∧ PBox w7 (w.heap.size + 2) (.slice none 0 0) (.slice none 0 0) (.slice none 0 0) (.int .i64 0) ∧ Below w.heap.size w w7 ∧ w.heap.size ≤ w1.heap.size) := ⟨H7,hR7,hb1.trans (hb7.mono (by omega)),by omega⟩
 dsimp only at u3
 rw [← HW7.out] at u0 u1 u2 u3 r0 r1 r2 r3 f0 f1 f2 f3
 clear c3 hw7 hn2 H5 H7 hb5 hb6 hb7 ho6 hn6 hg6 zf hb1 s1 hVlo hR hR7 HP5 HQ5 y0 y1 y2 y3
 go_wp2_with fail
 rw [HW7.out]
 obtain ⟨H7',hR7,hbw,hlo⟩ := HF.out
 have H7 : PHold w7 V 32 [] w1.heap.size (.slice a5 n1 k5) (.slice a6 n2 k6) (.slice a4 P.sk.rows.length k4) (dropP P key) := H7'
 obtain ⟨q0,q1,q2,q3⟩ := (hR7.put (.slice a5 n1 k5) (.slice a6 n2 k6) (.slice a4 P.sk.rows.length k4) (.int .i64 P.sk.added)).cells
 refine bodyPost_ret (v := .agg #[.slice a5 n1 k5,.slice a6 n2 k6,.slice a4 P.sk.rows.length k4,.int .i64 P.sk.added]) (by simp [results,Tryz.results48,go_sem,q0,q1,q2,q3]) rfl ⟨_,rfl, ?_,Below.put4 hbw (by omega) _ _ _ _⟩
 refine POwn.mono (H7.own.put4 hR7 _ _ _ _) hlo ?_
 simp
end Go.Proofs.YtaahjcljanckaaaGreatDoor
