/- Texts that stand in one: TouchImpl, ConcatS, PolOkSpec, PolOkSz, PolOkImpl. -/
import Derived.Test.YthfjfccdelbkhaaGreatDoorSettleJ
import Derived.Test.YthfjfccdelbkhaaGreatDoorToEndJ
import Derived.Test.YthfjfccdelbkhaaGreatDoorSkNewImplJ
import Derived.Test.YthfjfccdelbkhaaGreatDoorPolSpecJ
import Derived.Lib.AppendZerosOnto
import Derived.Deep.RegionLaw
import Derived.Test.YthfjfccdelbkhaaGreatDoorSkOkSpecJ
import Derived.Lib.QuietBelow
import Derived.BigQuiet
import Derived.Test.YthfjfccdelbkhaaGreatDoorPolSzTextJ
namespace Go.Proofs.YthfjfccdelbkhaaGreatDoor
open Go.RowKit Go.Sort
theorem PHold.inWin {w w' : World} {V lo : Nat} {ty : TypeId} {ext : List Value} {v1 v2 v3 : Value} {P : Pol} {W' : List ByteArray} (h : PHold w V ty ext lo v1 v2 v3 P) (ht : tyOk ty) (hg : w.grownBy w' v1.ownBlock) (ho : OwnV w' lo 9 v1 (strs W')) :
  PHold w' V ty ext lo v1 v2 v3 ⟨W',P.main,P.sk⟩ := by
 obtain ⟨hV,h1,h2,h3,h4⟩ := h
 have hVn : v1.ownBlock ≠ some V := fun e => by
  obtain ⟨cs,hc⟩ := ownV_type h1 V e
  exact ty_ne hc hV ht.1 rfl
 refine ⟨(hg.block V (Array.getElem?_eq_some_iff.1 hV).1 (fun e => hVn e.symm)).trans hV,ho,h2.grown hg (fun k hk e => h3 k e hk),h3, ?_⟩
 refine OwnSS.apart (h4.mono (Nat.le_refl _) hg.size) fun k cs t hc htt => ?_
 refine hg.block k (Array.getElem?_eq_some_iff.1 hc).1 fun e => ?_
 obtain ⟨cs',hc'⟩ := ownV_type h1 k e.symm
 rw [hc] at hc'
 simp only [Option.some.injEq,Obj.cells.injEq] at hc'
 rcases htt with rfl | rfl
 ·exact absurd hc'.2.1 (by decide)
 ·exact absurd hc'.2.1 (by decide)
theorem PHold.inMain {w w' : World} {V lo : Nat} {ty : TypeId} {ext : List Value} {v1 v2 v3 : Value} {P : Pol} {W' : List ByteArray} (h : PHold w V ty ext lo v1 v2 v3 P) (ht : tyOk ty) (hg : w.grownBy w' v2.ownBlock) (ho : OwnV w' lo 9 v2 (strs W')) :
  PHold w' V ty ext lo v1 v2 v3 ⟨P.win,W',P.sk⟩ := by
 obtain ⟨hV,h1,h2,h3,h4⟩ := h
 have hVn : v2.ownBlock ≠ some V := fun e => by
  obtain ⟨cs,hc⟩ := ownV_type h2 V e
  exact ty_ne hc hV ht.1 rfl
 refine ⟨(hg.block V (Array.getElem?_eq_some_iff.1 hV).1 (fun e => hVn e.symm)).trans hV,h1.grown hg (fun k hk e => h3 k hk e),ho,h3, ?_⟩
 refine OwnSS.apart (h4.mono (Nat.le_refl _) hg.size) fun k cs t hc htt => ?_
 refine hg.block k (Array.getElem?_eq_some_iff.1 hc).1 fun e => ?_
 obtain ⟨cs',hc'⟩ := ownV_type h2 k e.symm
 rw [hc] at hc'
 simp only [Option.some.injEq,Obj.cells.injEq] at hc'
 rcases htt with rfl | rfl
 ·exact absurd hc'.2.1 (by decide)
 ·exact absurd hc'.2.1 (by decide)
theorem Seats.inWin {w w' : World} {V G lo : Nat} {v1 v2 v3 : Value} {P : Pol} {o : ByteArray} {W' : List ByteArray} (h : Seats w V G lo v1 v2 v3 P o) (hg : w.grownBy w' v1.ownBlock) (ho : OwnV w' lo 9 v1 (strs W')) : Seats w' V G lo v1 v2 v3 ⟨W',P.main,P.sk⟩ o ∧ Below G w w' := by
 have h3 := h.2.2.1
 have h5 := h.lo
 refine ⟨⟨h.1.inWin seats_ty hg ho,(hg.block G (Array.getElem?_eq_some_iff.1 h.2.1).1 (fun e => by have := (h.1.2.1.lt G e.symm).1; omega)).trans h.2.1,h.2.2⟩, ?_⟩
 exact (Below.refl G w).grown hg (by omega) (fun k e => by have := (h.1.2.1.lt k e).1; omega)
theorem Seats.inMain {w w' : World} {V G lo : Nat} {v1 v2 v3 : Value} {P : Pol} {o : ByteArray} {W' : List ByteArray} (h : Seats w V G lo v1 v2 v3 P o) (hg : w.grownBy w' v2.ownBlock) (ho : OwnV w' lo 9 v2 (strs W')) : Seats w' V G lo v1 v2 v3 ⟨P.win,W',P.sk⟩ o ∧ Below G w w' := by
 have h3 := h.2.2.1
 have h5 := h.lo
 refine ⟨⟨h.1.inMain seats_ty hg ho,(hg.block G (Array.getElem?_eq_some_iff.1 h.2.1).1 (fun e => by have := (h.1.2.2.1.lt G e.symm).1; omega)).trans h.2.1,h.2.2⟩, ?_⟩
 exact (Below.refl G w).grown hg (by omega) (fun k e => by have := (h.1.2.2.1.lt k e).1; omega)
theorem Seats.sk {w w' : World} {V G lo : Nat} {v1 v2 v3 v3' : Value} {P : Pol} {o : ByteArray} {S : Sk} (h : Seats w V G lo v1 v2 v3 P o) (hb : Below w.heap.size w w') (ho : OwnSS w' w.heap.size w'.heap.size v3' S.rows) :
  Seats ((w'.setCell ⟨V, 2,none⟩ v3').setCell ⟨V, 3,none⟩ (.int .i64 S.added)) V G lo v1 v2 v3' ⟨P.win,P.main,S⟩ o ∧ Below G w ((w'.setCell ⟨V, 2,none⟩ v3').setCell ⟨V, 3,none⟩ (.int .i64 S.added)) := by
 have h3 := h.2.2.1
 have h4 := h.2.2.2
 have h5 := h.lo
 refine ⟨⟨h.1.setSk seats_ty hb h5 ho, ?_,h.2.2⟩,((hb.mono (by omega)).setCell (by show G ≤ V; omega) _).setCell (by show G ≤ V; omega) _⟩
 rw [Below.heap_setCell _ _ _ _ (by show G ≠ V; omega),Below.heap_setCell _ _ _ _ (by show G ≠ V; omega)]
 exact (hb.block G (Array.getElem?_eq_some_iff.1 h.2.1).1).trans h.2.1
theorem touchP_ok {P : Pol} {key : ByteArray} (hP : okP P = true) (hk : keyOk key = true) : touchP P key = if inL P.win key = true then (⟨without P.win key ++ [key],P.main,bumpS P.sk key⟩,noKey) else if inL P.main key = true then (⟨P.win,without P.main key ++ [key],bumpS P.sk key⟩,noKey) else enterP ⟨P.win,P.main,bumpS P.sk key⟩ key := by
 unfold touchP enterP
 rw [hP,hk]
 rfl
set_option maxRecDepth 100000 in
set_option maxHeartbeats 4000000 in
theorem touch_any (w : World) (V G lo : Nat) (v1 v2 v3 : Value) (P : Pol) (key : ByteArray) (h : Seats w V G lo v1 v2 v3 P noKey) (hP : okP P = true) (hkk : keyOk key = true) (ht : ∀ W,Below G w W → Tab W) :
  Calls Tryz.prog 72 #[.pointer (some ⟨V, 0,none⟩),.string key] w fun e w' => e = .returned (.tuple #[]) ∧ Below G w w' ∧ ∃ v1' v2' v3',Seats w' V G lo v1' v2' v3' (touchP P key).1 (touchP P key).2 := by
 obtain ⟨_,_,b2,b3,_⟩ := h.1.cells
 obtain ⟨a3,k3,rfl,hL3⟩ := h.1.2.2.2.2.at
 have hsz := okP_sz hP
 obtain ⟨l1,l2,l3⟩ := hsz.parts
 obtain ⟨p1,p2,p3,p4,p5,p6,p7,p8⟩ := okP_iff.1 hP
 have hks : key.size ≤ 30 := by simp only [keyOk,decide_eq_true_eq] at hkk; exact hkk.2
 have hz : ∀ z ∈ P.win ++ P.main,z.size ≤ 1048576 := fun z hz => by
  rcases List.mem_append.1 hz with hz | hz
  ·have := p1 z hz; simp only [keyOk,decide_eq_true_eq] at this; omega
  ·have := p2 z hz; simp only [keyOk,decide_eq_true_eq] at this; omega
 have hsl : (bumpS P.sk key).rows.length ≤ 1048576 := by
  obtain ⟨a,b,c,e,_⟩ := okK_parts (bumpS_ok key p8)
  rw [e]; simp
 have HTP := touchP_ok hP hkk
 have HQ : Hid (touchP P key = if inL P.win key = true then (⟨without P.win key ++ [key],P.main,bumpS P.sk key⟩,noKey) else if inL P.main key = true then (⟨P.win,without P.main key ++ [key],bumpS P.sk key⟩,noKey) else enterP ⟨P.win,P.main,bumpS P.sk key⟩ key) := HTP
 have hlo := h.lo
 have hGl := h.2.2.1
 have c1 := implSketchBump_any w a3 k3 P.sk key hL3 l3 (by omega) (ht w (Below.refl _ _))
 have HS : Hid (Seats w V G lo v1 v2 (.slice a3 P.sk.rows.length k3) P noKey) := h
 have HX : Hid (P.win.Nodup ∧ P.main.Nodup ∧ P.win.length ≤ 2 ∧ P.main.length ≤ 4 ∧ key.size ≤ 1048576 ∧ (bumpS P.sk key).rows.length ≤ 1048576 ∧ (∀ z ∈ P.win ++ P.main,z.size ≤ 1048576) ∧ ∀ W,Below G w W → Tab W) := ⟨p3,p4,p6,p7,by omega,hsl,hz,ht⟩
 clear h hP hkk ht hL3 hsz l1 l2 l3 p1 p2 p3 p4 p5 p6 p7 p8 hks hz hsl HTP hlo hGl
 go_enter Tryz.func72,Tryz.ntmps72
 go_wp2_with fail
 refine c1.mono ?_
 rintro e w2 ⟨v,rfl,⟨u,rfl,ho2⟩,hb2⟩
 obtain ⟨a4,k4,rfl,_⟩ := ho2.at
 have S1 : Seats w V G lo v1 v2 (.slice a3 P.sk.rows.length k3) P noKey := HS.out
 have S2 := S1.on hb2
 obtain ⟨_,_,c2,c3,_⟩ := S2.1.cells
 have f2 := S2.1.thaw 2
 have f3 := S2.1.thaw 3
 obtain ⟨S3,B3⟩ := S1.sk (S := bumpS P.sk key) hb2 ho2
 obtain ⟨w3,hw3⟩ : ∃ x,(w2.setCell ⟨V, 2,none⟩ (.slice a4 (bumpS P.sk key).rows.length k4)).setCell ⟨V, 3,none⟩ (.int .i64 (bumpS P.sk key).added) = x := ⟨_,rfl⟩
 have HW3 : Hid ((w2.setCell ⟨V, 2,none⟩ (.slice a4 (bumpS P.sk key).rows.length k4)).setCell ⟨V, 3,none⟩ (.int .i64 (bumpS P.sk key).added) = w3) := hw3
 rw [hw3] at S3 B3
 obtain ⟨B,hB⟩ : ∃ B,bumpS P.sk key = B := ⟨_,rfl⟩
 rw [hB] at S3 HW3 HX HQ ⊢
 obtain ⟨d0,d1,_,_,_⟩ := S3.1.cells
 have cW := toEnd_any w3 lo v1 P.win key S3.1.2.1 (by have := HX.out.2.2.1; omega) HX.out.1
 have cM := toEnd_any w3 lo v2 P.main key S3.1.2.2.1 (by have := HX.out.2.2.2.1; omega) HX.out.2.1
 have HS3 : Hid (Seats w3 V G lo v1 v2 (.slice a4 B.rows.length k4) ⟨P.win,P.main,B⟩ noKey) := S3
 have HB3 : Hid (Below G w w3) := B3
 rw [← HW3.out] at d0 d1
 clear S1 S2 S3 B3 hw3 hB ho2 hb2 c1 b2 b3
 go_wp2_with fail
 rw [HW3.out] at d0 d1 ⊢
 refine cW.mono ?_
 rintro e w' (⟨hI,rfl,hw'⟩ | ⟨hI,rfl,hoW,hgW⟩)
 ·rw [hw']
  clear hw' cW
  have HI : Hid (inL P.win key = false) := hI
  clear hI
  go_wp2_with fail
  refine cM.mono ?_
  rintro e w' (⟨hI,rfl,hw'⟩ | ⟨hI,rfl,hoM,hgM⟩)
  ·rw [hw']
   clear hw' cM
   have HQ' : Hid (touchP P key = enterP ⟨P.win,P.main,B⟩ key) := by show _ = _; rw [HQ.out,HI.out,hI]; rfl
   have S3 : Seats w3 V G lo v1 v2 (.slice a4 B.rows.length k4) ⟨P.win,P.main,B⟩ noKey := HS3.out
   obtain ⟨_,_,l1,l2,l3,l4,l5,l6⟩ := HX.out
   have cE := enter_any w3 V G lo v1 v2 _ ⟨P.win,P.main,B⟩ key S3 l1 l2 l4 l3 l5 (fun W hW => l6 W (HB3.out.trans hW))
   clear hI S3 HX l1 l2 l3 l4 l5 l6 d0 d1
   go_wp2_with fail
   refine cE.mono ?_
   rintro e w8 ⟨rfl,hb8',v1',v2',v3',hS8⟩
   have hb8 := HB3.out.trans hb8'
   have HF : Hid _ := hS8
   clear hS8 cE hb8'
   go_wp2_with fail
   go_end0
   refine ⟨rfl,hb8,v1',v2',v3', ?_⟩
   rw [HQ'.out]
   exact HF.out
  ·have HQ' : Hid (touchP P key = (⟨P.win,without P.main key ++ [key],B⟩,noKey)) := by show _ = _; rw [HQ.out,HI.out,hI]; rfl
   have S3 : Seats w3 V G lo v1 v2 (.slice a4 B.rows.length k4) ⟨P.win,P.main,B⟩ noKey := HS3.out
   obtain ⟨S4,B4⟩ := S3.inMain hgM hoM
   have HF : Hid (Seats w' V G lo v1 v2 (.slice a4 B.rows.length k4) ⟨P.win,without P.main key ++ [key],B⟩ noKey ∧ Below G w w') := ⟨S4,HB3.out.trans B4⟩
   clear hI S3 S4 B4 hoM hgM cM
   go_wp2_with fail
   go_end0
   refine ⟨rfl,HF.out.2,v1,v2,.slice a4 B.rows.length k4, ?_⟩
   rw [HQ'.out]
   exact HF.out.1
 ·have HQ' : Hid (touchP P key = (⟨without P.win key ++ [key],P.main,B⟩,noKey)) := by show _ = _; rw [HQ.out,hI]; rfl
  have S3 : Seats w3 V G lo v1 v2 (.slice a4 B.rows.length k4) ⟨P.win,P.main,B⟩ noKey := HS3.out
  obtain ⟨S4,B4⟩ := S3.inWin hgW hoW
  have HF : Hid (Seats w' V G lo v1 v2 (.slice a4 B.rows.length k4) ⟨without P.win key ++ [key],P.main,B⟩ noKey ∧ Below G w w') := ⟨S4,HB3.out.trans B4⟩
  clear hI S3 S4 B4 hoW hgW cM cW
  go_wp2_with fail
  go_end0
  refine ⟨rfl,HF.out.2,v1,v2,.slice a4 B.rows.length k4, ?_⟩
  rw [HQ'.out]
  exact HF.out.1
theorem wpList_plusS {P : Program} {ops : Array Oper} {rest : List Oper} {o : Oper} {a : Act} {Q : Exit → Act → World → Prop} {w : World} (hgd : o.guard = none) (s x : Operand) (t : TypeId)
  (ho : o.op = .call { callee := .builtin .append,args := #[s,x],argTypes := #[t,t] }) (base : Nat) (e : TypeId) (ht : P.underlying t = some (.slice e))
  (hinfo : (P.info? e).map (fun i => (i.zero,i.size,i.bytes)) = some (some (.string ⟨#[]⟩), 1, 16)) (v : Value) (A : List ByteArray) (hs : a.eval s = v) (hown : OwnV w base e v (strs A))
  (a0 : Option Addr) (cap : Nat) (l : List ByteArray) (B : Nat) (hx : a.eval x = .slice a0 l.length cap) (hI : LAt w a0 l B) (hlen : A.length + l.length ≤ 2000000) (hbase : base ≤ w.heap.size)
  (h : ∀ v' w',OwnV w' base e v' (strs (A ++ l)) → w.grownBy w' v.ownBlock → wpList P ops Q rest (a.put o.dst v') w') :
  wpList P ops Q (o :: rest) a w := by
 obtain ⟨i0,hi,hz0,hz1,hz2⟩ := info_parts hinfo
 have hsl := strs_length A
 cases a0 with
 | some ad =>
  refine wpList_append_own _ hgd s x t ho base e i0 _ 1 16 ht hi hz0 hz1 hz2 rfl (by decide) v A.length (strs A) hs (by unfold OwnV at hown; rw [strs_length] at hown; exact hown) ad l.length cap (strs l) hx (by rw [strs_length]; omega) (hI.srcS.2 ad rfl) (strs_one l) (by unfold maxLen; omega) (by omega) hbase ?_
  intro v' w' h1 h2 _
  refine h v' w' ?_ h2
  unfold OwnV
  rw [strs_append,List.length_append,strs_length,strs_length]
  exact h1
 | none =>
  have : l = [] := List.length_eq_zero_iff.1 (hI.srcS.1 rfl)
  subst this
  refine wpList_plain hgd fun K hK => ?_
  have hrun : (Builtin.append_ #[t,t] o.type #[v,.slice none 0 cap]).run P w = .ok v w := by
   rcases hown.2 with ⟨rfl,_⟩ | ⟨g,cp,cur,rfl,_,_,hnc,_⟩
   ·simp [Builtin.append_,run_underlying ht,sizeOf,typeInfo,hi,Builtin.lenOf,Builtin.firstCells]
   ·simp [Builtin.append_,run_underlying ht,sizeOf,typeInfo,hi,Builtin.lenOf,Builtin.firstCells,storeCells,hnc]
  unfold Oper.wp
  simp at hx
  simp [execOp,ho,resolve,invoke,builtin,hs,hx,hrun,Result.andThen]
  exact hK _ _ (h v w (by simpa using hown) ⟨rfl,rfl,rfl,Nat.le_refl _,fun _ _ _ => rfl⟩)
set_option maxRecDepth 100000 in
set_option maxHeartbeats 2000000 in
theorem growS_any (w : World) (n : Nat) (hn : n ≤ 1048600) :
  Calls Tryz.prog 107 #[.slice none 0 0,.int .i64 n] w fun e w' => ∃ v,e = .returned v ∧ OwnV w' w.heap.size 9 v (strs []) ∧ Below w.heap.size w w' := by
 by_cases h0 : n = 0
 ·subst h0
  go_enter Tryz.func107,Tryz.ntmps107
  go_wp2
  go_ret
  exact ⟨_,rfl,⟨rfl,.inl ⟨rfl,rfl⟩⟩,Below.refl _ _⟩
 ·obtain ⟨i0,hi0,hz0,hzs,hzb⟩ := info_parts Tryz.infoSK
  have hold : (Builtin.firstCells i0.size 0 (.slice none 0 0)).run Tryz.prog w.drew = .ok ([] : List Value).toArray w.drew := by
   rw [hzs]
   exact run_firstCells_none w.drew 1 0 0 0
  obtain ⟨G,hG⟩ : ∃ G,G = grownCap w (0 + n) 0 9 := ⟨_,rfl⟩
  have hGn : 0 + n ≤ G := by rw [hG]; exact grownCap_ge w _ _ _
  have hG63 : G ≤ maxLen := by rw [hG]; exact grownCap_le_maxLen w (0 + n) 0 9 (by unfold maxLen; omega)
  obtain ⟨ROW,hROW⟩ : ∃ ROW : Array Value,ROW = ([] : List Value).toArray ++ Builtin.zeroCells (Value.string ⟨#[]⟩).cells n ++ Builtin.zeroCells (Value.string ⟨#[]⟩).cells (G - (0 + n)) := ⟨_,rfl⟩
  have hRl : ROW.size = G * 1 := by
   have hzl : ∀ k,(Builtin.zeroCells (Value.string ⟨#[]⟩).cells k).size = k * 1 := fun k => by simp [Builtin.zeroCells,Value.cells]
   rw [hROW,Array.size_append,Array.size_append,hzl,hzl]
   simp
   omega
  have hrz : ∀ ty,(Builtin.append_ #[25, 3] ty #[.slice none 0 0,.int .i64 (n : Int)]).run Tryz.prog w = .ok (.slice (some ⟨w.heap.size, 0,none⟩) n G) (w.drew.alloc (.cells ROW 9)) := fun ty => by
   have h := Lib.run_append_grow_zeros w 25 3 ty 9 i0 _ .i64 .i64 Tryz.underlying25 Tryz.underlying3 hi0 hz0 none 0 0 [] hold n (by omega) (by omega) (by omega) (by omega) (by rw [hzb]; omega) (by rw [hzb]; exact growslice_fits (by omega) (by omega))
   rw [← hG, ← hROW,Nat.zero_add] at h
   exact h
  obtain ⟨W1,hW1⟩ : ∃ W1,w.drew.alloc (.cells ROW 9) = W1 := ⟨_,rfl⟩
  rw [hW1] at hrz
  have HW : Hid (OwnV W1 w.heap.size 9 (.slice (some ⟨w.heap.size, 0,none⟩) 0 G) (strs []) ∧ Below w.heap.size w W1) := by
   rw [← hW1]
   refine ⟨⟨rfl,.inr ⟨w.heap.size,G,ROW,rfl,Nat.le_refl _,heap_alloc_new w.drew _,Nat.zero_le _,hG63,hRl,by simp [strs]⟩⟩, ?_⟩
   exact (show Below w.heap.size w w.drew from ⟨rfl,rfl,rfl,Nat.le_refl _,fun _ _ => rfl⟩).alloc (Nat.le_refl _) _
  obtain ⟨S,hS⟩ : ∃ S,w.heap.size = S := ⟨_,rfl⟩
  rw [hS] at hrz HW
  have HS : Hid (w.heap.size = S) := hS
  clear hold hROW hG hRl hW1 hS
  have hp : ¬ ((n : Int) < 0) := by omega
  have hp2 : (0 : Int) < (n : Int) := by omega
  have hw1 : IntKind.i64.wrap ((n : Int) - 0) = (n : Int) := by rw [IntKind.wrap_i64]; omega
  go_enter Tryz.func107,Tryz.ntmps107
  go_wp2_with (at_builtin; refine Lib.wpList_append_run _ rfl _ _ _ _ rfl _ _ rfl rfl _ _ (hrz _) ?_)
  go_ret
  rw [HS.out]
  exact ⟨_,rfl,HW.out.1,HW.out.2⟩
set_option maxRecDepth 100000 in
set_option maxHeartbeats 2000000 in
theorem concatS_any (w : World) (vb : Nat) (a1 a2 : Option Addr) (c1 c2 : Nat) (A B : List ByteArray) (hv0 : w.cell? ⟨vb, 0,none⟩ = some (.slice a1 A.length c1)) (hv1 : w.cell? ⟨vb, 1,none⟩ = some (.slice a2 B.length c2)) (hvb : vb < w.heap.size)
  (hA : LAt w a1 A w.heap.size) (hB : LAt w a2 B w.heap.size) (hm : A.length + B.length ≤ 1048600) :
  Calls Tryz.prog 93 #[.slice (some ⟨vb, 0,none⟩) 2 2] w fun e w' => ∃ v,e = .returned v ∧ OwnV w' w.heap.size 9 v (strs (A ++ B)) ∧ Below w.heap.size w w' := by
 have HV : Hid (∀ wi,Below w.heap.size w wi → wi.cell? ⟨vb, 0,none⟩ = some (.slice a1 A.length c1) ∧ wi.cell? ⟨vb, 1,none⟩ = some (.slice a2 B.length c2) ∧ LAt wi a1 A w.heap.size ∧ LAt wi a2 B w.heap.size) := fun wi hi =>
  ⟨(hi.cell (p := ⟨vb, 0,none⟩) hvb).trans hv0,(hi.cell (p := ⟨vb, 1,none⟩) hvb).trans hv1,hA.below hi (Nat.le_refl _),hB.below hi (Nat.le_refl _)⟩
 clear hA hB
 have hn1 : (A.length : Int) ≤ 1048600 := by omega
 have hn2 : (B.length : Int) ≤ 1048600 := by omega
 go_enter Tryz.func93,Tryz.ntmps93
 go_wp2
 go_loopw [3, 11] (fun s k wr => Box (wr = w ∧ ((k = .int .i64 0 ∧ s = .int .i64 0) ∨ (k = .int .i64 1 ∧ s = .int .i64 A.length) ∨ (k = .int .i64 2 ∧ s = .int .i64 ((A.length : Int) + B.length)))))
  (fun _ k _ => 2 - (intOf k).toNat)
 case atStart => exact ⟨⟨rfl,.inl ⟨rfl,rfl⟩⟩⟩
 case round =>
  obtain ⟨hwr,⟨rfl,rfl⟩ | ⟨rfl,rfl⟩ | ⟨rfl,rfl⟩⟩ := hrel.out
  all_goals rw [hwr]
  all_goals clear hwr
  ·clear hrel
   go_wp2
   go_roundw
   case rel =>
    try ((repeat apply Exists.intro); refine ⟨?_,rfl⟩)
    exact ⟨⟨by first | rfl | trivial,.inr (.inl ⟨by go_num,by go_num⟩)⟩⟩
   case measure => simp [intOf]
  ·clear hrel
   have hw1 : IntKind.i64.wrap ((A.length : Int) + (B.length : Int)) = (A.length : Int) + (B.length : Int) := by rw [IntKind.wrap_i64]; omega
   have hp : ¬ ((A.length : Int) + (B.length : Int) < 0) := by omega
   go_wp2
   go_roundw
   case rel =>
    try ((repeat apply Exists.intro); refine ⟨?_,rfl⟩)
    exact ⟨⟨by first | rfl | trivial,.inr (.inr ⟨by go_num,by go_num⟩)⟩⟩
   case measure => simp [intOf]
  ·clear hrel
   have cg := growS_any w (A.length + B.length) (by omega)
   rw [show ((A.length + B.length : Nat) : Int) = (A.length : Int) + B.length by omega] at cg
   clear hv0 hv1
   go_wp2_with fail
   refine cg.mono ?_
   rintro e w1 ⟨v1,rfl,ho1,hb1⟩
   clear cg
   go_wp2
   go_loopw [6, 27] (fun v k w2 => Box (Below w.heap.size w w2 ∧ ((k = .int .i64 0 ∧ OwnV w2 w.heap.size 9 v (strs [])) ∨ (k = .int .i64 1 ∧ OwnV w2 w.heap.size 9 v (strs A)) ∨ (k = .int .i64 2 ∧ OwnV w2 w.heap.size 9 v (strs (A ++ B))))))
    (fun _ k _ => 2 - (intOf k).toNat)
   case atStart => exact ⟨⟨hb1,.inl ⟨rfl,ho1⟩⟩⟩
   case round =>
    obtain ⟨hb2,⟨rfl,ho2⟩ | ⟨rfl,ho2⟩ | ⟨rfl,ho2⟩⟩ := hrel.out
    ·clear hrel
     obtain ⟨q0,q1,hA,hB⟩ := HV.out _ hb2
     have hsz := hb2.size
     go_wp2_with (at_builtin; refine wpList_plusS rfl (.tmp 31) (.tmp 32) 25 rfl w.heap.size 9 Tryz.underlying25 Tryz.infoSK _ [] rfl ho2 a1 c1 A _ rfl hA (by simp; omega) hsz ?_; intro v4 w4 ho4 hgr4)
     go_roundw
     case rel =>
      try ((repeat apply Exists.intro); refine ⟨?_,rfl⟩)
      exact ⟨⟨hb2.grown hgr4 hsz (fun k e => (ho2.lt k e).1),.inr (.inl ⟨by go_num,by simpa using ho4⟩)⟩⟩
     case measure => simp [intOf]
    ·clear hrel
     obtain ⟨q0,q1,hA,hB⟩ := HV.out _ hb2
     have hsz := hb2.size
     go_wp2_with (at_builtin; refine wpList_plusS rfl (.tmp 31) (.tmp 32) 25 rfl w.heap.size 9 Tryz.underlying25 Tryz.infoSK _ A rfl ho2 a2 c2 B _ rfl hB (by omega) hsz ?_; intro v4 w4 ho4 hgr4)
     go_roundw
     case rel =>
      try ((repeat apply Exists.intro); refine ⟨?_,rfl⟩)
      exact ⟨⟨hb2.grown hgr4 hsz (fun k e => (ho2.lt k e).1),.inr (.inr ⟨by go_num,ho4⟩)⟩⟩
     case measure => simp [intOf]
    ·clear hrel
     go_wp2
     go_ret
     exact ⟨_,rfl,ho2,hb2⟩
theorem listOkTo_succ (l : List ByteArray) (k : Nat) : listOkTo l (k + 1) = (listOkTo l k && (keyOk (l.getD k noKey) && !inL (l.take k) (l.getD k noKey))) := by
 unfold listOkTo
 rw [List.range_succ,List.all_append]
 simp
theorem listOkTo_down (l : List ByteArray) {k : Nat} : ∀ n,k ≤ n → listOkTo l k = false → listOkTo l n = false
 | 0,hk,h => by
  have : k = 0 := by omega
  rw [← this]
  exact h
 | n + 1,hk,h => by
  by_cases e : k = n + 1
  ·rw [← e]; exact h
  ·rw [listOkTo_succ,listOkTo_down l n (by omega) h]; rfl
theorem LAt.take {w : World} {a : Option Addr} {L : List ByteArray} {B : Nat} (h : LAt w a L B) (k : Nat) : LAt w a (L.take k) B := fun j hj => by
 rw [List.length_take] at hj
 obtain ⟨g,off,e,hg,hc⟩ := h j (by omega)
 exact ⟨g,off,e,hg,by rw [List.getElem_take]; exact hc⟩
theorem getD_key {l : List ByteArray} {k : Nat} (h : k < l.length) : l.getD k noKey = l[k] := by
 rw [List.getD_eq_getElem?_getD,List.getElem?_eq_getElem h]; rfl
set_option maxRecDepth 100000 in
set_option maxHeartbeats 4000000 in
theorem specPolicyOk_any (w : World) (aw am ak : Option Addr) (cw cm ck : Nat) (P : Pol) (hA : PolAt w aw am ak P w.heap.size) (hm : P.win.length ≤ 1048576) (hm' : P.main.length ≤ 1048576) (hs : P.sk.rows.length ≤ 1048576) (hz : ∀ z ∈ P.win ++ P.main,z.size ≤ 10000000) :
  Calls Tryz.prog 60 #[.agg #[.slice aw P.win.length cw,.slice am P.main.length cm,.slice ak P.sk.rows.length ck,.int .i64 P.sk.added]] w fun e w' => e = .returned (.bool (okP P)) ∧ Below w.heap.size w w' := by
 obtain ⟨w1,hw1⟩ : ∃ x,w.alloc (.cells #[.slice aw P.win.length cw,.slice am P.main.length cm,.slice ak P.sk.rows.length ck,.int .i64 P.sk.added] 30) = x := ⟨_,rfl⟩
 have hb1 : Below w.heap.size w w1 := by rw [← hw1]; exact (Below.refl _ _).alloc (Nat.le_refl _) _
 have hB : PBox w1 w.heap.size (.slice aw P.win.length cw) (.slice am P.main.length cm) (.slice ak P.sk.rows.length ck) (.int .i64 P.sk.added) := by rw [← hw1]; exact PBox.new _ _ _ _ _
 have hA1 := hA.on hb1
 have HW : Hid (w.alloc (.cells #[.slice aw P.win.length cw,.slice am P.main.length cm,.slice ak P.sk.rows.length ck,.int .i64 P.sk.added] 30) = w1) := hw1
 have HKC : Hid (∀ W,Below w1.heap.size w1 W → W.cell? ⟨w.heap.size, 0,none⟩ = some (.slice aw P.win.length cw) ∧ W.cell? ⟨w.heap.size, 1,none⟩ = some (.slice am P.main.length cm)) := fun W h => ⟨(hB.on h).cells.1,(hB.on h).cells.2.1⟩
 have HSW : Hid ((aw = none → P.win.length = 0) ∧ ∀ W,Below w1.heap.size w1 W → ∀ ad,aw = some ad → ∀ j u,(strs P.win)[j]? = some u → W.cell? (ad.add j) = some u) := ⟨hA1.1.srcS.1,fun W hW => (hA1.1.on hW).srcS.2⟩
 have HSM : Hid ((am = none → P.main.length = 0) ∧ ∀ W,Below w1.heap.size w1 W → ∀ ad,am = some ad → ∀ j u,(strs P.main)[j]? = some u → W.cell? (ad.add j) = some u) := ⟨hA1.2.1.srcS.1,fun W hW => (hA1.2.1.on hW).srcS.2⟩
 have hbE : Below w1.heap.size w1 (w1.alloc (.cells #[] 9)) := (Below.refl _ _).alloc (Nat.le_refl _) _
 have hbEd : Below w1.heap.size w1 (w1.alloc (.cells #[] 9)).drew := hbE.trans ⟨rfl,rfl,rfl,Nat.le_refl _,fun _ _ => rfl⟩
 obtain ⟨d0,d1⟩ := HKC.out w1 (Below.refl _ _)
 obtain ⟨e0,e1⟩ := HKC.out _ hbE
 have n1 := strs_length P.win
 have n2 := strs_length P.main
 obtain ⟨A,hAA⟩ : ∃ A,P.win ++ P.main = A := ⟨_,rfl⟩
 have HA : Hid (P.win ++ P.main = A) := hAA
 have hAl : A.length = P.win.length + P.main.length := by rw [← hAA,List.length_append]
 have hAs : strs P.win ++ strs P.main = strs A := by rw [← hAA,strs_append]
 rw [hAA] at hz
 have HZ : Hid (∀ z ∈ A,z.size ≤ 10000000) := hz
 have HPB : Hid (∀ W,Below w1.heap.size w1 W → PBox W w.heap.size (.slice aw P.win.length cw) (.slice am P.main.length cm) (.slice ak P.sk.rows.length ck) (.int .i64 P.sk.added) ∧ SSAt W ak P.sk.rows W.heap.size ∧ Below w.heap.size w W) := fun W h => ⟨hB.on h,hA1.2.2.on h,hb1.trans (h.mono hb1.size)⟩
 have HOK : Hid (∀ q,listOk A = q → okP P = (q && (decide (P.win.length ≤ 2) && decide (P.main.length ≤ 4) && okK P.sk))) := fun q h => by rw [← h, ← hAA]; rfl
 clear hAA hz
 rw [← hw1] at d0 d1 e0 e1
 clear hw1 hA hB hA1 hb1
 go_enter Tryz.func60,Tryz.ntmps60
 go_wp2
 rw [HW.out] at d0 d1 e0 e1 ⊢
 go_region_law (first
  | (refine step_allI rfl (.tmp 5) (.tmp 7) 25 rfl 9 Tryz.underlying25 (.string ⟨#[]⟩) 1 16 Tryz.infoSK rfl (by omega) (by omega) w1.heap.size rfl (by exact heap_alloc_new _ _) aw P.win.length cw (strs P.win) rfl (by rw [n1]; omega) HSW.out.1 (HSW.out.2 _ hbEd) (strs_one _) hm ?_; rintro g4 c4 w4 o4 b4 n4 k4; have hb4 : Below w1.heap.size w1 w4 := hbEd.trans b4; have hu4 := ownV_of_rowS o4; have f1 := (HKC.out _ hb4).2; clear o4 b4 n4 k4)
  | (refine step_plusO rfl (.tmp 8) (.tmp 10) 25 rfl w1.heap.size 9 Tryz.underlying25 (.string ⟨#[]⟩) 16 Tryz.infoSK rfl (by omega) g4 P.win.length c4 (strs P.win) rfl hu4 n1.symm (by omega) hb4.size am P.main.length cm (strs P.main) rfl n2 HSM.out.1 (HSM.out.2 _ hb4) (strs_one _) (by omega) ?_; rintro g5 c5 w5 o5 gr5; have hb5 : Below w1.heap.size w1 w5 := hb4.grown gr5 hb4.size (fun k e => by cases e; exact (hu4.lt _ rfl).1)))
 all_goals (
  rw [hAs] at o5
  obtain ⟨a5,cc,ev,hL5⟩ := o5.strsAt
  have hcap : A.length ≤ c5 := by
   rcases o5.2 with ⟨e1,_⟩ | ⟨g,cp,cur,e1,_,_,hle,_⟩
   ·cases e1
   ·simp only [Value.slice.injEq] at e1
    rw [strs_length] at e1 hle
    omega
  simp only [Value.slice.injEq] at ev
  obtain ⟨rfl,ev1,rfl⟩ := ev
  have hAL : A.length ≤ 10000000 := by omega
  rw [ev1]
  clear ev1 o5 hAs gr5 hu4 hb4 f1 d0 d1 e0 e1 hbE hbEd HSW HSM HKC n1 n2
  go_wp2
  go_loopw [4] (fun i wr => Box (∃ (k : Nat),k ≤ A.length ∧ i = .int .i64 k ∧ Hid (listOkTo A k = true) ∧ LAt wr (some ⟨g5, 0,none⟩) A wr.heap.size ∧ Below w1.heap.size w1 wr))
   (fun i _ => A.length - (intOf i).toNat)
  case atStart => exact ⟨⟨0,by omega,rfl,rfl,hL5,hb5⟩⟩
  case round =>
   obtain ⟨k,hk,rfl,HP,hL,hbr⟩ := hrel.out
   have HBR := HPB.out wr hbr
   by_cases hlt : k < A.length
   ·obtain ⟨g',off',ee,hg',hc⟩ := hL k hlt
    simp only [Option.some.injEq,Addr.mk.injEq,and_true] at ee
    obtain ⟨rfl,rfl⟩ := ee
    rw [Nat.zero_add] at hc
    obtain ⟨z,hzz⟩ : ∃ z,A[k] = z := ⟨_,rfl⟩
    have HX : Hid (listOkTo A (k + 1) = (keyOk z && !inL (A.take k) z)) := by show _ = _; rw [listOkTo_succ,HP.out,getD_key hlt,hzz,Bool.true_and]
    have hzs : z.size ≤ 10000000 := HZ.out z (by rw [← hzz]; exact List.getElem_mem hlt)
    have HDN : Hid (listOkTo A (k + 1) = false → okP P = false) := fun h => by rw [HOK.out false (listOkTo_down A A.length (by omega) h)]; rfl
    rw [hzz] at hc
    have kc := cell_regrown hc
    have htk : (A.take k).length = k := by rw [List.length_take]; omega
    have cK : ∀ d os,Calls Tryz.prog 36 #[.string z] (grow (redrawn wr d) os) fun e w'' => e = .returned (.bool (keyOk z)) ∧ ∃ p : Regrown,w'' = grow (redrawn wr p.d) p.os := fun d os => Calls.regrown_of ((l13Key_any (grow (redrawn wr d) os) z hzs).mono (by rintro e w'' ⟨rfl,rfl⟩; exact ⟨rfl,Below.refl _ _⟩))
    have cI : ∀ d os,Calls Tryz.prog 62 #[.slice (some ⟨g5, 0,none⟩) k c5,.string z] (grow (redrawn wr d) os) fun e w'' => e = .returned (.bool (inL (A.take k) z)) ∧ ∃ p : Regrown,w'' = grow (redrawn wr p.d) p.os := fun d os => Calls.regrown_of (by
     have c := l13In_any (grow (redrawn wr d) os) (some ⟨g5, 0,none⟩) c5 (A.take k) z ((hL.on (below_regrown wr d os)).take k) (by omega)
     rw [htk] at c
     exact c.mono (by rintro e w'' ⟨rfl,rfl⟩; exact ⟨rfl,Below.refl _ _⟩))
    have HL : Hid (LAt wr (some ⟨g5, 0,none⟩) A wr.heap.size ∧ Below w1.heap.size w1 wr) := ⟨hL,hbr⟩
    clear hrel hL hbr hL5 hb5 hzz htk hg' HP
    have hi1 : (0 : Int) ≤ (k : Int) := by omega
    have hi2 : (k : Int) < (A.length : Int) := by omega
    have hi3 : (k : Int) ≤ (c5 : Int) := by omega
    cases hA1 : keyOk z with
    | false =>
     have HF : Hid (okP P = false) := HDN.out (by rw [HX.out,hA1]; rfl)
     rw [hA1] at cK
     clear hA1 cI
     go_wp2_with fail
     refine wp_region_quiet_below (by kernel_rfl) (by kernel_rfl) ?_
     repeat (first | go_big_quiet_step (exact cK _ _) | quiet_step (exact cK _ _))
     refine wpQuiet_nil ?_
     intro _ hw'
     obtain ⟨⟨dq,osq⟩,hw''⟩ := hw'
     subst hw''
     go_wp2_with fail
     go_ret
     exact ⟨by rw [HF.out]; rfl,HBR.2.2.trans ((below_regrown wr dq osq).mono HBR.2.2.size)⟩
    | true =>
     rw [hA1] at cK
     cases hA2 : inL (A.take k) z with
     | true =>
      have HF : Hid (okP P = false) := HDN.out (by rw [HX.out,hA1,hA2]; rfl)
      rw [hA2] at cI
      clear hA1 hA2
      go_wp2_with fail
      refine wp_region_quiet_below (by kernel_rfl) (by kernel_rfl) ?_
      repeat (first | go_big_quiet_step (first | with_reducible exact cK _ _ | with_reducible exact cI _ _) | quiet_step (first | with_reducible exact cK _ _ | with_reducible exact cI _ _))
      refine wpQuiet_nil ?_
      intro _ hw'
      obtain ⟨⟨dq,osq⟩,hw''⟩ := hw'
      subst hw''
      go_wp2_with fail
      go_ret
      exact ⟨by rw [HF.out]; rfl,HBR.2.2.trans ((below_regrown wr dq osq).mono HBR.2.2.size)⟩
     | false =>
      have HT : Hid (listOkTo A (k + 1) = true) := by show _ = _; rw [HX.out,hA1,hA2]; rfl
      rw [hA2] at cI
      clear hA1 hA2
      go_wp2_with fail
      refine wp_region_quiet_below (by kernel_rfl) (by kernel_rfl) ?_
      repeat (first | go_big_quiet_step (first | with_reducible exact cK _ _ | with_reducible exact cI _ _) | quiet_step (first | with_reducible exact cK _ _ | with_reducible exact cI _ _))
      refine wpQuiet_nil ?_
      intro _ hw'
      obtain ⟨⟨dq,osq⟩,hw''⟩ := hw'
      subst hw''
      go_wp2_with fail
      go_roundw
      case rel =>
       try ((repeat apply Exists.intro); refine ⟨?_,rfl⟩)
       exact ⟨⟨k + 1,by omega,by go_num,HT,HL.out.1.on (below_regrown wr dq osq),HL.out.2.trans ((below_regrown wr dq osq).mono HL.out.2.size)⟩⟩
      case measure => simp [intOf]; omega
   ·have hke : k = A.length := by omega
    have HT : Hid (okP P = (decide (P.win.length ≤ 2) && decide (P.main.length ≤ 4) && okK P.sk)) := by
     show _ = _
     rw [HOK.out true (by show listOkTo A A.length = true; rw [← hke]; exact HP.out),Bool.true_and]
    obtain ⟨hBr,hSr,hbw⟩ := HBR
    obtain ⟨b0,b1,b2,b3⟩ := hBr.cells
    have cO := specSketchOk_any wr ak ck P.sk hSr hs
    clear hrel hL hbr hL5 hb5 HP hBr hSr
    by_cases h2 : P.win.length ≤ 2
    case neg =>
     have h2' : ¬ ((P.win.length : Int) ≤ 2) := by omega
     rw [decide_eq_false h2] at HT
     clear h2 cO
     go_wp2_with fail
     go_ret
     exact ⟨by rw [HT.out]; rfl,hbw⟩
    have h2' : ((P.win.length : Int) ≤ 2) := by omega
    rw [decide_eq_true h2] at HT
    by_cases h4 : P.main.length ≤ 4
    case neg =>
     have h4' : ¬ ((P.main.length : Int) ≤ 4) := by omega
     rw [decide_eq_false h4] at HT
     clear h2 h4 cO
     go_wp2_with fail
     go_ret
     exact ⟨by rw [HT.out]; rfl,hbw⟩
    have h4' : ((P.main.length : Int) ≤ 4) := by omega
    rw [decide_eq_true h4] at HT
    clear h2 h4
    generalize okK P.sk = q at cO HT
    go_wp2_with fail
    refine cO.mono ?_
    rintro e w' ⟨rfl,hbo⟩
    go_wp2_with fail
    go_ret
    exact ⟨by rw [HT.out]; simp,hbw.trans (hbo.mono hbw.size)⟩)
theorem specPolicyOk_sz (w : World) (aw am ak : Option Addr) (cw cm ck : Nat) (P : Pol) (hA : PolAt w aw am ak P w.heap.size) (hsz : PolSz P) :
  Calls Tryz.prog 60 #[.agg #[.slice aw P.win.length cw,.slice am P.main.length cm,.slice ak P.sk.rows.length ck,.int .i64 P.sk.added]] w fun e w' => e = .returned (.bool (okP P)) ∧ Below w.heap.size w w' := by
 obtain ⟨l1,l2,l3⟩ := hsz.parts
 exact specPolicyOk_any w aw am ak cw cm ck P hA l1 l2 (by unfold SkSz at l3; omega) (fun z hz => by have := hsz.texts z hz; omega)
theorem two_cells {w : World} {T : Nat} {x y : Value} {t : TypeId} (h : w.heap[T]? = some (.cells #[x,y] t (0, 0))) : w.cell? ⟨T, 0,none⟩ = some x ∧ w.cell? ⟨T, 1,none⟩ = some y := by
 exact ⟨by rw [cell_of_row w T 0 _ _ (0, 0) h]; rfl,by rw [cell_of_row w T 1 _ _ (0, 0) h]; rfl⟩
set_option maxRecDepth 100000 in
set_option maxHeartbeats 4000000 in
theorem implPolicyOk_any (w : World) (aw am ak : Option Addr) (cw cm ck : Nat) (P : Pol) (hA : PolAt w aw am ak P w.heap.size) (hm : P.win.length ≤ 1048576) (hm' : P.main.length ≤ 1048576) (hs : P.sk.rows.length ≤ 1048576) (hz : ∀ z ∈ P.win ++ P.main,z.size ≤ 10000000) :
  Calls Tryz.prog 70 #[.agg #[.slice aw P.win.length cw,.slice am P.main.length cm,.slice ak P.sk.rows.length ck,.int .i64 P.sk.added]] w fun e w' => e = .returned (.bool (okP P)) ∧ Below w.heap.size w w' := by
 obtain ⟨w1,hw1⟩ : ∃ x,w.alloc (.cells #[.slice aw P.win.length cw,.slice am P.main.length cm,.slice ak P.sk.rows.length ck,.int .i64 P.sk.added] 30) = x := ⟨_,rfl⟩
 have hb1 : Below w.heap.size w w1 := by rw [← hw1]; exact (Below.refl _ _).alloc (Nat.le_refl _) _
 have hB : PBox w1 w.heap.size (.slice aw P.win.length cw) (.slice am P.main.length cm) (.slice ak P.sk.rows.length ck) (.int .i64 P.sk.added) := by rw [← hw1]; exact PBox.new _ _ _ _ _
 have hA1 := hA.on hb1
 have cO := implSketchOk_any w1 ak ck P.sk hA1.2.2 hs
 have HW : Hid (w.alloc (.cells #[.slice aw P.win.length cw,.slice am P.main.length cm,.slice ak P.sk.rows.length ck,.int .i64 P.sk.added] 30) = w1) := hw1
 obtain ⟨A,hAA⟩ : ∃ A,P.win ++ P.main = A := ⟨_,rfl⟩
 have hAl : A.length = P.win.length + P.main.length := by rw [← hAA,List.length_append]
 have HOK : Hid (∀ q,listOk A = q → okP P = (q && (decide (P.win.length ≤ 2) && decide (P.main.length ≤ 4) && okK P.sk))) := fun q h => by rw [← h, ← hAA]; rfl
 have HAA : Hid (P.win ++ P.main = A) := hAA
 rw [hAA] at hz
 have HZ : Hid (∀ z ∈ A,z.size ≤ 10000000) := hz
 have HR : Hid (PolAt w1 aw am ak P w1.heap.size ∧ PBox w1 w.heap.size (.slice aw P.win.length cw) (.slice am P.main.length cm) (.slice ak P.sk.rows.length ck) (.int .i64 P.sk.added) ∧ Below w.heap.size w w1) := ⟨hA1,hB,hb1⟩
 obtain ⟨b0,b1,b2,b3⟩ := hB.cells
 rw [← hw1] at b0 b1 b2 b3
 clear hw1 hA hB hA1 hAA hz hb1 hs
 go_enter Tryz.func70,Tryz.ntmps70
 by_cases h2 : P.win.length ≤ 2
 case neg =>
  have h2' : ((2 : Int) < P.win.length) := by omega
  have HT : Hid (okP P = false) := by show _ = _; rw [HOK.out _ rfl,decide_eq_false h2]; simp
  clear h2 cO
  go_wp2_with fail
  rw [HW.out]
  go_ret
  exact ⟨by rw [HT.out]; rfl,HR.out.2.2⟩
 have h2' : ¬ ((2 : Int) < P.win.length) := by omega
 by_cases h4 : P.main.length ≤ 4
 case neg =>
  have h4' : ((4 : Int) < P.main.length) := by omega
  have HT : Hid (okP P = false) := by show _ = _; rw [HOK.out _ rfl,decide_eq_false h4]; simp
  clear h2 h4 cO
  go_wp2_with fail
  rw [HW.out]
  go_ret
  exact ⟨by rw [HT.out]; rfl,HR.out.2.2⟩
 have h4' : ¬ ((4 : Int) < P.main.length) := by omega
 rw [decide_eq_true h2,decide_eq_true h4] at HOK
 have hAL : A.length ≤ 6 := by omega
 clear h2 h4 hm hm'
 obtain ⟨q,hq⟩ : ∃ q,okK P.sk = q := ⟨_,rfl⟩
 rw [hq] at cO HOK
 clear hq
 go_wp2_with fail
 rw [HW.out]
 refine cO.mono ?_
 rintro e w2 ⟨rfl,hb2⟩
 obtain ⟨hP2,hB2,hbw2⟩ : PolAt w2 aw am ak P w2.heap.size ∧ PBox w2 w.heap.size (.slice aw P.win.length cw) (.slice am P.main.length cm) (.slice ak P.sk.rows.length ck) (.int .i64 P.sk.added) ∧ Below w.heap.size w w2 := ⟨HR.out.1.on hb2,HR.out.2.1.on hb2,HR.out.2.2.trans (hb2.mono HR.out.2.2.size)⟩
 clear cO b0 b1 b2 b3 HR HW hb2
 cases q with
 | false =>
  have HT : Hid (okP P = false) := by show _ = _; rw [HOK.out _ rfl]; simp
  go_wp2_with fail
  go_ret
  exact ⟨by rw [HT.out]; rfl,hbw2⟩
 | true =>
  obtain ⟨b0,b1,b2,b3⟩ := hB2.cells
  obtain ⟨w3,hw3⟩ : ∃ x,w2.alloc (.cells #[.slice aw P.win.length cw,.slice am P.main.length cm] 25) = x := ⟨_,rfl⟩
  have hb3 : Below w2.heap.size w2 w3 := by rw [← hw3]; exact (Below.refl _ _).alloc (Nat.le_refl _) _
  have hv3 : w3.heap[w2.heap.size]? = some (.cells #[.slice aw P.win.length cw,.slice am P.main.length cm] 25 (0, 0)) := by rw [← hw3]; exact heap_alloc_new _ _
  have hP3 := hP2.on hb3
  have cC := concatS_any w3 w2.heap.size aw am cw cm P.win P.main (two_cells hv3).1 (two_cells hv3).2 (Array.getElem?_eq_some_iff.1 hv3).1 hP3.1 hP3.2.1 (by omega)
  rw [HAA.out] at cC
  have HW3 : Hid (w2.alloc (.cells #[.slice aw P.win.length cw,.slice am P.main.length cm] 25) = w3) := hw3
  have HB3 : Hid (Below w.heap.size w w3) := hbw2.trans (hb3.mono hbw2.size)
  clear hw3 hv3 hP3 hP2 hB2
  go_wp2_with fail
  rw [HW3.out]
  refine cC.mono ?_
  rintro e w4 ⟨v,rfl,ho,hb4⟩
  have HB4 : Hid (Below w.heap.size w w4) := HB3.out.trans (hb4.mono HB3.out.size)
  obtain ⟨a5,c5,rfl,hL5⟩ := ho.strsAt
  have hcap : A.length ≤ c5 := by
   rcases ho.2 with ⟨e1,hl0⟩ | ⟨g,cp,cur,e1,_,_,hle,_⟩
   ·rw [strs_length] at hl0
    omega
   ·simp only [Value.slice.injEq] at e1
    rw [strs_length] at e1 hle
    omega
  clear cC ho b0 b1 b2 b3 hb3 hb4 HB3 HW3 hbw2
  go_wp2
  go_loopw [30] (fun i wr => Box (∃ (k : Nat),k ≤ A.length ∧ i = .int .i64 k ∧ Hid (listOkTo A k = true) ∧ LAt wr a5 A wr.heap.size ∧ Below w.heap.size w wr))
   (fun i _ => A.length - (intOf i).toNat)
  case atStart => exact ⟨⟨0,by omega,rfl,rfl,hL5,HB4.out⟩⟩
  case round =>
   obtain ⟨k,hk,rfl,HP,hL,hbr⟩ := hrel.out
   by_cases hlt : k < A.length
   ·obtain ⟨g',off',rfl,hg',hc⟩ := hL k hlt
    obtain ⟨z,hzz⟩ : ∃ z,A[k] = z := ⟨_,rfl⟩
    have HX : Hid (listOkTo A (k + 1) = (keyOk z && !inL (A.take k) z)) := by show _ = _; rw [listOkTo_succ,HP.out,getD_key hlt,hzz,Bool.true_and]
    have hzs : z.size ≤ 10000000 := HZ.out z (by rw [← hzz]; exact List.getElem_mem hlt)
    have HDN : Hid (listOkTo A (k + 1) = false → okP P = false) := fun h => by rw [HOK.out false (listOkTo_down A A.length (by omega) h)]; rfl
    rw [hzz] at hc
    have htk : (A.take k).length = k := by rw [List.length_take]; omega
    have cK := implKeyOk_any wr z hzs
    have cI : Calls Tryz.prog 75 #[.slice (some ⟨g',off',none⟩) k c5,.string z] wr fun e w' => e = .returned (.bool (inL (A.take k) z)) ∧ w' = wr := by
     have c := containsS_any wr (some ⟨g',off',none⟩) c5 (A.take k) z (hL.take k) (by omega)
     rw [htk] at c
     exact c
    have HL : Hid (LAt wr (some ⟨g',off',none⟩) A wr.heap.size ∧ Below w.heap.size w wr) := ⟨hL,hbr⟩
    clear hrel hL hbr hL5 hzz htk hg' HP
    have hi1 : (0 : Int) ≤ (k : Int) := by omega
    have hi2 : (k : Int) < (A.length : Int) := by omega
    have hi3 : (k : Int) ≤ (c5 : Int) := by omega
    cases hA1 : keyOk z with
    | false =>
     have HF : Hid (okP P = false) := HDN.out (by rw [HX.out,hA1]; rfl)
     rw [hA1] at cK
     clear hA1 cI
     go_wp2_with fail
     refine cK.mono ?_
     rintro e w' ⟨rfl,rfl⟩
     go_wp2_with fail
     go_ret
     exact ⟨by rw [HF.out]; rfl,HL.out.2⟩
    | true =>
     rw [hA1] at cK
     cases hA2 : inL (A.take k) z with
     | true =>
      have HF : Hid (okP P = false) := HDN.out (by rw [HX.out,hA1,hA2]; rfl)
      rw [hA2] at cI
      clear hA1 hA2
      go_wp2_with fail
      refine cK.mono ?_
      rintro e w' ⟨rfl,rfl⟩
      go_wp2_with fail
      refine cI.mono ?_
      rintro e w' ⟨rfl,rfl⟩
      go_wp2_with fail
      go_ret
      exact ⟨by rw [HF.out]; rfl,HL.out.2⟩
     | false =>
      have HT : Hid (listOkTo A (k + 1) = true) := by show _ = _; rw [HX.out,hA1,hA2]; rfl
      rw [hA2] at cI
      clear hA1 hA2
      go_wp2_with fail
      refine cK.mono ?_
      rintro e w' ⟨rfl,rfl⟩
      go_wp2_with fail
      refine cI.mono ?_
      rintro e w' ⟨rfl,rfl⟩
      go_wp2_with fail
      go_roundw
      case rel =>
       try ((repeat apply Exists.intro); refine ⟨?_,rfl⟩)
       exact ⟨⟨k + 1,by omega,by go_num,HT,HL.out.1,HL.out.2⟩⟩
      case measure => simp [intOf]; omega
   ·have hke : k = A.length := by omega
    have HT : Hid (okP P = true) := by
     show _ = _
     rw [HOK.out true (by show listOkTo A A.length = true; rw [← hke]; exact HP.out)]
     rfl
    clear hrel hL hL5 HP
    go_wp2_with fail
    go_ret
    exact ⟨by rw [HT.out]; rfl,hbr⟩
theorem implPolicyOk_sz (w : World) (aw am ak : Option Addr) (cw cm ck : Nat) (P : Pol) (hA : PolAt w aw am ak P w.heap.size) (hsz : PolSz P) :
  Calls Tryz.prog 70 #[.agg #[.slice aw P.win.length cw,.slice am P.main.length cm,.slice ak P.sk.rows.length ck,.int .i64 P.sk.added]] w fun e w' => e = .returned (.bool (okP P)) ∧ Below w.heap.size w w' := by
 obtain ⟨l1,l2,l3⟩ := hsz.parts
 exact implPolicyOk_any w aw am ak cw cm ck P hA l1 l2 (by unfold SkSz at l3; omega) (fun z hz => by have := hsz.texts z hz; omega)
end Go.Proofs.YthfjfccdelbkhaaGreatDoor
