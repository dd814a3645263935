/- A hall answers a client out of an entry. Written by mkanswer.py. -/
import Derived.Test.YtaahjcljanckaaaGreatDoorHallSeatJ
import Derived.Test.YtaahjcljanckaaaGreatDoorSkBumpImplJ
import Derived.Test.YtaahjcljanckaaaGreatDoorSkNewSpecJ
import Derived.Test.YtaahjcljanckaaaGreatDoorPxSlicesJ
namespace Go.Proofs.YtaahjcljanckaaaGreatDoor
open Go.RowKit Go.Sort
set_option maxRecDepth 100000 in
set_option maxHeartbeats 8000000 in
theorem hallAnswer_any (w : World) (lo T : Nat) (X : Pc) (R : Prx) (id : Int) (e : En) (H : HallAt w lo T X R) (hA : AscC R.cls) (hsz : PxSz R) (hk : e.key.size ≤ 1048576) (hkb : e.bd.size ≤ 1048576) (htab : Tab w) (hh : 0 ≤ R.hits ∧ R.hits ≤ 1000000000) (hst : 0 ≤ e.st ∧ e.st ≤ R.now ∧ R.now ≤ 1000000000) :
  Calls Tryz.prog 23 #[.pointer (some ⟨T, 0,none⟩),.int .i64 id,.agg #[.string e.key,.int .i64 e.st,.int .i64 e.lf,.string e.bd]] w fun e' w' => e' = .returned (.tuple #[]) ∧ ∃ (Y : Pc) (k : Nat) (b : Bool),PlaceC R.cls id k b ∧ HallAt w' lo T Y ⟨R.now,R.ents,(touchP R.pol e.key).1,R.fes,R.cls.take k ++ ⟨id,e.key, 0,e.st, 2,e.bd,R.now - e.st⟩ :: R.cls.drop k,min (R.hits + 1) 1000000000⟩ ∧ Below lo w w' := by
 obtain ⟨e0,e1,aw,cw,am,cm,ak,ck,f0,f1,c0,c1',rfl⟩ := H.own.slices
 obtain ⟨w1,hw1⟩ : ∃ x,w.alloc (.cells #[.string e.key,.int .i64 e.st,.int .i64 e.lf,.string e.bd] 65) = x := ⟨_,rfl⟩
 have hb1 : Below w.heap.size w w1 := by rw [← hw1]; exact (Below.refl _ _).alloc (Nat.le_refl _) _
 have hBB : EnB w1 w.heap.size 65 e := by rw [← hw1]; exact EnB.new w _ e
 have H1 := H.on hb1
 have HW : Hid (w.alloc (.cells #[.string e.key,.int .i64 e.st,.int .i64 e.lf,.string e.bd] 65) = w1) := hw1
 have hdr : Below w1.heap.size w1 w1.drew := (Below.refl _ _).drew
 obtain ⟨_,_,n2,n3,n4,n5,_,_,n8⟩ := H1.box.cells
 obtain ⟨Q,hQ⟩ : ∃ Q,(touchP R.pol e.key).1 = Q := ⟨_,rfl⟩
 obtain ⟨PP,hPP⟩ : ∃ PP : World → Value → Value → Prop,PP = (fun W yp yo => ∃ a1 c1 a2 c2 a3 c3,yp = .agg #[.slice a1 Q.win.length c1,.slice a2 Q.main.length c2,.slice a3 Q.sk.rows.length c3,.int .i64 Q.sk.added] ∧ POwn W w1.heap.size W.heap.size (.agg #[.slice a1 Q.win.length c1,.slice a2 Q.main.length c2,.slice a3 Q.sk.rows.length c3,.int .i64 Q.sk.added]) Q ∧ Below w1.heap.size w1 W) := ⟨_,rfl⟩
 have cT : Hid (Calls Tryz.prog 43 #[.agg #[.slice aw R.pol.win.length cw,.slice am R.pol.main.length cm,.slice ak R.pol.sk.rows.length ck,.int .i64 R.pol.sk.added],.string e.key] w1.drew fun e' w' => ∃ yp yo,e' = .returned (.tuple #[yp,yo]) ∧ PP w' yp yo ∧ w'.cell? ⟨w.heap.size, 0,none⟩ = some (.string e.key)) := by
  have hp : PolAt w1.drew aw am ak R.pol w1.drew.heap.size := (H1.own.at.polAt).on hdr
  refine (implPolicyTouch_any w1.drew aw am ak cw cm ck R.pol e.key hp hsz.parts.2.1 hk (htab.below (hb1.trans (hdr.mono hb1.size)) (Nat.le_refl _))).mono ?_
  rintro e' w' ⟨v,rfl,ho,hb⟩
  rw [hQ] at ho
  obtain ⟨a1,c1,a2,c2,a3,c3,rfl,_⟩ := ho.at
  have hbb : Below w1.heap.size w1 w' := hdr.trans (hb.mono hdr.size)
  refine ⟨_,_,rfl,by rw [hPP]; exact ⟨a1,c1,a2,c2,a3,c3,rfl,ho,hbb⟩,(hBB.on hbb).cells.1⟩
 have HC : Hid (∀ W : World,Below w1.heap.size w1 W → W.cell? ⟨T, 2,none⟩ = some (.slice aw R.pol.win.length cw) ∧ W.cell? ⟨T, 3,none⟩ = some (.slice am R.pol.main.length cm) ∧ W.cell? ⟨T, 4,none⟩ = some (.slice ak R.pol.sk.rows.length ck) ∧ W.cell? ⟨T, 5,none⟩ = some (.int .i64 R.pol.sk.added) ∧ W.frozen? ⟨T, 2,none⟩ = false ∧ W.frozen? ⟨T, 3,none⟩ = false ∧ W.frozen? ⟨T, 4,none⟩ = false ∧ W.frozen? ⟨T, 5,none⟩ = false) := by
  show ∀ W : World,_ → _
  intro W hb
  have h := H1.box.on hb
  obtain ⟨_,_,m2,m3,m4,m5,_,_,_⟩ := h.cells
  exact ⟨m2,m3,m4,m5,h.thaw 2,h.thaw 3,h.thaw 4,h.thaw 5⟩
 have KE : Hid (∀ (W : World) (x y z u : Value),(W.cell? ⟨w.heap.size, 0,none⟩ = some (.string e.key)) → (((((W.setCell ⟨T, 2,none⟩ x).setCell ⟨T, 3,none⟩ y).setCell ⟨T, 4,none⟩ z).setCell ⟨T, 5,none⟩ u).cell? ⟨w.heap.size, 0,none⟩ = some (.string e.key))) := by
  show ∀ (W : World) (x y z u : Value),_ → _
  intro W x y z u h
  have hne : T ≠ w.heap.size := by have := H.box.lt; omega
  exact cell_far7 hne (cell_far7 hne (cell_far7 hne (cell_far7 hne h)))
 have HF : Hid (∀ (W9 : World) (a1 : Option Addr) (c1 : Nat) (a2 : Option Addr) (c2 : Nat) (a3 : Option Addr) (c3 : Nat) (yo : Value),PP W9 (.agg #[.slice a1 Q.win.length c1,.slice a2 Q.main.length c2,.slice a3 Q.sk.rows.length c3,.int .i64 Q.sk.added]) yo → HallAt ((((W9.setCell ⟨T, 2,none⟩ (.slice a1 Q.win.length c1)).setCell ⟨T, 3,none⟩ (.slice a2 Q.main.length c2)).setCell ⟨T, 4,none⟩ (.slice a3 Q.sk.rows.length c3)).setCell ⟨T, 5,none⟩ (.int .i64 Q.sk.added)) lo T ⟨.slice e0 R.ents.length e1,.slice a1 Q.win.length c1,.slice a2 Q.main.length c2,.slice a3 Q.sk.rows.length c3,.slice f0 R.fes.length f1,.slice c0 R.cls.length c1'⟩ ⟨R.now,R.ents,Q,R.fes,R.cls,R.hits⟩ ∧ Below lo w ((((W9.setCell ⟨T, 2,none⟩ (.slice a1 Q.win.length c1)).setCell ⟨T, 3,none⟩ (.slice a2 Q.main.length c2)).setCell ⟨T, 4,none⟩ (.slice a3 Q.sk.rows.length c3)).setCell ⟨T, 5,none⟩ (.int .i64 Q.sk.added)) ∧ Tch (fun j => j = T) w ((((W9.setCell ⟨T, 2,none⟩ (.slice a1 Q.win.length c1)).setCell ⟨T, 3,none⟩ (.slice a2 Q.main.length c2)).setCell ⟨T, 4,none⟩ (.slice a3 Q.sk.rows.length c3)).setCell ⟨T, 5,none⟩ (.int .i64 Q.sk.added))) := by
  show ∀ (W9 : World) (a1 : Option Addr) (c1 : Nat) (a2 : Option Addr) (c2 : Nat) (a3 : Option Addr) (c3 : Nat) (yo : Value),_ → _
  intro W9 a1 c1 a2 c2 a3 c3 yo hp
  rw [hPP] at hp
  obtain ⟨d1,g1,d2,g2,d3,g3,hyy,ho,hb⟩ := hp
  rw [← hyy] at ho
  have hl1 : lo ≤ w1.heap.size := H1.lt
  have hbx := H1.box.on hb
  have hO : PxOwn W9 lo W9.heap.size ⟨.slice e0 R.ents.length e1,.slice a1 Q.win.length c1,.slice a2 Q.main.length c2,.slice a3 Q.sk.rows.length c3,.slice f0 R.fes.length f1,.slice c0 R.cls.length c1'⟩ ⟨R.now,R.ents,Q,R.fes,R.cls,R.hits⟩ := by
   have h := (H1.own.below hb (Nat.le_refl _)).up
   exact ⟨h.e,ho.mono hl1 (Nat.le_refl _),h.f,h.c,h.eh,h.fh,h.ch⟩
  have hbw : Below w.heap.size w W9 := hb1.trans (hb.mono hb1.size)
  have st : ∀ (Z : World) (i : Nat) (x : Value),Tch (fun j => j = T) Z (Z.setCell ⟨T,i,none⟩ x) := fun Z i x => (tch_setV (v := .slice (some ⟨T, 0,none⟩) 0 0) (G := T) (i := i) (u := x) rfl (Tch.of_below (Below.refl _ _))).weak (fun b hb => (Option.some.inj hb).symm)
  refine ⟨⟨(((hbx.set2 _).set3 _).set4 _).set5 _,(hO.box hbx (by unfold PxT; decide) (fun j hj => ?_)).up,H1.le⟩, ?_, ?_⟩
  ·exact (Below.heap_setCell _ _ _ _ (by exact hj)).trans ((Below.heap_setCell _ _ _ _ (by exact hj)).trans ((Below.heap_setCell _ _ _ _ (by exact hj)).trans (Below.heap_setCell _ _ _ _ (by exact hj))))
  ·exact ((((hbw.mono H.lt).setCell H.le _).setCell H.le _).setCell H.le _).setCell H.le _
  ·exact ((((Tch.of_below hbw).trans (st _ _ _)).trans (st _ _ _)).trans (st _ _ _)).trans (st _ _ _)
 have HE4 : Hid (∀ (W9 : World) (a1 : Option Addr) (c1 : Nat) (a2 : Option Addr) (c2 : Nat) (a3 : Option Addr) (c3 : Nat) (yo : Value),PP W9 (.agg #[.slice a1 Q.win.length c1,.slice a2 Q.main.length c2,.slice a3 Q.sk.rows.length c3,.int .i64 Q.sk.added]) yo → EnB ((((W9.setCell ⟨T, 2,none⟩ (.slice a1 Q.win.length c1)).setCell ⟨T, 3,none⟩ (.slice a2 Q.main.length c2)).setCell ⟨T, 4,none⟩ (.slice a3 Q.sk.rows.length c3)).setCell ⟨T, 5,none⟩ (.int .i64 Q.sk.added)) w.heap.size 65 e) := by
  show ∀ (W9 : World) (a1 : Option Addr) (c1 : Nat) (a2 : Option Addr) (c2 : Nat) (a3 : Option Addr) (c3 : Nat) (yo : Value),_ → _
  intro W9 a1 c1 a2 c2 a3 c3 yo hp
  rw [hPP] at hp
  obtain ⟨d1,g1,d2,g2,d3,g3,_,_,hb⟩ := hp
  have hne : w.heap.size ≠ T := by have := H.box.lt; omega
  exact ((((hBB.on hb).far hne _ _).far hne _ _).far hne _ _).far hne _ _
 have HN : Hid (wrap64 (R.hits + 1) = R.hits + 1 ∧ (AscC R.cls ∧ R.cls.length ≤ 1048576) ∧ T < w.heap.size ∧ e.key.size ≤ 1048576 ∧ e.bd.size ≤ 1048576 ∧ IntKind.i64.wrap (R.now - e.st) = R.now - e.st) := ⟨by unfold wrap64; omega,⟨hA,hsz.parts.2.2.2⟩,H.box.lt,hk,hkb,by rw [IntKind.wrap_i64]; omega⟩
 obtain ⟨FIN,hFIN⟩ : ∃ FIN : World → Prop,FIN = fun w' => ∃ (Y : Pc) (k : Nat) (b : Bool),PlaceC R.cls id k b ∧ HallAt w' lo T Y ⟨R.now,R.ents,Q,R.fes,R.cls.take k ++ ⟨id,e.key, 0,e.st, 2,e.bd,R.now - e.st⟩ :: R.cls.drop k,min (R.hits + 1) 1000000000⟩ ∧ Below lo w w' := ⟨_,rfl⟩
 have HFIN : Hid (FIN = fun w' => ∃ (Y : Pc) (k : Nat) (b : Bool),PlaceC R.cls id k b ∧ HallAt w' lo T Y ⟨R.now,R.ents,Q,R.fes,R.cls.take k ++ ⟨id,e.key, 0,e.st, 2,e.bd,R.now - e.st⟩ :: R.cls.drop k,min (R.hits + 1) 1000000000⟩ ∧ Below lo w w') := hFIN
 rw [hQ]
 have kx0 : w1.drew.cell? ⟨w.heap.size, 0,none⟩ = some (.string e.key) := (hBB.on hdr).cells.1
 clear hdr hBB H1 hw1 hb1
 go_enter Tryz.func23,Tryz.ntmps23
 go_upto_region 1 with fail
 rw [HW.out]
 refine wp_region_held_drew (S := fun W => W.cell? ⟨w.heap.size, 0,none⟩ = some (.string e.key)) (by kernel_rfl) kx0 (fun hHeld => ?_)
 refine wpAnyH_take (i := 0) (oi := _) (v := .pointer (some ⟨T, 0,none⟩)) rfl (by kernel_rfl) (by kernel_rfl) (by kernel_rfl) (fun _ _ _ h => h) (Or.inl ⟨by rfl, ?_⟩) (by assumption) ?_
 ·intro W hSw
  go_simp
 refine wpAnyH_take (i := 1) (oi := _) (v := .pointer (some ⟨T, 0,none⟩)) rfl (by kernel_rfl) (by kernel_rfl) (by kernel_rfl) (fun _ _ _ h => h) (Or.inl ⟨by rfl, ?_⟩) (by assumption) ?_
 ·intro W hSw
  go_simp
 refine wpAnyH_take (i := 2) (oi := _) (v := .pointer (some ⟨T, 0,none⟩)) rfl (by kernel_rfl) (by kernel_rfl) (by kernel_rfl) (fun _ _ _ h => h) (Or.inl ⟨by rfl, ?_⟩) (by assumption) ?_
 ·intro W hSw
  go_simp
 refine wpAnyH_take (i := 3) (oi := _) (v := .pointer (some ⟨T, 0,none⟩)) rfl (by kernel_rfl) (by kernel_rfl) (by kernel_rfl) (fun _ _ _ h => h) (Or.inl ⟨by rfl, ?_⟩) (by assumption) ?_
 ·intro W hSw
  go_simp
 refine wpAnyH_take (i := 4) (oi := _) (v := .pointer (some ⟨T, 2,none⟩)) rfl (by kernel_rfl) (by kernel_rfl) (by kernel_rfl) (fun _ _ _ h => h) (Or.inl ⟨by rfl, ?_⟩) (by assumption) ?_
 ·intro W hSw
  go_simp
 refine wpAnyH_take (i := 6) (oi := _) (v := .pointer (some ⟨w.heap.size, 0,none⟩)) rfl (by kernel_rfl) (by kernel_rfl) (by kernel_rfl) (fun _ _ _ h => h) (Or.inl ⟨by rfl, ?_⟩) (by assumption) ?_
 ·intro W hSw
  go_simp
 refine wpAnyH_take (i := 7) (oi := _) (v := .string e.key) rfl (by kernel_rfl) (by kernel_rfl) (by kernel_rfl) (fun _ _ _ h => h) (Or.inl ⟨by rfl, ?_⟩) (by assumption) ?_
 ·intro W hSw
  go_simp
 refine wpAnyH_invM (fun s a W => (W.cell? ⟨w.heap.size, 0,none⟩ = some (.string e.key)) ∧ ∃ (b5 b8 b9 b10 b11 b12 b13 b14 b15 : Bool) (y5 y8 y9 y10 y11 y12 y13 y14 yp yo : Value),s = #[true,true,true,true,true,b5,true,true,b8,b9,b10,b11,b12,b13,b14,b15] ∧ a = ⟨((.pointer (some ⟨T, 0,none⟩) : Value) :: (.int .i64 id : Value) :: (.agg #[.string e.key,.int .i64 e.st,.int .i64 e.lf,.string e.bd] : Value) :: undef :: undef :: (.pointer (some ⟨w.heap.size, 0,none⟩) : Value) :: y9 :: (.pointer (some ⟨T, 0,none⟩) : Value) :: (.pointer (some ⟨T, 0,none⟩) : Value) :: (.pointer (some ⟨T, 0,none⟩) : Value) :: (.pointer (some ⟨T, 0,none⟩) : Value) :: (.pointer (some ⟨T, 2,none⟩) : Value) :: y5 :: (.pointer (some ⟨w.heap.size, 0,none⟩) : Value) :: (.string e.key : Value) :: y8 :: y10 :: y11 :: y12 :: y13 :: y14 :: undef :: undef :: undef :: undef :: undef :: undef :: undef :: undef :: undef :: undef :: undef :: undef :: undef :: undef :: undef :: undef :: undef :: undef :: undef :: undef :: undef :: undef :: undef :: undef :: undef :: undef :: undef :: undef :: undef :: undef :: undef :: []).toArray, []⟩ ∧ ((b8 = false ∧ b9 = false ∧ b10 = false ∧ b11 = false ∧ b12 = false ∧ b13 = false ∧ b14 = false ∧ b15 = false ∧ W = w1.drew ∧ (b5 = true → y5 = .agg #[.slice aw R.pol.win.length cw,.slice am R.pol.main.length cm,.slice ak R.pol.sk.rows.length ck,.int .i64 R.pol.sk.added])) ∨ (b5 = true ∧ b8 = true ∧ b15 = false ∧ y8 = .tuple #[yp,yo] ∧ (b9 = true → y9 = .tuple #[yp,yo]) ∧ (b10 = true → y10 = yp) ∧ (b11 = true → y11 = yo) ∧ (b12 = true → y12 = .pointer (some ⟨T, 0,none⟩)) ∧ (b13 = true → y13 = .pointer (some ⟨T, 0,none⟩)) ∧ (b14 = true → y14 = .pointer (some ⟨T, 2,none⟩)) ∧ (b13 = true → b12 = true) ∧ (b14 = true → b13 = true) ∧ PP W yp yo) ∨ (b5 = true ∧ b8 = true ∧ b9 = true ∧ b10 = true ∧ b12 = true ∧ b13 = true ∧ b14 = true ∧ b15 = true ∧ y9 = .tuple #[yp,yo] ∧ ∃ (W9 : World) (a1 : Option Addr) (c1 : Nat) (a2 : Option Addr) (c2 : Nat) (a3 : Option Addr) (c3 : Nat),yp = .agg #[.slice a1 Q.win.length c1,.slice a2 Q.main.length c2,.slice a3 Q.sk.rows.length c3,.int .i64 Q.sk.added] ∧ PP W9 yp yo ∧ W = ((((W9.setCell ⟨T, 2,none⟩ (.slice a1 Q.win.length c1)).setCell ⟨T, 3,none⟩ (.slice a2 Q.main.length c2)).setCell ⟨T, 4,none⟩ (.slice a3 Q.sk.rows.length c3)).setCell ⟨T, 5,none⟩ (.int .i64 Q.sk.added))))) (by kernel_rfl) ?_ ?_ ?_ ?_ _ _ _ _ ?_ (by decide)
 ·rintro s a W ⟨_,b5,b8,b9,b10,b11,b12,b13,b14,b15,y5,y8,y9,y10,y11,y12,y13,y14,yp,yo,rfl,_⟩
  rfl
 ·rintro s a W ⟨h,_⟩
  exact h
 ·rintro s a W i ⟨hS,b5,b8,b9,b10,b11,b12,b13,b14,b15,y5,y8,y9,y10,y11,y12,y13,y14,yp,yo,rfl,rfl,hJ⟩ hi'
  obtain ⟨h1,o,ho,hall⟩ := mem_ready.1 hi'
  have hlt' : i < 16 := by simpa using (Array.getElem?_eq_some_iff.1 ho).1
  clear hi'
  rcases (by omega : i = 0 ∨ i = 1 ∨ i = 2 ∨ i = 3 ∨ i = 4 ∨ i = 5 ∨ i = 6 ∨ i = 7 ∨ i = 8 ∨ i = 9 ∨ i = 10 ∨ i = 11 ∨ i = 12 ∨ i = 13 ∨ i = 14 ∨ i = 15) with rfl | rfl | rfl | rfl | rfl | rfl | rfl | rfl | rfl | rfl | rfl | rfl | rfl | rfl | rfl | rfl
  ·simp at h1
  ·simp at h1
  ·simp at h1
  ·simp at h1
  ·simp at h1
  ·have hf : b5 = false := by simpa using h1
   subst hf
   injection ho with ho'
   subst ho'
   simp [Region.binds] at hall
   rcases hJ with ⟨e8,e9,e10,e11,e12,e13,e14,e15,hW,c5⟩ | ⟨e5,e8,e15,y8e,f9,f10,f11,f12,f13,f14,g13,g14,hp⟩ | ⟨e5,e8,e9,e10,e12,e13,e14,e15,y9e,W9,z1,z2,z3,z4,z5,z6,hy6,hp,hW⟩
   case inr.inl => cases e5
   case inr.inr => cases e5
   have hc2 : W.cell? ⟨T, 2,none⟩ = some (.slice aw R.pol.win.length cw) := by rw [hW]; exact n2
   have hc3 : W.cell? ⟨T, 3,none⟩ = some (.slice am R.pol.main.length cm) := by rw [hW]; exact n3
   have hc4 : W.cell? ⟨T, 4,none⟩ = some (.slice ak R.pol.sk.rows.length ck) := by rw [hW]; exact n4
   have hc5 : W.cell? ⟨T, 5,none⟩ = some (.int .i64 R.pol.sk.added) := by rw [hW]; exact n5
   refine wpOp_value (w' := W) (.agg #[.slice aw R.pol.win.length cw,.slice am R.pol.main.length cm,.slice ak R.pol.sk.rows.length ck,.int .i64 R.pol.sk.added]) rfl rfl (by go_simp) ?_
   exact ⟨hS,true,b8,b9,b10,b11,b12,b13,b14,b15,_,y8,y9,y10,y11,y12,y13,y14,yp,yo,rfl,rfl,.inl ⟨e8,e9,e10,e11,e12,e13,e14,e15,hW,fun _ => rfl⟩⟩
  ·simp at h1
  ·simp at h1
  ·have hf : b8 = false := by simpa using h1
   subst hf
   injection ho with ho'
   subst ho'
   simp [Region.binds] at hall
   rcases hJ with ⟨e8,e9,e10,e11,e12,e13,e14,e15,hW,c5⟩ | ⟨e5,e8,e15,y8e,f9,f10,f11,f12,f13,f14,g13,g14,hp⟩ | ⟨e5,e8,e9,e10,e12,e13,e14,e15,y9e,W9,z1,z2,z3,z4,z5,z6,hy6,hp,hW⟩
   case inr.inl => cases e8
   case inr.inr => cases e8
   have h5 : b5 = true := by simp_all
   have hy5 := c5 h5
   subst hy5 hW
   refine wpOp_enter 43 #[.agg #[.slice aw R.pol.win.length cw,.slice am R.pol.main.length cm,.slice ak R.pol.sk.rows.length ck,.int .i64 R.pol.sk.added],.string e.key] rfl rfl (by go_simp) ?_
   refine cT.out.mono ?_
   rintro e' w3 ⟨zp,zo,rfl,hp,hS3⟩
   exact ⟨.tuple #[zp,zo],rfl,hS3,b5,true,b9,b10,b11,b12,b13,b14,b15,_,.tuple #[zp,zo],y9,y10,y11,y12,y13,y14,zp,zo,rfl,rfl,.inr (.inl ⟨h5,rfl,e15,rfl,fun h => (by rw [e9] at h; cases h),fun h => (by rw [e10] at h; cases h),fun h => (by rw [e11] at h; cases h),fun h => (by rw [e12] at h; cases h),fun h => (by rw [e13] at h; cases h),fun h => (by rw [e14] at h; cases h),fun h => (by rw [e13] at h; cases h),fun h => (by rw [e14] at h; cases h),hp⟩)⟩
  ·have hf : b9 = false := by simpa using h1
   subst hf
   injection ho with ho'
   subst ho'
   simp [Region.binds] at hall
   rcases hJ with ⟨e8,e9,e10,e11,e12,e13,e14,e15,hW,c5⟩ | ⟨e5,e8,e15,y8e,f9,f10,f11,f12,f13,f14,g13,g14,hp⟩ | ⟨e5,e8,e9,e10,e12,e13,e14,e15,y9e,W9,z1,z2,z3,z4,z5,z6,hy6,hp,hW⟩
   case inl => simp_all
   case inr.inr => cases e9
   subst y8e
   refine wpOp_value (w' := W) (.tuple #[yp,yo]) rfl rfl (by go_simp) ?_
   exact ⟨hS,b5,b8,true,b10,b11,b12,b13,b14,b15,y5,_,_,y10,y11,y12,y13,y14,yp,yo,rfl,rfl,.inr (.inl ⟨e5,e8,e15,rfl,fun _ => rfl,f10,f11,f12,f13,f14,g13,g14,hp⟩)⟩
  ·have hf : b10 = false := by simpa using h1
   subst hf
   injection ho with ho'
   subst ho'
   simp [Region.binds] at hall
   rcases hJ with ⟨e8,e9,e10,e11,e12,e13,e14,e15,hW,c5⟩ | ⟨e5,e8,e15,y8e,f9,f10,f11,f12,f13,f14,g13,g14,hp⟩ | ⟨e5,e8,e9,e10,e12,e13,e14,e15,y9e,W9,z1,z2,z3,z4,z5,z6,hy6,hp,hW⟩
   case inl => simp_all
   case inr.inr => cases e10
   have hy := f9 (by simp_all)
   subst hy
   refine wpOp_value (w' := W) yp rfl rfl (by go_simp) ?_
   exact ⟨hS,b5,b8,b9,true,b11,b12,b13,b14,b15,y5,y8,_,_,y11,y12,y13,y14,yp,yo,rfl,rfl,.inr (.inl ⟨e5,e8,e15,y8e,fun _ => rfl,fun _ => rfl,f11,f12,f13,f14,g13,g14,hp⟩)⟩
  ·have hf : b11 = false := by simpa using h1
   subst hf
   injection ho with ho'
   subst ho'
   simp [Region.binds] at hall
   rcases hJ with ⟨e8,e9,e10,e11,e12,e13,e14,e15,hW,c5⟩ | ⟨e5,e8,e15,y8e,f9,f10,f11,f12,f13,f14,g13,g14,hp⟩ | ⟨e5,e8,e9,e10,e12,e13,e14,e15,y9e,W9,z1,z2,z3,z4,z5,z6,hy6,hp,hW⟩
   case inl => simp_all
   case inr.inr =>
    subst y9e
    refine wpOp_value (w' := W) yo rfl rfl (by go_simp) ?_
    exact ⟨hS,b5,b8,b9,b10,true,b12,b13,b14,b15,y5,y8,_,y10,_,y12,y13,y14,yp,yo,rfl,rfl,.inr (.inr ⟨e5,e8,e9,e10,e12,e13,e14,e15,rfl,W9,z1,z2,z3,z4,z5,z6,hy6,hp,hW⟩)⟩
   have hy := f9 (by simp_all)
   subst hy
   refine wpOp_value (w' := W) yo rfl rfl (by go_simp) ?_
   exact ⟨hS,b5,b8,b9,b10,true,b12,b13,b14,b15,y5,y8,_,y10,_,y12,y13,y14,yp,yo,rfl,rfl,.inr (.inl ⟨e5,e8,e15,y8e,fun _ => rfl,f10,fun _ => rfl,f12,f13,f14,g13,g14,hp⟩)⟩
  ·have hf : b12 = false := by simpa using h1
   subst hf
   injection ho with ho'
   subst ho'
   simp [Region.binds] at hall
   rcases hJ with ⟨e8,e9,e10,e11,e12,e13,e14,e15,hW,c5⟩ | ⟨e5,e8,e15,y8e,f9,f10,f11,f12,f13,f14,g13,g14,hp⟩ | ⟨e5,e8,e9,e10,e12,e13,e14,e15,y9e,W9,z1,z2,z3,z4,z5,z6,hy6,hp,hW⟩
   case inl => simp_all
   case inr.inr => cases e12
   refine wpOp_value (w' := W) (.pointer (some ⟨T, 0,none⟩)) rfl rfl (by go_simp) ?_
   exact ⟨hS,b5,b8,b9,b10,b11,true,b13,b14,b15,y5,y8,y9,y10,y11,_,y13,y14,yp,yo,rfl,rfl,.inr (.inl ⟨e5,e8,e15,y8e,f9,f10,f11,fun _ => rfl,f13,f14,fun _ => rfl,g14,hp⟩)⟩
  ·have hf : b13 = false := by simpa using h1
   subst hf
   injection ho with ho'
   subst ho'
   simp [Region.binds] at hall
   rcases hJ with ⟨e8,e9,e10,e11,e12,e13,e14,e15,hW,c5⟩ | ⟨e5,e8,e15,y8e,f9,f10,f11,f12,f13,f14,g13,g14,hp⟩ | ⟨e5,e8,e9,e10,e12,e13,e14,e15,y9e,W9,z1,z2,z3,z4,z5,z6,hy6,hp,hW⟩
   case inl => simp_all
   case inr.inr => cases e13
   have h12 : b12 = true := by simp_all
   have hy := f12 h12
   subst hy
   refine wpOp_value (w' := W) (.pointer (some ⟨T, 0,none⟩)) rfl rfl (by go_simp) ?_
   exact ⟨hS,b5,b8,b9,b10,b11,b12,true,b14,b15,y5,y8,y9,y10,y11,_,_,y14,yp,yo,rfl,rfl,.inr (.inl ⟨e5,e8,e15,y8e,f9,f10,f11,fun _ => rfl,fun _ => rfl,f14,fun _ => h12,fun _ => rfl,hp⟩)⟩
  ·have hf : b14 = false := by simpa using h1
   subst hf
   injection ho with ho'
   subst ho'
   simp [Region.binds] at hall
   rcases hJ with ⟨e8,e9,e10,e11,e12,e13,e14,e15,hW,c5⟩ | ⟨e5,e8,e15,y8e,f9,f10,f11,f12,f13,f14,g13,g14,hp⟩ | ⟨e5,e8,e9,e10,e12,e13,e14,e15,y9e,W9,z1,z2,z3,z4,z5,z6,hy6,hp,hW⟩
   case inl => simp_all
   case inr.inr => cases e14
   have h13 : b13 = true := by simp_all
   have hy := f13 h13
   subst hy
   refine wpOp_value (w' := W) (.pointer (some ⟨T, 2,none⟩)) rfl rfl (by go_simp) ?_
   exact ⟨hS,b5,b8,b9,b10,b11,b12,b13,true,b15,y5,y8,y9,y10,y11,y12,_,_,yp,yo,rfl,rfl,.inr (.inl ⟨e5,e8,e15,y8e,f9,f10,f11,f12,fun _ => rfl,fun _ => rfl,g13,fun _ => h13,hp⟩)⟩
  ·have hf : b15 = false := by simpa using h1
   subst hf
   injection ho with ho'
   subst ho'
   simp [Region.binds] at hall
   rcases hJ with ⟨e8,e9,e10,e11,e12,e13,e14,e15,hW,c5⟩ | ⟨e5,e8,e15,y8e,f9,f10,f11,f12,f13,f14,g13,g14,hp⟩ | ⟨e5,e8,e9,e10,e12,e13,e14,e15,y9e,W9,z1,z2,z3,z4,z5,z6,hy6,hp,hW⟩
   case inl => simp_all
   case inr.inr => cases e15
   have h14 : b14 = true := by simp_all
   have h13 := g14 h14
   have h12 := g13 h13
   have h10 : b10 = true := by simp_all
   have h9 : b9 = true := by simp_all
   have hy9 := f9 h9
   subst hy9
   have hy := f14 h14
   have hy' := f10 h10
   subst hy hy'
   have hp' := hp
   rw [hPP] at hp'
   obtain ⟨a1,c1,a2,c2,a3,c3,rfl,ho3,hb3⟩ := hp'
   obtain ⟨x2,x3,x4,x5,t2,t3,t4,t5⟩ := HC.out W hb3
   refine wpOp_skip (w' := ((((W.setCell ⟨T, 2,none⟩ (.slice a1 Q.win.length c1)).setCell ⟨T, 3,none⟩ (.slice a2 Q.main.length c2)).setCell ⟨T, 4,none⟩ (.slice a3 Q.sk.rows.length c3)).setCell ⟨T, 5,none⟩ (.int .i64 Q.sk.added))) rfl rfl (by go_simp) ?_
   exact ⟨KE.out W _ _ _ _ hS,b5,b8,b9,b10,b11,b12,b13,b14,true,y5,y8,_,_,y11,y12,y13,_,_,yo,rfl,rfl,.inr (.inr ⟨e5,e8,h9,h10,h12,h13,h14,rfl,rfl,W,a1,c1,a2,c2,a3,c3,rfl,hp,rfl⟩)⟩
 ·rintro s a W ⟨_,b5,b8,b9,b10,b11,b12,b13,b14,b15,y5,y8,y9,y10,y11,y12,y13,y14,yp,yo,rfl,rfl,hJ⟩ hall
  have h0 : b15 = true := by simpa using hall 15 (by simp)
  rcases hJ with ⟨e8,e9,e10,e11,e12,e13,e14,e15,hW,c5⟩ | ⟨e5,e8,e15,y8e,f9,f10,f11,f12,f13,f14,g13,g14,hp⟩ | ⟨e5,e8,e9,e10,e12,e13,e14,e15,y9e,W9,a1,c1,a2,c2,a3,c3,rfl,hp,rfl⟩
  case inl => rw [e15] at h0; cases h0
  case inr.inl => rw [e15] at h0; cases h0
  obtain ⟨hF1,hF2,hF3⟩ := HF.out W9 a1 c1 a2 c2 a3 c3 yo hp
  clear hall
  obtain ⟨w4,hw4⟩ : ∃ x,((((W9.setCell ⟨T, 2,none⟩ (.slice a1 Q.win.length c1)).setCell ⟨T, 3,none⟩ (.slice a2 Q.main.length c2)).setCell ⟨T, 4,none⟩ (.slice a3 Q.sk.rows.length c3)).setCell ⟨T, 5,none⟩ (.int .i64 Q.sk.added)) = x := ⟨_,rfl⟩
  rw [hw4] at hF1 hF2 hF3 ⊢
  obtain ⟨_,_,_,_,_,_,_,_,x8⟩ := hF1.box.cells
  have t8 := hF1.box.thaw 8
  have HH4 : Hid _ := (fun (_ : Unit) => And.intro hF1 (And.intro hF2 hF3))
  have hE4 : EnB w4 w.heap.size 65 e := by rw [← hw4]; exact HE4.out W9 a1 c1 a2 c2 a3 c3 yo hp
  have hB4 : EnB w4 w.heap.size 65 e := hE4
  clear hw4 hF1 hF2 hF3 hE4 hp
  go_upto_region 3 with fail
  obtain ⟨w5,hw5⟩ : ∃ x,w4.setCell ⟨T, 8,none⟩ (.int .i64 (min (R.hits + 1) 1000000000)) = x := ⟨_,rfl⟩
  obtain ⟨hF1,hF2,hF3⟩ := HH4.out ()
  have H5 : HallAt w5 lo T ⟨.slice e0 R.ents.length e1,.slice a1 Q.win.length c1,.slice a2 Q.main.length c2,.slice a3 Q.sk.rows.length c3,.slice f0 R.fes.length f1,.slice c0 R.cls.length c1'⟩ ⟨R.now,R.ents,Q,R.fes,R.cls,min (R.hits + 1) 1000000000⟩ := by
   rw [← hw5]
   have h := (hF1.own.box (w' := w4.setCell ⟨T, 8,none⟩ (.int .i64 (min (R.hits + 1) 1000000000))) hF1.box (by unfold PxT; decide) (fun j hj => Below.heap_setCell _ _ _ _ (by exact hj))).up
   exact ⟨hF1.box.set8 _,⟨h.e,h.p,h.f,h.c,h.eh,h.fh,h.ch⟩,hF1.le⟩
  have hbl5 : Below lo w w5 := by rw [← hw5]; exact hF2.setCell hF1.le _
  have hE5 : EnB w5 w.heap.size 65 e := by rw [← hw5]; exact hB4.far (by have := HN.out.2.2; omega) 8 _
  have KS : ∀ W,Below w5.heap.size w5 W → W.cell? ⟨w.heap.size, 0,none⟩ = some (.string e.key) ∧ W.cell? ⟨w.heap.size, 1,none⟩ = some (.int .i64 e.st) ∧ W.cell? ⟨w.heap.size, 3,none⟩ = some (.string e.bd) ∧ W.cell? ⟨T, 0,none⟩ = some (.int .i64 R.now) := fun W h => by
   obtain ⟨m0,m1,m2,m3⟩ := (hE5.on h).cells
   exact ⟨m0,m1,m3,(H5.on h).box.cells.1⟩
  have hd5 : Below w5.heap.size w5 w5.drew := (Below.refl _ _).drew
  have HS : Hid (∀ W,Below w5.heap.size w5 W → Calls Tryz.prog 44 #[.pointer (some ⟨T, 0,none⟩),.agg #[.int .i64 id,.string e.key,.int .i64 0,.int .i64 e.st,.int .i64 2,.string e.bd,.int .i64 (R.now - e.st)]] W fun e' w' => e' = .returned (.tuple #[]) ∧ FIN w' ∧ (w'.cell? ⟨w.heap.size, 0,none⟩ = some (.string e.key) ∧ w'.cell? ⟨w.heap.size, 1,none⟩ = some (.int .i64 e.st) ∧ w'.cell? ⟨w.heap.size, 3,none⟩ = some (.string e.bd) ∧ w'.cell? ⟨T, 0,none⟩ = some (.int .i64 R.now))) := by
   show ∀ W,_ → _
   intro W hW
   refine (hallSeat_any W lo T ⟨.slice e0 R.ents.length e1,.slice a1 Q.win.length c1,.slice a2 Q.main.length c2,.slice a3 Q.sk.rows.length c3,.slice f0 R.fes.length f1,.slice c0 R.cls.length c1'⟩ ⟨R.now,R.ents,Q,R.fes,R.cls,min (R.hits + 1) 1000000000⟩ ⟨id,e.key, 0,e.st, 2,e.bd,R.now - e.st⟩ (H5.on hW) HN.out.2.1.1 HN.out.2.1.2).mono ?_
   rintro e' w' ⟨rfl,v',k,b,hp,hH,hbz,htz⟩
   have hE' : EnB w' w.heap.size 65 e := htz.keep (hE5.on hW) (fun hx => by
    rcases hx with hx | hx
    ·have := HN.out.2.2; omega
    ·obtain ⟨cs,hc⟩ := (H5.on hW).own.c.type _ hx
     have h2 : W.heap[w.heap.size]? = _ := hE5.on hW
     rw [h2] at hc
     simp only [Option.some.injEq,Obj.cells.injEq] at hc
     exact absurd hc.2.1 (by decide))
   obtain ⟨m0,m1,m2,m3⟩ := hE'.cells
   exact ⟨rfl,by rw [HFIN.out]; exact ⟨_,k,b,hp,hH,(hbl5.trans (hW.mono H5.lt)).trans hbz⟩,m0,m1,m3,hH.box.cells.1⟩
  have HW5 : Hid (w4.setCell ⟨T, 8,none⟩ (.int .i64 (min (R.hits + 1) 1000000000)) = w5) := hw5
  rw [hw5]
  clear hw5 hF1 hF2 hF3 H5 hbl5 hE5 hB4 x8 t8
  go_region_held3 (fun W => W.cell? ⟨w.heap.size, 0,none⟩ = some (.string e.key) ∧ W.cell? ⟨w.heap.size, 1,none⟩ = some (.int .i64 e.st) ∧ W.cell? ⟨w.heap.size, 3,none⟩ = some (.string e.bd) ∧ W.cell? ⟨T, 0,none⟩ = some (.int .i64 R.now)) (first | with_reducible exact KS _ hd5 | with_reducible exact KS _ hg6 | with_reducible exact KS _ hg7 | with_reducible exact kx8)
   (first
    | (go_at_call 34; with_reducible refine (cloneP_any e.key _ HN.out.2.2.2.1).mono ?_; rintro e' w6 ⟨rfl,hb6⟩; have hg6 := hd5.trans (hb6.mono hd5.size))
    | (go_at_call 34; with_reducible refine (cloneP_any e.bd _ HN.out.2.2.2.2.1).mono ?_; rintro e' w7 ⟨rfl,hb7⟩; have hg7 := hg6.trans (hb7.mono hg6.size))
    | (go_at_call 44; rw [HN.out.2.2.2.2.2]; with_reducible refine (HS.out _ hg7).mono ?_; rintro e' w8 ⟨rfl,hfin,kx8⟩))
  rw [HFIN.out] at hfin
  have HFF : Hid _ := (fun (_ : Unit) => hfin)
  clear hfin
  go_wp2_with fail
  exact bodyPost_end (results_none rfl _ _ _) rfl ⟨rfl,HFF.out ()⟩
 ·exact ⟨kx0,false,false,false,false,false,false,false,false,false,undef,undef,undef,undef,undef,undef,undef,undef,undef,undef,by kernel_rfl,by kernel_rfl,.inl ⟨rfl,rfl,rfl,rfl,rfl,rfl,rfl,rfl,rfl,fun h => (by cases h)⟩⟩
end Go.Proofs.YtaahjcljanckaaaGreatDoor
