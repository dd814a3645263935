/- A hall lets a client wait. Written by mkwait.py. -/
import Derived.Test.YtaahjcljanckaaaGreatDoorHallSeatJ
import Derived.Test.YtaahjcljanckaaaGreatDoorHallSetJ
import Derived.Test.YtaahjcljanckaaaGreatDoorSkBumpImplJ
import Derived.Test.YtaahjcljanckaaaGreatDoorSkNewSpecJ
import Derived.Test.YtaahjcljanckaaaGreatDoorPrxBaseJ
import Derived.Test.YtaahjcljanckaaaGreatDoorSumTabJ
import Derived.Test.YtaahjcljanckaaaGreatDoorEntPlaceJ
import Derived.Deep.AppendLies
namespace Go.Proofs.YtaahjcljanckaaaGreatDoor
open Go.RowKit Go.Sort
theorem Tab.keepW {w w' : World} {B : Nat} (h : Tab w) (hb : Below B w w') (hB : 1 < B) : Tab w' := var?_below hb gFour hB h
set_option maxRecDepth 100000 in
set_option maxHeartbeats 8000000 in
theorem hallWait_any (w : World) (lo T : Nat) (X : Pc) (R : Prx) (id : Int) (key : ByteArray) (z : Nat) (H : HallAt w lo T X R) (hA : AscC R.cls) (hsz : PxSz R) (hk : key.size ≤ 1048576) (htab : Tab w) (hgl : 1 < lo) (hz : z ≤ R.fes.length) (htx : ∀ f ∈ R.fes,f.tx.size ≤ 1048576) :
  Calls Tryz.prog 25 #[.pointer (some ⟨T, 0,none⟩),.int .i64 id,.string key,.int .i64 (z : Int)] w fun e' w' => e' = .returned (.tuple #[]) ∧ ∃ (Y : Pc) (k : Nat) (b : Bool),PlaceC R.cls id k b ∧ HallAt w' lo T Y ⟨R.now,offE R.ents key,waitP R.pol key,waitF R.fes key z,R.cls.take k ++ waitC R.fes id key z :: R.cls.drop k,R.hits⟩ ∧ Below lo w w' := by
 obtain ⟨l1,l2,l3,l4⟩ := hsz.parts
 have c1 := hallForget_any w lo T X R key H l1
 obtain ⟨FIN,hFIN⟩ : ∃ FIN : World → Prop,FIN = fun w' => ∃ (Y : Pc) (k : Nat) (b : Bool),PlaceC R.cls id k b ∧ HallAt w' lo T Y ⟨R.now,offE R.ents key,waitP R.pol key,waitF R.fes key z,R.cls.take k ++ waitC R.fes id key z :: R.cls.drop k,R.hits⟩ ∧ Below lo w w' := ⟨_,rfl⟩
 have HFIN : Hid (FIN = fun w' => ∃ (Y : Pc) (k : Nat) (b : Bool),PlaceC R.cls id k b ∧ HallAt w' lo T Y ⟨R.now,offE R.ents key,waitP R.pol key,waitF R.fes key z,R.cls.take k ++ waitC R.fes id key z :: R.cls.drop k,R.hits⟩ ∧ Below lo w w') := hFIN
 show Calls Tryz.prog 25 _ w fun e' w' => e' = .returned (.tuple #[]) ∧ (fun w' => ∃ (Y : Pc) (k : Nat) (b : Bool),PlaceC R.cls id k b ∧ HallAt w' lo T Y ⟨R.now,offE R.ents key,waitP R.pol key,waitF R.fes key z,R.cls.take k ++ waitC R.fes id key z :: R.cls.drop k,R.hits⟩ ∧ Below lo w w') w'
 rw [← hFIN]
 have HZ : Hid (AscC R.cls ∧ R.fes.length ≤ 1048576 ∧ R.cls.length ≤ 1048576 ∧ key.size ≤ 1048576 ∧ z ≤ R.fes.length ∧ (∀ f ∈ R.fes,f.tx.size ≤ 1048576) ∧ PolSz R.pol ∧ lo ≤ w.heap.size) := ⟨hA,l3,l4,hk,hz,htx,l2,H.lt⟩
 have HTB : Hid (∀ W,Below lo w W → T < w.heap.size) := fun _ _ => H.box.lt
 have HTA : Hid (∀ W,Below lo w W → Tab W) := fun W hb => htab.keepW hb hgl
 clear hA hsz hFIN l1 l2 l3 l4 htx hk htab hgl hz
 go_enter Tryz.func25,Tryz.ntmps25
 go_wp2_with fail
 refine c1.mono ?_
 rintro e w1 ⟨rfl,v1,H1,hb1⟩
 clear c1
 obtain ⟨e0,e1,aw,cw,am,cm,ak,ck,f0,f1,c0,c1,hX⟩ := H1.own.slices
 simp only [Pc.mk.injEq] at hX
 obtain ⟨rfl,hXw,hXm,hXk,hXf,hXc⟩ := hX
 obtain ⟨_,_,n2,n3,n4,n5,_,_,_⟩ := H1.box.cells
 rw [hXw] at n2
 rw [hXm] at n3
 rw [hXk] at n4
 have hpl : PolAt w1 aw am ak R.pol w1.heap.size := by
  have h := H1.own.at
  obtain ⟨q1,q2,e1,e2⟩ := h.pw
  obtain ⟨q3,q4,e3,e4⟩ := h.pm
  obtain ⟨q5,q6,e5,e6⟩ := h.pk
  dsimp only at e1 e3 e5 hXw hXm hXk
  rw [hXw] at e1
  rw [hXm] at e3
  rw [hXk] at e5
  simp only [Value.slice.injEq] at e1 e3 e5
  obtain ⟨rfl,_,rfl⟩ := e1
  obtain ⟨rfl,_,rfl⟩ := e3
  obtain ⟨rfl,_,rfl⟩ := e5
  exact ⟨e2,e4,e6⟩
 have c2 := implPolicyDrop_any w1 aw am ak cw cm ck R.pol key hpl HZ.out.2.2.2.2.2.2.1
 go_wp2_with fail
 refine c2.mono ?_
 rintro e w2 ⟨v,rfl,ho2,hb2⟩
 obtain ⟨a1,c1,a2,c2,a3,c3,rfl,_⟩ := ho2.at
 have HH3 : Hid _ := (fun (_ : Unit) => H1.setPol hb2 ho2)
 have hB2 := H1.box.on hb2
 have t0 := hB2.cells.2.2.1
 have g0 := hB2.thaw 2
 have s0 := hB2.set2 (.slice a1 (dropP R.pol key).win.length c1)
 have t1 := s0.cells.2.2.2.1
 have g1 := s0.thaw 3
 have s1 := s0.set3 (.slice a2 (dropP R.pol key).main.length c2)
 have t2 := s1.cells.2.2.2.2.1
 have g2 := s1.thaw 4
 have s2 := s1.set4 (.slice a3 (dropP R.pol key).sk.rows.length c3)
 have t3 := s2.cells.2.2.2.2.2.1
 have g3 := s2.thaw 5
 obtain ⟨w3,hw3⟩ : ∃ x,((((w2.setCell ⟨T, 2,none⟩ (.slice a1 (dropP R.pol key).win.length c1)).setCell ⟨T, 3,none⟩ (.slice a2 (dropP R.pol key).main.length c2)).setCell ⟨T, 4,none⟩ (.slice a3 (dropP R.pol key).sk.rows.length c3)).setCell ⟨T, 5,none⟩ (.int .i64 (dropP R.pol key).sk.added)) = x := ⟨_,rfl⟩
 have HW3 : Hid (((((w2.setCell ⟨T, 2,none⟩ (.slice a1 (dropP R.pol key).win.length c1)).setCell ⟨T, 3,none⟩ (.slice a2 (dropP R.pol key).main.length c2)).setCell ⟨T, 4,none⟩ (.slice a3 (dropP R.pol key).sk.rows.length c3)).setCell ⟨T, 5,none⟩ (.int .i64 (dropP R.pol key).sk.added)) = w3) := hw3
 clear ho2 hpl n2 n3 n4 n5 hB2 hw3
 go_upto_region 2 with fail
 rw [HW3.out]
 clear t0 t1 t2 t3 g0 g1 g2 g3 s0 s1 s2
 obtain ⟨H3,hb3⟩ := HH3.out ()
 rw [HW3.out] at H3 hb3
 have hbw3 := hb1.trans hb3
 clear HH3 HW3 H1 hb1 hb2 hb3
 obtain ⟨_,_,_,_,n4,n5,_,_,_⟩ := H3.box.cells
 have hsk : SSAt w3 a3 (dropP R.pol key).sk.rows w3.heap.size := by
  obtain ⟨q5,q6,e5,e6⟩ := H3.own.at.pk
  dsimp only at e5
  simp only [Value.slice.injEq] at e5
  obtain ⟨rfl,_,rfl⟩ := e5
  exact e6
 have c3b := implSketchBump_any w3 a3 c3 (dropP R.pol key).sk key hsk HZ.out.2.2.2.2.2.2.1.parts.2.2 HZ.out.2.2.2.1 (HTA.out w3 hbw3)
 go_wp2_with fail
 refine c3b.mono ?_
 rintro e wk ⟨v,rfl,⟨v4,rfl,ho4⟩,hbk⟩
 obtain ⟨a4,c4,rfl,_⟩ := ho4.at
 have HH4 : Hid _ := (fun (_ : Unit) => H3.setSk hbk ho4)
 have hBk := H3.box.on hbk
 have t0 := hBk.cells.2.2.2.2.1
 have g0 := hBk.thaw 4
 have s0 := hBk.set4 (.slice a4 (bumpS (dropP R.pol key).sk key).rows.length c4)
 have t1 := s0.cells.2.2.2.2.2.1
 have g1 := s0.thaw 5
 obtain ⟨w4,hw4⟩ : ∃ x,((wk.setCell ⟨T, 4,none⟩ (.slice a4 (bumpS (dropP R.pol key).sk key).rows.length c4)).setCell ⟨T, 5,none⟩ (.int .i64 (bumpS (dropP R.pol key).sk key).added)) = x := ⟨_,rfl⟩
 have HW4 : Hid (((wk.setCell ⟨T, 4,none⟩ (.slice a4 (bumpS (dropP R.pol key).sk key).rows.length c4)).setCell ⟨T, 5,none⟩ (.int .i64 (bumpS (dropP R.pol key).sk key).added)) = w4) := hw4
 clear ho4 hsk n4 n5 hBk hw4 c3b
 go_upto_region 3 with fail
 rw [HW4.out]
 clear t0 t1 g0 g1 s0
 obtain ⟨H4,hb4⟩ := HH4.out ()
 rw [HW4.out] at H4 hb4
 have hbw4 := hbw3.trans hb4
 clear HH4 HW4 H3 hbk hb4 hbw3
 obtain ⟨_,_,_,_,_,_,n6,_,_⟩ := H4.box.cells
 try dsimp only at n6
 rw [hXf] at n6
 try dsimp only at n6
 by_cases hzl : z = R.fes.length
 ·subst hzl
  have hO4 : OwnFet w4 lo 84 (.slice f0 R.fes.length f1) R.fes := by
   have h := H4.own.f
   dsimp only at h
   rw [hXf] at h
   exact h
  obtain ⟨PP,hPP⟩ : ∃ PP : World → Value → Prop,PP = (fun W y => ∃ a3 c3,y = .slice a3 (R.fes.length + 1) c3 ∧ OwnFet W lo 84 (.slice a3 (R.fes.length + 1) c3) (R.fes ++ [newF key]) ∧ Tch (fun j => X.f.ownBlock = some j) w4 W) := ⟨_,rfl⟩
  have HC : Hid (∀ W,Below w4.heap.size w4 W → W.cell? ⟨T, 6,none⟩ = some (.slice f0 R.fes.length f1)) := fun W h => (h.cell H4.box.lt).trans n6
  have HN : Hid (key.size ≤ 1048576 ∧ R.fes.length ≤ 1048576 ∧ lo ≤ w4.heap.size) := ⟨HZ.out.2.2.2.1,HZ.out.2.1,H4.lt⟩
  have HOF : Hid (∀ W,Below w4.heap.size w4 W → W.ownsRow lo 84 5 (.slice f0 R.fes.length f1) R.fes.length (ftl R.fes)) := fun W h => hO4.below h (Nat.le_refl _)
  have HPP : Hid (∀ (W w8 : World) (g2 c2 : Nat),Below w4.heap.size w4 W → OwnFet w8 lo 84 (.slice (some ⟨g2, 0,none⟩) (R.fes.length + 1) c2) (R.fes ++ [newF key]) → W.grownBy w8 (Value.slice f0 R.fes.length f1).ownBlock → PP w8 (.slice (some ⟨g2, 0,none⟩) (R.fes.length + 1) c2)) := by
   show ∀ (W w8 : World) (g2 c2 : Nat),_ → _ → _ → _
   intro W w8 g2 c2 hb ho hg
   rw [hPP]
   exact ⟨_,_,rfl,ho,(Tch.of_below hb).trans (Tch.of_grown hg (fun k hk => by rw [hXf]; exact hk))⟩
  have HPC : Hid (∀ (W : World) (y : Value),PP W y → ∃ a3 c3,y = .slice a3 (R.fes.length + 1) c3 ∧ W.cell? ⟨T, 6,none⟩ = some (.slice f0 R.fes.length f1) ∧ W.frozen? ⟨T, 6,none⟩ = false) := by
   show ∀ (W : World) (y : Value),_ → _
   intro W y hp
   rw [hPP] at hp
   obtain ⟨a3,c3,rfl,ho,ht⟩ := hp
   have hbx := H4.box.kept (ht.2 T H4.box.lt (H4.far H4.own.f.type (by decide)))
   have h6 := hbx.cells.2.2.2.2.2.2.1
   dsimp only at h6
   rw [hXf] at h6
   exact ⟨_,_,rfl,h6,hbx.thaw 6⟩
  have HF5 : Hid (∀ (W : World) (y : Value),PP W y → HallAt (W.setCell ⟨T, 6,none⟩ y) lo T ⟨.slice e0 (offE R.ents key).length e1,.slice a1 (dropP R.pol key).win.length c1,.slice a2 (dropP R.pol key).main.length c2,.slice a4 (bumpS (dropP R.pol key).sk key).rows.length c4,y,X.c⟩ ⟨R.now,offE R.ents key,waitP R.pol key,waitF R.fes key R.fes.length,R.cls,R.hits⟩ ∧ Below lo w (W.setCell ⟨T, 6,none⟩ y)) := by
   show ∀ (W : World) (y : Value),_ → _
   intro W y hp
   rw [hPP] at hp
   obtain ⟨a3,c3,rfl,ho,ht⟩ := hp
   obtain ⟨q1,q2⟩ := H4.storeF ht ho
   refine ⟨?_,hbw4.trans q2⟩
   rw [show waitF R.fes key R.fes.length = R.fes ++ [newF key] by unfold waitF; rw [if_pos rfl]]
   exact q1
  have HTX : Hid (((waitF R.fes key R.fes.length).getD R.fes.length zFet).tx.size ≤ 1048576) := by
   show _ ≤ _
   rw [show waitF R.fes key R.fes.length = R.fes ++ [newF key] by unfold waitF; rw [if_pos rfl],getD_of (by simp),List.getElem_append_right (Nat.le_refl _)]
   simp only [Nat.sub_self,List.getElem_cons_zero,newF]
   show (0 : Nat) ≤ 1048576
   omega
  have HZL : Hid (R.fes.length < (waitF R.fes key R.fes.length).length) := by
   show _ < _
   unfold waitF
   rw [if_pos rfl]
   simp
  clear hO4 hPP H4 hXf hXw hXm hXk hXc hbw4
  go_wp2_with fail
  clear n6
  refine wp_region_held_drew (S := fun _ => True) (by kernel_rfl) trivial (fun hHeld => ?_)
  refine wpAnyH_take (i := 0) (oi := _) (v := .pointer (some ⟨T, 0,none⟩)) rfl (by kernel_rfl) (by kernel_rfl) (by kernel_rfl) (fun _ _ _ h => h) (Or.inl ⟨by rfl, ?_⟩) trivial ?_
  ·intro W _
   go_simp
  refine wpAnyH_take (i := 1) (oi := _) (v := .pointer (some ⟨T, 0,none⟩)) rfl (by kernel_rfl) (by kernel_rfl) (by kernel_rfl) (fun _ _ _ h => h) (Or.inl ⟨by rfl, ?_⟩) trivial ?_
  ·intro W _
   go_simp
  refine wpAnyH_take (i := 2) (oi := _) (v := .pointer (some ⟨T, 0,none⟩)) rfl (by kernel_rfl) (by kernel_rfl) (by kernel_rfl) (fun _ _ _ h => h) (Or.inl ⟨by rfl, ?_⟩) trivial ?_
  ·intro W _
   go_simp
  refine wpAnyH_take (i := 3) (oi := _) (v := .pointer (some ⟨T, 0,none⟩)) rfl (by kernel_rfl) (by kernel_rfl) (by kernel_rfl) (fun _ _ _ h => h) (Or.inl ⟨by rfl, ?_⟩) trivial ?_
  ·intro W _
   go_simp
  refine wpAnyH_take (i := 4) (oi := _) (v := .pointer (some ⟨T, 6,none⟩)) rfl (by kernel_rfl) (by kernel_rfl) (by kernel_rfl) (fun _ _ _ h => h) (Or.inl ⟨by rfl, ?_⟩) trivial ?_
  ·intro W _
   go_simp
  refine wpAnyH_take (i := 6) (oi := _) (v := .string key) rfl (by kernel_rfl) (by kernel_rfl) (by kernel_rfl) (fun _ _ _ h => h) (Or.inl ⟨by rfl, ?_⟩) trivial ?_
  ·intro W _
   go_simp
  refine wpAnyH_invM (fun s a W => ∃ (b5 b7 b8 b9 b10 b11 b12 b13 b14 : Bool) (y48 y50 y51 y52 y53 y54 y55 y56 : Value),s = #[true,true,true,true,true,b5,true,b7,b8,b9,b10,b11,b12,b13,b14] ∧ a = ⟨((.pointer (some ⟨T, 0,none⟩) : Value) :: (.int .i64 id : Value) :: (.string key : Value) :: (.int .i64 R.fes.length : Value) :: undef :: undef :: undef :: undef :: (.pointer (some ⟨T, 0,none⟩) : Value) :: (.string key : Value) :: (.tuple #[] : Value) :: (.pointer (some ⟨T, 0,none⟩) : Value) :: (.pointer (some ⟨T, 0,none⟩) : Value) :: (.pointer (some ⟨T, 0,none⟩) : Value) :: (.pointer (some ⟨T, 0,none⟩) : Value) :: (.pointer (some ⟨T, 2,none⟩) : Value) :: (.agg #[.slice aw R.pol.win.length cw,.slice am R.pol.main.length cm,.slice ak R.pol.sk.rows.length ck,.int .i64 R.pol.sk.added] : Value) :: (.string key : Value) :: (.agg #[.slice a1 (dropP R.pol key).win.length c1,.slice a2 (dropP R.pol key).main.length c2,.slice a3 (dropP R.pol key).sk.rows.length c3,.int .i64 (dropP R.pol key).sk.added] : Value) :: (.pointer (some ⟨T, 0,none⟩) : Value) :: (.pointer (some ⟨T, 0,none⟩) : Value) :: (.pointer (some ⟨T, 2,none⟩) : Value) :: (.pointer (some ⟨T, 0,none⟩) : Value) :: (.pointer (some ⟨T, 0,none⟩) : Value) :: (.pointer (some ⟨T, 0,none⟩) : Value) :: (.pointer (some ⟨T, 0,none⟩) : Value) :: (.pointer (some ⟨T, 2,none⟩) : Value) :: (.pointer (some ⟨T, 4,none⟩) : Value) :: (.agg #[.slice a3 (dropP R.pol key).sk.rows.length c3,.int .i64 (dropP R.pol key).sk.added] : Value) :: (.string key : Value) :: (.agg #[.slice a4 (bumpS (dropP R.pol key).sk key).rows.length c4,.int .i64 (bumpS (dropP R.pol key).sk key).added] : Value) :: (.pointer (some ⟨T, 0,none⟩) : Value) :: (.pointer (some ⟨T, 0,none⟩) : Value) :: (.pointer (some ⟨T, 2,none⟩) : Value) :: (.pointer (some ⟨T, 4,none⟩) : Value) :: (.int .i64 R.fes.length : Value) :: (.pointer (some ⟨T, 0,none⟩) : Value) :: (.pointer (some ⟨T, 0,none⟩) : Value) :: (.pointer (some ⟨T, 0,none⟩) : Value) :: (.pointer (some ⟨T, 6,none⟩) : Value) :: (.slice f0 R.fes.length f1 : Value) :: (.int .i64 R.fes.length : Value) :: (.bool true : Value) :: (.pointer (some ⟨T, 0,none⟩) : Value) :: (.pointer (some ⟨T, 0,none⟩) : Value) :: (.pointer (some ⟨T, 0,none⟩) : Value) :: (.pointer (some ⟨T, 0,none⟩) : Value) :: (.pointer (some ⟨T, 6,none⟩) : Value) :: y48 :: (.string key : Value) :: y50 :: y51 :: y52 :: y53 :: y54 :: y55 :: y56 :: undef :: undef :: undef :: undef :: undef :: undef :: undef :: undef :: undef :: undef :: undef :: undef :: undef :: undef :: undef :: undef :: undef :: undef :: []).toArray, []⟩ ∧ ((b10 = false ∧ b11 = false ∧ b12 = false ∧ b13 = false ∧ b14 = false ∧ Below w4.heap.size w4 W ∧ (b5 = true → y48 = .slice f0 R.fes.length f1) ∧ (b7 = true → y50 = .string key) ∧ (b8 = true → y51 = .agg #[.string key,.string ⟨#[]⟩,.int .i64 1,.int .i64 0,.int .i64 0]) ∧ (b9 = true → ∃ g,y52 = .slice (some ⟨g, 0,none⟩) 1 1 ∧ w4.heap.size ≤ g ∧ W.heap[g]? = some (.cells #[.string key,.string ⟨#[]⟩,.int .i64 1,.int .i64 0,.int .i64 0] 84 (0, 0))) ∧ (b8 = true → b7 = true) ∧ (b9 = true → b8 = true)) ∨ (b5 = true ∧ b7 = true ∧ b8 = true ∧ b9 = true ∧ b10 = true ∧ b14 = false ∧ (b11 = true → y54 = .pointer (some ⟨T, 0,none⟩)) ∧ (b12 = true → y55 = .pointer (some ⟨T, 0,none⟩)) ∧ (b13 = true → y56 = .pointer (some ⟨T, 6,none⟩)) ∧ (b12 = true → b11 = true) ∧ (b13 = true → b12 = true) ∧ PP W y53) ∨ (b5 = true ∧ b7 = true ∧ b8 = true ∧ b9 = true ∧ b10 = true ∧ b11 = true ∧ b12 = true ∧ b13 = true ∧ b14 = true ∧ ∃ W9,PP W9 y53 ∧ W = W9.setCell ⟨T, 6,none⟩ y53))) (by kernel_rfl) ?_ ?_ ?_ ?_ _ _ _ _ ?_ (by decide)
  ·rintro s a W ⟨b5,b7,b8,b9,b10,b11,b12,b13,b14,y48,y50,y51,y52,y53,y54,y55,y56,rfl,_⟩
   rfl
  ·rintro s a W _
   trivial
  ·rintro s a W i ⟨b5,b7,b8,b9,b10,b11,b12,b13,b14,y48,y50,y51,y52,y53,y54,y55,y56,rfl,rfl,hJ⟩ hi'
   obtain ⟨h1,o,ho,hall⟩ := mem_ready.1 hi'
   have hlt' : i < 15 := by simpa using (Array.getElem?_eq_some_iff.1 ho).1
   clear hi'
   rcases (by omega : i = 0 ∨ i = 1 ∨ i = 2 ∨ i = 3 ∨ i = 4 ∨ i = 5 ∨ i = 6 ∨ i = 7 ∨ i = 8 ∨ i = 9 ∨ i = 10 ∨ i = 11 ∨ i = 12 ∨ i = 13 ∨ i = 14) with rfl | rfl | rfl | rfl | rfl | rfl | rfl | rfl | rfl | rfl | rfl | rfl | rfl | rfl | rfl
   ·simp at h1
   ·simp at h1
   ·simp at h1
   ·simp at h1
   ·simp at h1
   ·have hf : b5 = false := by simpa using h1
    subst hf
    injection ho with ho'
    subst ho'
    simp [Region.binds] at hall
    rcases hJ with ⟨e10,e11,e12,e13,e14,hbw,c5,c7,c8,c9,i8,i9⟩ | ⟨e5,e7,e8,e9,e10,e14,f11,f12,f13,g12,g13,hp⟩ | ⟨e5,e7,e8,e9,e10,e11,e12,e13,e14,W9,hp,hW⟩
    case inr.inl => cases e5
    case inr.inr => cases e5
    have hc : W.cell? ⟨T, 6,none⟩ = some (.slice f0 R.fes.length f1) := HC.out W hbw
    refine wpOp_value (w' := W) (.slice f0 R.fes.length f1) rfl rfl (by go_simp) ?_
    exact ⟨true,b7,b8,b9,b10,b11,b12,b13,b14,_,y50,y51,y52,y53,y54,y55,y56,rfl,rfl,.inl ⟨e10,e11,e12,e13,e14,hbw,fun _ => rfl,c7,c8,c9,i8,i9⟩⟩
   ·simp at h1
   ·have hf : b7 = false := by simpa using h1
    subst hf
    injection ho with ho'
    subst ho'
    simp [Region.binds] at hall
    rcases hJ with ⟨e10,e11,e12,e13,e14,hbw,c5,c7,c8,c9,i8,i9⟩ | ⟨e5,e7,e8,e9,e10,e14,f11,f12,f13,g12,g13,hp⟩ | ⟨e5,e7,e8,e9,e10,e11,e12,e13,e14,W9,hp,hW⟩
    case inr.inl => cases e7
    case inr.inr => cases e7
    refine wpOp_enter 34 #[.string key] rfl rfl (by go_simp) ?_
    refine (cloneP_any key W HN.out.1).mono ?_
    rintro e' w3 ⟨rfl,hb3⟩
    have h8 : b8 = false := by cases b8 with
     | false => rfl
     | true => exact absurd (i8 rfl) (by decide)
    have h9 : b9 = false := by cases b9 with
     | false => rfl
     | true => rw [h8] at i9; exact absurd (i9 rfl) (by decide)
    subst h8 h9
    exact ⟨.string key,rfl,b5,true,false,false,b10,b11,b12,b13,b14,y48,_,y51,y52,y53,y54,y55,y56,rfl,rfl,.inl ⟨e10,e11,e12,e13,e14,hbw.trans (hb3.mono hbw.size),c5,fun _ => rfl,fun h => (by cases h),fun h => (by cases h),fun h => (by cases h),fun h => (by cases h)⟩⟩
   ·have hf : b8 = false := by simpa using h1
    subst hf
    injection ho with ho'
    subst ho'
    simp [Region.binds] at hall
    rcases hJ with ⟨e10,e11,e12,e13,e14,hbw,c5,c7,c8,c9,i8,i9⟩ | ⟨e5,e7,e8,e9,e10,e14,f11,f12,f13,g12,g13,hp⟩ | ⟨e5,e7,e8,e9,e10,e11,e12,e13,e14,W9,hp,hW⟩
    case inr.inl => cases e8
    case inr.inr => cases e8
    have h7 : b7 = true := by simp_all
    have hy := c7 h7
    subst hy
    have h9 : b9 = false := by cases b9 with
     | false => rfl
     | true => exact absurd (i9 rfl) (by decide)
    subst h9
    refine wpOp_value (w' := W) (.agg #[.string key,.string ⟨#[]⟩,.int .i64 1,.int .i64 0,.int .i64 0]) rfl rfl (by go_simp) ?_
    exact ⟨b5,b7,true,false,b10,b11,b12,b13,b14,y48,_,_,y52,y53,y54,y55,y56,rfl,rfl,.inl ⟨e10,e11,e12,e13,e14,hbw,c5,fun _ => rfl,fun _ => rfl,fun h => (by cases h),fun _ => h7,fun h => (by cases h)⟩⟩
   ·have hf : b9 = false := by simpa using h1
    subst hf
    injection ho with ho'
    subst ho'
    simp [Region.binds] at hall
    rcases hJ with ⟨e10,e11,e12,e13,e14,hbw,c5,c7,c8,c9,i8,i9⟩ | ⟨e5,e7,e8,e9,e10,e14,f11,f12,f13,g12,g13,hp⟩ | ⟨e5,e7,e8,e9,e10,e11,e12,e13,e14,W9,hp,hW⟩
    case inr.inl => cases e9
    case inr.inr => cases e9
    have h8 : b8 = true := by simp_all
    have hy := c8 h8
    subst hy
    refine wpOp_value (w' := W.alloc (.cells #[.string key,.string ⟨#[]⟩,.int .i64 1,.int .i64 0,.int .i64 0] 84)) (.slice (some ⟨W.heap.size, 0,none⟩) 1 1) rfl rfl (by go_simp) ?_
    exact ⟨b5,b7,b8,true,b10,b11,b12,b13,b14,y48,y50,_,_,y53,y54,y55,y56,rfl,rfl,.inl ⟨e10,e11,e12,e13,e14,hbw.alloc hbw.size _,c5,c7,fun _ => rfl,fun _ => ⟨W.heap.size,rfl,hbw.size,heap_alloc_new W _⟩,i8,fun _ => h8⟩⟩
   ·have hf : b10 = false := by simpa using h1
    subst hf
    injection ho with ho'
    subst ho'
    simp [Region.binds] at hall
    rcases hJ with ⟨e10,e11,e12,e13,e14,hbw,c5,c7,c8,c9,i8,i9⟩ | ⟨e5,e7,e8,e9,e10,e14,f11,f12,f13,g12,g13,hp⟩ | ⟨e5,e7,e8,e9,e10,e11,e12,e13,e14,W9,hp,hW⟩
    case inr.inl => cases e10
    case inr.inr => cases e10
    have h5 : b5 = true := by simp_all
    have h9 : b9 = true := by simp_all
    have h8 : b8 = true := i9 h9
    have h7 : b7 = true := i8 h8
    have hy := c5 h5
    obtain ⟨g,hy2,hg1,hg2⟩ := c9 h9
    subst hy hy2
    have hO := HOF.out W hbw
    obtain ⟨i0,hi,hz0,hz1,hz2⟩ := info_parts Tryz.infoFet
    have hNW : ∀ j u,(ftl [(⟨key,⟨#[]⟩, 1, 0, 0⟩ : Fet)])[j]? = some u → W.cell? ((⟨g, 0,none⟩ : Addr).add j) = some u := by
     intro j u hu
     rw [Addr.add_mid,cell_of_row W g (0 + j) _ _ (0, 0) hg2,Nat.zero_add]
     simpa [ftl,Fet.cells] using hu
    refine wpOp_if rfl rfl ?_
    refine step_append_lies _ rfl (.tmp 48) (.tmp 52) 33 rfl lo 84 i0 _ 5 56 Tryz.underlying33 hi hz0 hz1 hz2 rfl (by omega) (.slice f0 R.fes.length f1) R.fes.length (ftl R.fes) rfl hO ⟨g, 0,none⟩ 1 1 (ftl [(⟨key,⟨#[]⟩, 1, 0, 0⟩ : Fet)]) rfl rfl hNW (ftl_one _) (by omega) (by have := HN.out.2.1; unfold maxLen; omega) (by have := HN.out.2.1; omega) (Nat.le_trans HN.out.2.2 hbw.size) _ rfl ?_
    intro g2 c2 w8 q1 q2 q3 q4
    have hp : PP w8 (.slice (some ⟨g2, 0,none⟩) (R.fes.length + 1) c2) := HPP.out W w8 g2 c2 hbw (by unfold OwnFet; rw [List.length_append,ftl_append]; exact q1) q2
    exact ⟨b5,b7,b8,b9,true,b11,b12,b13,b14,_,y50,y51,_,_,y54,y55,y56,rfl,rfl,.inr (.inl ⟨h5,h7,h8,h9,rfl,e14,fun h => (by rw [e11] at h; cases h),fun h => (by rw [e12] at h; cases h),fun h => (by rw [e13] at h; cases h),fun h => (by rw [e12] at h; cases h),fun h => (by rw [e13] at h; cases h),hp⟩)⟩
   ·have hf : b11 = false := by simpa using h1
    subst hf
    injection ho with ho'
    subst ho'
    simp [Region.binds] at hall
    rcases hJ with ⟨e10,e11,e12,e13,e14,hbw,c5,c7,c8,c9,i8,i9⟩ | ⟨e5,e7,e8,e9,e10,e14,f11,f12,f13,g12,g13,hp⟩ | ⟨e5,e7,e8,e9,e10,e11,e12,e13,e14,W9,hp,hW⟩
    case inl => simp_all
    case inr.inr => cases e11
    refine wpOp_value (w' := W) (.pointer (some ⟨T, 0,none⟩)) rfl rfl (by go_simp) ?_
    exact ⟨b5,b7,b8,b9,b10,true,b12,b13,b14,y48,y50,y51,y52,y53,_,y55,y56,rfl,rfl,.inr (.inl ⟨e5,e7,e8,e9,e10,e14,fun _ => rfl,f12,f13,fun _ => rfl,g13,hp⟩)⟩
   ·have hf : b12 = false := by simpa using h1
    subst hf
    injection ho with ho'
    subst ho'
    simp [Region.binds] at hall
    rcases hJ with ⟨e10,e11,e12,e13,e14,hbw,c5,c7,c8,c9,i8,i9⟩ | ⟨e5,e7,e8,e9,e10,e14,f11,f12,f13,g12,g13,hp⟩ | ⟨e5,e7,e8,e9,e10,e11,e12,e13,e14,W9,hp,hW⟩
    case inl => simp_all
    case inr.inr => cases e12
    have h11 : b11 = true := by simp_all
    have hy := f11 h11
    subst hy
    refine wpOp_value (w' := W) (.pointer (some ⟨T, 0,none⟩)) rfl rfl (by go_simp) ?_
    exact ⟨b5,b7,b8,b9,b10,b11,true,b13,b14,y48,y50,y51,y52,y53,_,_,y56,rfl,rfl,.inr (.inl ⟨e5,e7,e8,e9,e10,e14,fun _ => rfl,fun _ => rfl,f13,fun _ => h11,fun _ => rfl,hp⟩)⟩
   ·have hf : b13 = false := by simpa using h1
    subst hf
    injection ho with ho'
    subst ho'
    simp [Region.binds] at hall
    rcases hJ with ⟨e10,e11,e12,e13,e14,hbw,c5,c7,c8,c9,i8,i9⟩ | ⟨e5,e7,e8,e9,e10,e14,f11,f12,f13,g12,g13,hp⟩ | ⟨e5,e7,e8,e9,e10,e11,e12,e13,e14,W9,hp,hW⟩
    case inl => simp_all
    case inr.inr => cases e13
    have h12 : b12 = true := by simp_all
    have hy := f12 h12
    subst hy
    refine wpOp_value (w' := W) (.pointer (some ⟨T, 6,none⟩)) rfl rfl (by go_simp) ?_
    exact ⟨b5,b7,b8,b9,b10,b11,b12,true,b14,y48,y50,y51,y52,y53,y54,_,_,rfl,rfl,.inr (.inl ⟨e5,e7,e8,e9,e10,e14,f11,fun _ => rfl,fun _ => rfl,g12,fun _ => h12,hp⟩)⟩
   ·have hf : b14 = false := by simpa using h1
    subst hf
    injection ho with ho'
    subst ho'
    simp [Region.binds] at hall
    rcases hJ with ⟨e10,e11,e12,e13,e14,hbw,c5,c7,c8,c9,i8,i9⟩ | ⟨e5,e7,e8,e9,e10,e14,f11,f12,f13,g12,g13,hp⟩ | ⟨e5,e7,e8,e9,e10,e11,e12,e13,e14,W9,hp,hW⟩
    case inl => simp_all
    case inr.inr => cases e14
    have h13 : b13 = true := by simp_all
    have h12 := g13 h13
    have h11 := g12 h12
    have hy := f13 h13
    subst hy
    obtain ⟨a3,c3,hy3,x6,xt⟩ := HPC.out W y53 hp
    subst hy3
    refine wpOp_skip (w' := W.setCell ⟨T, 6,none⟩ (.slice a3 (R.fes.length + 1) c3)) rfl rfl (by go_simp) ?_
    exact ⟨b5,b7,b8,b9,b10,b11,b12,b13,true,y48,y50,y51,y52,_,y54,y55,_,rfl,rfl,.inr (.inr ⟨e5,e7,e8,e9,e10,h11,h12,h13,rfl,W,hp,rfl⟩)⟩
  ·rintro s a W ⟨b5,b7,b8,b9,b10,b11,b12,b13,b14,y48,y50,y51,y52,y53,y54,y55,y56,rfl,rfl,hJ⟩ hall
   have h0 : b14 = true := by simpa using hall 14 (by simp)
   rcases hJ with ⟨e10,e11,e12,e13,e14,hbw,c5,c7,c8,c9,i8,i9⟩ | ⟨e5,e7,e8,e9,e10,e14,f11,f12,f13,g12,g13,hp⟩ | ⟨e5,e7,e8,e9,e10,e11,e12,e13,e14,W9,hp,rfl⟩
   case inl => rw [e14] at h0; cases h0
   case inr.inl => rw [e14] at h0; cases h0
   obtain ⟨H5,hb5⟩ := HF5.out W9 y53 hp
   obtain ⟨w5,hw5⟩ : ∃ x,W9.setCell ⟨T, 6,none⟩ y53 = x := ⟨_,rfl⟩
   rw [hw5] at H5 hb5 ⊢
   clear hw5 hp hall HF5 HPC HPP HOF HC
   obtain ⟨tx,htx⟩ : ∃ t,((waitF R.fes key R.fes.length).getD R.fes.length zFet).tx = t := ⟨_,rfl⟩
   obtain ⟨m0,m1,hm,hmA⟩ := H5.own.f.at
   obtain ⟨g,off,hga,_,_,_,_,_,_⟩ := hmA R.fes.length HZL.out
   subst hga
   have HTE : Hid (∀ (W : World) (V : Value),HallAt W lo T ⟨.slice e0 (offE R.ents key).length e1,.slice a1 (dropP R.pol key).win.length c1,.slice a2 (dropP R.pol key).main.length c2,.slice a4 (bumpS (dropP R.pol key).sk key).rows.length c4,y53,V⟩ ⟨R.now,offE R.ents key,waitP R.pol key,waitF R.fes key R.fes.length,R.cls,R.hits⟩ → True) := fun _ _ _ => trivial
   have hcx : waitC R.fes id key R.fes.length = ⟨id,key,(R.fes.length : Nat) + 1, 0, 1,tx, 0⟩ := by unfold waitC; rw [htx]
   have KT : ∀ (W : World) (V : Value) (C : List Cli),HallAt W lo T ⟨.slice e0 (offE R.ents key).length e1,.slice a1 (dropP R.pol key).win.length c1,.slice a2 (dropP R.pol key).main.length c2,.slice a4 (bumpS (dropP R.pol key).sk key).rows.length c4,y53,V⟩ ⟨R.now,offE R.ents key,waitP R.pol key,waitF R.fes key R.fes.length,C,R.hits⟩ → W.cell? ⟨T, 6,none⟩ = some (.slice (some ⟨g,off,none⟩) (waitF R.fes key R.fes.length).length m1) ∧ W.cell? ⟨g,off + R.fes.length * 5 + 1,none⟩ = some (.string tx) := by
    intro W V C h
    obtain ⟨p0,p1,hp,hpA⟩ := h.own.f.at
    dsimp only at hp hm hpA
    rw [hm] at hp
    simp only [Value.slice.injEq] at hp
    obtain ⟨rfl,_,rfl⟩ := hp
    obtain ⟨g',off',hga',_,_,q1,_,_,_⟩ := hpA R.fes.length HZL.out
    simp only [Option.some.injEq,Addr.mk.injEq,and_true] at hga'
    obtain ⟨rfl,rfl⟩ := hga'
    have h6 := h.box.cells.2.2.2.2.2.2.1
    dsimp only at h6 q1
    rw [hm] at h6
    refine ⟨h6, ?_⟩
    rw [← htx,getD_of HZL.out]
    exact q1
   have hd5 : Below w5.heap.size w5 w5.drew := (Below.refl _ _).drew
   have KS : ∀ W,Below w5.heap.size w5 W → W.cell? ⟨T, 6,none⟩ = some (.slice (some ⟨g,off,none⟩) (waitF R.fes key R.fes.length).length m1) ∧ W.cell? ⟨g,off + R.fes.length * 5 + 1,none⟩ = some (.string tx) := fun W h => KT W _ _ (H5.on h)
   have HWR : Hid (IntKind.i64.wrap ((R.fes.length : Nat) + 1 : Int) = ((R.fes.length : Nat) + 1 : Int)) := by
    show _ = _
    rw [IntKind.wrap_i64]
    have := HZ.out.2.1
    have := HZ.out.2.2.2.2.1
    omega
   have HS : Hid (∀ W,Below w5.heap.size w5 W → Calls Tryz.prog 44 #[.pointer (some ⟨T, 0,none⟩),.agg #[.int .i64 id,.string key,.int .i64 ((R.fes.length : Nat) + 1 : Int),.int .i64 0,.int .i64 1,.string tx,.int .i64 0]] W fun e' w' => e' = .returned (.tuple #[]) ∧ FIN w' ∧ (w'.cell? ⟨T, 6,none⟩ = some (.slice (some ⟨g,off,none⟩) (waitF R.fes key R.fes.length).length m1) ∧ w'.cell? ⟨g,off + R.fes.length * 5 + 1,none⟩ = some (.string tx))) := by
    show ∀ W,_ → _
    intro W hW
    refine (hallSeat_any W lo T ⟨.slice e0 (offE R.ents key).length e1,.slice a1 (dropP R.pol key).win.length c1,.slice a2 (dropP R.pol key).main.length c2,.slice a4 (bumpS (dropP R.pol key).sk key).rows.length c4,y53,X.c⟩ ⟨R.now,offE R.ents key,waitP R.pol key,waitF R.fes key R.fes.length,R.cls,R.hits⟩ ⟨id,key,(R.fes.length : Nat) + 1, 0, 1,tx, 0⟩ (H5.on hW) HZ.out.1 HZ.out.2.2.1).mono ?_
    rintro e' w' ⟨rfl,v',k,b,hp,hH,hbz,htz⟩
    refine ⟨rfl, ?_,KT w' _ _ hH⟩
    rw [HFIN.out]
    rw [hcx]
    exact ⟨_,k,b,hp,hH,(hb5.trans (hW.mono H5.lt)).trans hbz⟩
   have HTS : Hid (tx.size ≤ 1048576) := by have h := HTX.out; rw [htx] at h; exact h
   have HK5 : Hid ((R.fes.length : Int) < ((waitF R.fes key R.fes.length).length : Int)) := by have := HZL.out; show _ < _; omega
   clear hmA hcx KT htx HTE HTX H5 hb5 hm
   have hz0 : (0 : Int) ≤ (R.fes.length : Int) := by omega
   have hz1 := HK5.out
   go_upto_region 5 with fail
   go_region_held3 (fun W => W.cell? ⟨T, 6,none⟩ = some (.slice (some ⟨g,off,none⟩) (waitF R.fes key R.fes.length).length m1) ∧ W.cell? ⟨g,off + R.fes.length * 5 + 1,none⟩ = some (.string tx)) (first | with_reducible exact KS _ hd5 | with_reducible exact KS _ hg6 | with_reducible exact KS _ hg7 | with_reducible exact kx8)
    (first
     | (go_at_call 34; with_reducible refine (cloneP_any key _ HZ.out.2.2.2.1).mono ?_; rintro e' w6 ⟨rfl,hb6⟩; have hg6 := hd5.trans (hb6.mono hd5.size))
     | (go_at_call 34; with_reducible refine (cloneP_any tx _ HTS.out).mono ?_; rintro e' w7 ⟨rfl,hb7⟩; have hg7 := hg6.trans (hb7.mono hg6.size))
     | (go_at_call 44; rw [HWR.out]; with_reducible refine (HS.out _ hg7).mono ?_; rintro e' w8 ⟨rfl,hfin,kx8⟩))
   have HFF : Hid _ := (fun (_ : Unit) => hfin)
   clear hfin
   go_wp2_with fail
   exact bodyPost_end (results_none rfl _ _ _) rfl ⟨rfl,HFF.out ()⟩
  ·exact ⟨false,false,false,false,false,false,false,false,false,undef,undef,undef,undef,undef,undef,undef,undef,by kernel_rfl,by kernel_rfl,.inl ⟨rfl,rfl,rfl,rfl,rfl,(Below.refl _ _).drew,fun h => (by cases h),fun h => (by cases h),fun h => (by cases h),fun h => (by cases h),fun h => (by cases h),fun h => (by cases h)⟩⟩
 ·have hzi : (((z : Int)) == (R.fes.length : Int)) = false := by simp; omega
  have HTX : Hid (((waitF R.fes key z).getD z zFet).tx.size ≤ 1048576) := by
   show _ ≤ _
   have hlt : z < R.fes.length := by have := HZ.out.2.2.2.2.1; omega
   rw [show waitF R.fes key z = R.fes by unfold waitF; rw [if_neg hzl],getD_of hlt]
   exact HZ.out.2.2.2.2.2.1 _ (List.getElem_mem hlt)
  have HZL : Hid (z < (waitF R.fes key z).length) := by
   show _ < _
   unfold waitF
   rw [if_neg hzl]
   have := HZ.out.2.2.2.2.1; omega
  have hzi' : ¬ (z : Int) = (R.fes.length : Int) := by omega
  go_wp2_with fail
  have H5 : HallAt w4 lo T ⟨.slice e0 (offE R.ents key).length e1,.slice a1 (dropP R.pol key).win.length c1,.slice a2 (dropP R.pol key).main.length c2,.slice a4 (bumpS (dropP R.pol key).sk key).rows.length c4,X.f,X.c⟩ ⟨R.now,offE R.ents key,waitP R.pol key,waitF R.fes key z,R.cls,R.hits⟩ := by
   rw [show waitF R.fes key z = R.fes by unfold waitF; rw [if_neg hzl]]
   exact H4
  have hb5 := hbw4
  clear H4 n6 hXf hXw hXm hXk hXc hbw4 hzi hzi' hzl
  obtain ⟨tx,htx⟩ : ∃ t,((waitF R.fes key z).getD z zFet).tx = t := ⟨_,rfl⟩
  obtain ⟨m0,m1,hm,hmA⟩ := H5.own.f.at
  obtain ⟨g,off,hga,_,_,_,_,_,_⟩ := hmA z HZL.out
  subst hga
  have HTE : Hid (∀ (W : World) (V : Value),HallAt W lo T ⟨.slice e0 (offE R.ents key).length e1,.slice a1 (dropP R.pol key).win.length c1,.slice a2 (dropP R.pol key).main.length c2,.slice a4 (bumpS (dropP R.pol key).sk key).rows.length c4,X.f,V⟩ ⟨R.now,offE R.ents key,waitP R.pol key,waitF R.fes key z,R.cls,R.hits⟩ → True) := fun _ _ _ => trivial
  have hcx : waitC R.fes id key z = ⟨id,key,(z : Nat) + 1, 0, 1,tx, 0⟩ := by unfold waitC; rw [htx]
  have KT : ∀ (W : World) (V : Value) (C : List Cli),HallAt W lo T ⟨.slice e0 (offE R.ents key).length e1,.slice a1 (dropP R.pol key).win.length c1,.slice a2 (dropP R.pol key).main.length c2,.slice a4 (bumpS (dropP R.pol key).sk key).rows.length c4,X.f,V⟩ ⟨R.now,offE R.ents key,waitP R.pol key,waitF R.fes key z,C,R.hits⟩ → W.cell? ⟨T, 6,none⟩ = some (.slice (some ⟨g,off,none⟩) (waitF R.fes key z).length m1) ∧ W.cell? ⟨g,off + z * 5 + 1,none⟩ = some (.string tx) := by
   intro W V C h
   obtain ⟨p0,p1,hp,hpA⟩ := h.own.f.at
   dsimp only at hp hm hpA
   rw [hm] at hp
   simp only [Value.slice.injEq] at hp
   obtain ⟨rfl,_,rfl⟩ := hp
   obtain ⟨g',off',hga',_,_,q1,_,_,_⟩ := hpA z HZL.out
   simp only [Option.some.injEq,Addr.mk.injEq,and_true] at hga'
   obtain ⟨rfl,rfl⟩ := hga'
   have h6 := h.box.cells.2.2.2.2.2.2.1
   dsimp only at h6 q1
   rw [hm] at h6
   refine ⟨h6, ?_⟩
   rw [← htx,getD_of HZL.out]
   exact q1
  have hd5 : Below w4.heap.size w4 w4.drew := (Below.refl _ _).drew
  have KS : ∀ W,Below w4.heap.size w4 W → W.cell? ⟨T, 6,none⟩ = some (.slice (some ⟨g,off,none⟩) (waitF R.fes key z).length m1) ∧ W.cell? ⟨g,off + z * 5 + 1,none⟩ = some (.string tx) := fun W h => KT W _ _ (H5.on h)
  have HWR : Hid (IntKind.i64.wrap ((z : Nat) + 1 : Int) = ((z : Nat) + 1 : Int)) := by
   show _ = _
   rw [IntKind.wrap_i64]
   have := HZ.out.2.1
   have := HZ.out.2.2.2.2.1
   omega
  have HS : Hid (∀ W,Below w4.heap.size w4 W → Calls Tryz.prog 44 #[.pointer (some ⟨T, 0,none⟩),.agg #[.int .i64 id,.string key,.int .i64 ((z : Nat) + 1 : Int),.int .i64 0,.int .i64 1,.string tx,.int .i64 0]] W fun e' w' => e' = .returned (.tuple #[]) ∧ FIN w' ∧ (w'.cell? ⟨T, 6,none⟩ = some (.slice (some ⟨g,off,none⟩) (waitF R.fes key z).length m1) ∧ w'.cell? ⟨g,off + z * 5 + 1,none⟩ = some (.string tx))) := by
   show ∀ W,_ → _
   intro W hW
   refine (hallSeat_any W lo T ⟨.slice e0 (offE R.ents key).length e1,.slice a1 (dropP R.pol key).win.length c1,.slice a2 (dropP R.pol key).main.length c2,.slice a4 (bumpS (dropP R.pol key).sk key).rows.length c4,X.f,X.c⟩ ⟨R.now,offE R.ents key,waitP R.pol key,waitF R.fes key z,R.cls,R.hits⟩ ⟨id,key,(z : Nat) + 1, 0, 1,tx, 0⟩ (H5.on hW) HZ.out.1 HZ.out.2.2.1).mono ?_
   rintro e' w' ⟨rfl,v',k,b,hp,hH,hbz,htz⟩
   refine ⟨rfl, ?_,KT w' _ _ hH⟩
   rw [HFIN.out]
   rw [hcx]
   exact ⟨_,k,b,hp,hH,(hb5.trans (hW.mono H5.lt)).trans hbz⟩
  have HTS : Hid (tx.size ≤ 1048576) := by have h := HTX.out; rw [htx] at h; exact h
  have HK5 : Hid ((z : Int) < ((waitF R.fes key z).length : Int)) := by have := HZL.out; show _ < _; omega
  clear hmA hcx KT htx HTE HTX H5 hb5 hm
  have hz0 : (0 : Int) ≤ (z : Int) := by omega
  have hz1 := HK5.out
  go_upto_region 5 with fail
  go_region_held3 (fun W => W.cell? ⟨T, 6,none⟩ = some (.slice (some ⟨g,off,none⟩) (waitF R.fes key z).length m1) ∧ W.cell? ⟨g,off + z * 5 + 1,none⟩ = some (.string tx)) (first | with_reducible exact KS _ hd5 | with_reducible exact KS _ hg6 | with_reducible exact KS _ hg7 | with_reducible exact kx8)
   (first
    | (go_at_call 34; with_reducible refine (cloneP_any key _ HZ.out.2.2.2.1).mono ?_; rintro e' w6 ⟨rfl,hb6⟩; have hg6 := hd5.trans (hb6.mono hd5.size))
    | (go_at_call 34; with_reducible refine (cloneP_any tx _ HTS.out).mono ?_; rintro e' w7 ⟨rfl,hb7⟩; have hg7 := hg6.trans (hb7.mono hg6.size))
    | (go_at_call 44; rw [HWR.out]; with_reducible refine (HS.out _ hg7).mono ?_; rintro e' w8 ⟨rfl,hfin,kx8⟩))
  have HFF : Hid _ := (fun (_ : Unit) => hfin)
  clear hfin
  go_wp2_with fail
  exact bodyPost_end (results_none rfl _ _ _) rfl ⟨rfl,HFF.out ()⟩
end Go.Proofs.YtaahjcljanckaaaGreatDoor
