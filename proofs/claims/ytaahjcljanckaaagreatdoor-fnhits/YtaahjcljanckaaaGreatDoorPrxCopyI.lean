/- The program copies a proxy. Written by mkprx3.py. -/
import Derived.Test.YtaahjcljanckaaaGreatDoorEntPlaceJ
namespace Go.Proofs.YtaahjcljanckaaaGreatDoor
open Go.RowKit Go.Sort
set_option maxRecDepth 100000 in
set_option maxHeartbeats 16000000 in
theorem proxyCopy_any (w : World) (X : Pc) (R : Prx) (hA : PxAt w X R w.heap.size) (hsz : PxSz R) :
  Calls Tryz.prog 16 #[.agg #[.int .i64 R.now,X.e,X.w,X.m,X.k,.int .i64 R.pol.sk.added,X.f,X.c,.int .i64 R.hits]] w fun e w' => ∃ Y : Pc,e = .returned (.agg #[.int .i64 R.now,Y.e,Y.w,Y.m,Y.k,.int .i64 R.pol.sk.added,Y.f,Y.c,.int .i64 R.hits]) ∧ PxOwn w' w.heap.size w'.heap.size Y R ∧ Below w.heap.size w w' := by
 obtain ⟨l1,l2,l3,l4⟩ := hsz.parts
 obtain ⟨xe,xw,xm,xk,xf,xc⟩ := X
 obtain ⟨⟨ae,ce,rfl,hE⟩,hW1,hM1,hK1,⟨af,cf,rfl,hF⟩,⟨ac,cc,rfl,hC⟩⟩ := hA
 dsimp only at *
 have hP : PlV w xw xm xk R.pol w.heap.size := ⟨hW1,hM1,hK1⟩
 obtain ⟨A,hAA⟩ : ∃ A,w.heap.size = A := ⟨_,rfl⟩
 obtain ⟨w0,hw0⟩ : ∃ x,w.alloc (.cells #[.int .i64 R.now,.slice ae R.ents.length ce,xw,xm,xk,.int .i64 R.pol.sk.added,.slice af R.fes.length cf,.slice ac R.cls.length cc,.int .i64 R.hits] 36) = x := ⟨_,rfl⟩
 obtain ⟨w1,hw1⟩ : ∃ x,w0.alloc (.cells #[.int .i64 0,.slice none 0 0,.slice none 0 0,.slice none 0 0,.slice none 0 0,.int .i64 0,.slice none 0 0,.slice none 0 0,.int .i64 0] 36) = x := ⟨_,rfl⟩
 have hb0 : Below w.heap.size w w0 := by rw [← hw0]; exact (Below.refl _ _).alloc (Nat.le_refl _) _
 have hb01 : Below w0.heap.size w0 w1 := by rw [← hw1]; exact (Below.refl _ _).alloc (Nat.le_refl _) _
 have s0 : w0.heap.size = A + 1 := by rw [← hw0, ← hAA]; simp
 have s1 : w1.heap.size = A + 2 := by rw [← hw1]; simp; omega
 have hb1 : Below w.heap.size w w1 := hb0.trans (hb01.mono hb0.size)
 have hB : NB w1 A 36 (.int .i64 R.now) (.slice ae R.ents.length ce) xw xm xk (.int .i64 R.pol.sk.added) (.slice af R.fes.length cf) (.slice ac R.cls.length cc) (.int .i64 R.hits) := by
  have h : NB w0 A 36 (.int .i64 R.now) (.slice ae R.ents.length ce) xw xm xk (.int .i64 R.pol.sk.added) (.slice af R.fes.length cf) (.slice ac R.cls.length cc) (.int .i64 R.hits) := by rw [← hw0, ← hAA]; exact NB.new _ _ _ _ _ _ _ _ _ _ _
  exact h.on hb01
 have hR : NB w1 (A + 1) 36 (.int .i64 0) (.slice none 0 0) (.slice none 0 0) (.slice none 0 0) (.slice none 0 0) (.int .i64 0) (.slice none 0 0) (.slice none 0 0) (.int .i64 0) := by rw [← hw1, ← s0]; exact NB.new _ _ _ _ _ _ _ _ _ _ _
 have HW : Hid ((w.alloc (.cells #[.int .i64 R.now,.slice ae R.ents.length ce,xw,xm,xk,.int .i64 R.pol.sk.added,.slice af R.fes.length cf,.slice ac R.cls.length cc,.int .i64 R.hits] 36)).alloc (.cells #[.int .i64 0,.slice none 0 0,.slice none 0 0,.slice none 0 0,.slice none 0 0,.int .i64 0,.slice none 0 0,.slice none 0 0,.int .i64 0] 36) = w1) := by rw [hw0]; exact hw1
 have HA1 : Hid (∀ W,Below w1.heap.size w1 W → NB W A 36 (.int .i64 R.now) (.slice ae R.ents.length ce) xw xm xk (.int .i64 R.pol.sk.added) (.slice af R.fes.length cf) (.slice ac R.cls.length cc) (.int .i64 R.hits) ∧ NB W (A + 1) 36 (.int .i64 0) (.slice none 0 0) (.slice none 0 0) (.slice none 0 0) (.slice none 0 0) (.int .i64 0) (.slice none 0 0) (.slice none 0 0) (.int .i64 0) ∧ NAt W ae R.ents w1.heap.size ∧ FetAt W af R.fes w1.heap.size ∧ CliAt W ac R.cls w1.heap.size ∧ Below A w W ∧ A + 2 ≤ W.heap.size) := fun W h =>
  ⟨hB.on h,hR.on h,(hE.on hb1).below h (Nat.le_refl _),(hF.on hb1).below h (Nat.le_refl _),(hC.on hb1).below h (Nat.le_refl _),by rw [← hAA]; exact hb1.trans (h.mono (by omega)),by have := h.size; omega⟩
 have HPC : Hid (∀ W,Below w1.heap.size w1 W → Calls Tryz.prog 32 #[.agg #[xw,xm,xk,.int .i64 R.pol.sk.added]] W fun e w' => ∃ aw cw am cm ak ck,e = .returned (.agg #[.slice aw R.pol.win.length cw,.slice am R.pol.main.length cm,.slice ak R.pol.sk.rows.length ck,.int .i64 R.pol.sk.added]) ∧ POwn w' W.heap.size w'.heap.size (.agg #[.slice aw R.pol.win.length cw,.slice am R.pol.main.length cm,.slice ak R.pol.sk.rows.length ck,.int .i64 R.pol.sk.added]) R.pol ∧ Below W.heap.size W w') := fun W h => policyCopy_v W xw xm xk R.pol ((hP.on hb1).on h) l2
 have HSI : Hid ((∀ j (hj : j < R.ents.length),R.ents[j].wg ≤ 1048576) ∧ (∀ j (hj : j < R.fes.length),R.fes[j].wg ≤ 1048576) ∧ (∀ j (hj : j < R.cls.length),R.cls[j].wg ≤ 1048576)) := by
  unfold PxSz wgtX at hsz
  refine ⟨fun j hj => ?_,fun j hj => ?_,fun j hj => ?_⟩
  ·have := ewg_mem hj; omega
  ·have := ftwg_mem hj; omega
  ·have := clwg_mem hj; omega
 have KS : ∀ W,Below w1.heap.size w1 W → W.cell? ⟨A, 0,none⟩ = some (.int .i64 R.now) ∧ W.cell? ⟨A, 1,none⟩ = some (.slice ae R.ents.length ce) ∧ W.cell? ⟨A, 2,none⟩ = some xw ∧ W.cell? ⟨A, 3,none⟩ = some xm ∧ W.cell? ⟨A, 4,none⟩ = some xk ∧ W.cell? ⟨A, 5,none⟩ = some (.int .i64 R.pol.sk.added) ∧ W.cell? ⟨A, 6,none⟩ = some (.slice af R.fes.length cf) ∧ W.cell? ⟨A, 7,none⟩ = some (.slice ac R.cls.length cc) ∧ W.cell? ⟨A, 8,none⟩ = some (.int .i64 R.hits) := fun W h => (hB.on h).cells
 have hdr : Below w1.heap.size w1 w1.drew := ⟨rfl,rfl,rfl,Nat.le_refl _,fun _ _ => rfl⟩
 have hdz : Below w1.heap.size w1 (w1.alloc (.cells #[.int .i64 0,.slice none 0 0,.slice none 0 0,.slice none 0 0,.slice none 0 0,.int .i64 0,.slice none 0 0,.slice none 0 0,.int .i64 0] 36)).drew := ((Below.refl _ _).alloc (Nat.le_refl _) _).trans ⟨rfl,rfl,rfl,Nat.le_refl _,fun _ _ => rfl⟩
 have HN0 : Hid (NB (w1.alloc (.cells #[.int .i64 0,.slice none 0 0,.slice none 0 0,.slice none 0 0,.slice none 0 0,.int .i64 0,.slice none 0 0,.slice none 0 0,.int .i64 0] 36)).drew w1.heap.size 36 (.int .i64 0) (.slice none 0 0) (.slice none 0 0) (.slice none 0 0) (.slice none 0 0) (.int .i64 0) (.slice none 0 0) (.slice none 0 0) (.int .i64 0)) := NB.new w1 36 (.int .i64 0) (.slice none 0 0) (.slice none 0 0) (.slice none 0 0) (.slice none 0 0) (.int .i64 0) (.slice none 0 0) (.slice none 0 0) (.int .i64 0)
 have hAw : A ≤ w1.heap.size := by omega
 have HAA : Hid (w.heap.size = A ∧ w1.heap.size = A + 2) := ⟨hAA,s1⟩
 clear hw0 hw1 hb0 hb01 s0 hE hF hC hW1 hM1 hK1 hP hsz hB hR hb1 s1 l2
 go_enter Tryz.func16,Tryz.ntmps16
 go_upto_region 1 with fail
 rw [HW.out]
 clear HW
 go_cut [3] (fun p wc => ∃ N Y,p = .pointer (some ⟨N, 0,none⟩) ∧ NB wc N 36 (.int .i64 R.now) Y.e Y.w Y.m Y.k (.int .i64 R.pol.sk.added) Y.f Y.c (.int .i64 R.hits) ∧ PxOwn wc w1.heap.size wc.heap.size Y (Prx.mk R.now [] R.pol [] [] R.hits) ∧ Below w1.heap.size w1 wc ∧ w1.heap.size ≤ N)
 case first =>
  go_region_held3 (fun W => W.cell? ⟨A, 0,none⟩ = some (.int .i64 R.now) ∧ W.cell? ⟨A, 1,none⟩ = some (.slice ae R.ents.length ce) ∧ W.cell? ⟨A, 2,none⟩ = some xw ∧ W.cell? ⟨A, 3,none⟩ = some xm ∧ W.cell? ⟨A, 4,none⟩ = some xk ∧ W.cell? ⟨A, 5,none⟩ = some (.int .i64 R.pol.sk.added) ∧ W.cell? ⟨A, 6,none⟩ = some (.slice af R.fes.length cf) ∧ W.cell? ⟨A, 7,none⟩ = some (.slice ac R.cls.length cc) ∧ W.cell? ⟨A, 8,none⟩ = some (.int .i64 R.hits)) (first | with_reducible exact KS _ hdr | with_reducible exact KS _ hdz | with_reducible exact KS _ fP | with_reducible exact hK1 | with_reducible exact hK2 | with_reducible exact hK3)
   (first | (go_at_call 32; first
    | (with_reducible refine (HPC.out _ hdr).mono ?_; rintro e wP ⟨yw,kw,ym,km,yk,kk,rfl,oP,bP⟩; have fP : Below w1.heap.size w1 wP := hdr.trans (bP.mono hdr.size); have hK2 := KS (wP.alloc (.cells #[.int .i64 0,.slice none 0 0,.slice none 0 0,.slice none 0 0,.slice none 0 0,.int .i64 0,.slice none 0 0,.slice none 0 0,.int .i64 0] 36)) (fP.alloc fP.size _); have hK3 := KS (wP.alloc (.cells #[.int .i64 R.now,.slice none 0 0,.slice yw R.pol.win.length kw,.slice ym R.pol.main.length km,.slice yk R.pol.sk.rows.length kk,.int .i64 R.pol.sk.added,.slice none 0 0,.slice none 0 0,.int .i64 R.hits] 36)) (fP.alloc fP.size _); have FB := gat_b R.now R.hits (oP.mono hdr.size (Nat.le_refl _)) fP fP.size)
    | (with_reducible refine (HPC.out _ hdz).mono ?_; rintro e wP ⟨yw,kw,ym,km,yk,kk,rfl,oP,bP⟩; have fP : Below w1.heap.size w1 wP := hdz.trans (bP.mono hdz.size); have hK1 := KS _ (Below.put9 fP (Nat.le_refl _) (.int .i64 R.now) (.slice none 0 0) (.slice yw R.pol.win.length kw) (.slice ym R.pol.main.length km) (.slice yk R.pol.sk.rows.length kk) (.int .i64 R.pol.sk.added) (.slice none 0 0) (.slice none 0 0) (.int .i64 R.hits)); have hN := HN0.out.on bP; obtain ⟨r0,r1,r2,r3,r4,r5,r6,r7,r8⟩ := hN.cells; have t0 := hN.thaw 0; have t1 := hN.thaw 1; have t2 := hN.thaw 2; have t3 := hN.thaw 3; have t4 := hN.thaw 4; have t5 := hN.thaw 5; have t6 := hN.thaw 6; have t7 := hN.thaw 7; have t8 := hN.thaw 8; have FA := gat_a R.now R.hits (oP.mono hdz.size (Nat.le_refl _)) fP (Nat.le_refl _) hN)))
  all_goals go_wp2_with fail
  all_goals go_meet
  all_goals first
   | exact ⟨_,⟨.slice none 0 0,.slice yw R.pol.win.length kw,.slice ym R.pol.main.length km,.slice yk R.pol.sk.rows.length kk,.slice none 0 0,.slice none 0 0⟩,rfl,FB⟩
   | exact ⟨_,⟨.slice none 0 0,.slice yw R.pol.win.length kw,.slice ym R.pol.main.length km,.slice yk R.pol.sk.rows.length kk,.slice none 0 0,.slice none 0 0⟩,rfl,FA⟩
 case rest =>
  obtain ⟨N,Y,rfl,hN,hO,hbw,hNl⟩ := hcut
  have HNL : Hid (w1.heap.size ≤ N) := hNl
  clear hNl HPC KS hdr hdz HN0
  have HN : Hid (NB wc N 36 (.int .i64 R.now) Y.e Y.w Y.m Y.k (.int .i64 R.pol.sk.added) Y.f Y.c (.int .i64 R.hits)) := hN
  have HO : Hid (PxOwn wc w1.heap.size wc.heap.size Y (Prx.mk R.now [] R.pol [] [] R.hits)) := hO
  have HB : Hid (Below w1.heap.size w1 wc) := hbw
  clear hN hO hbw
  have b1 := (HA1.out _ HB.out).1.cells.2.1
  go_wp2_with fail
  go_loopw [5, 21] (fun _ i wr => Box (∃ (k : Nat) (Y : Pc),k ≤ R.ents.length ∧ i = .int .i64 k ∧ Hid (NB wr N 36 (.int .i64 R.now) Y.e Y.w Y.m Y.k (.int .i64 R.pol.sk.added) Y.f Y.c (.int .i64 R.hits)) ∧ Hid (PxOwn wr w1.heap.size wr.heap.size Y (Prx.mk R.now (R.ents.take k) R.pol [] [] R.hits)) ∧ Hid (Below w1.heap.size w1 wr)))
   (fun _ i _ => R.ents.length - (intOf i).toNat)
  case atStart => exact ⟨⟨0,Y,by omega,rfl,HN.out,HO.out,HB.out⟩⟩
  case round =>
   clear HN HO HB b1
   obtain ⟨k,Y,hk,rfl,HN,HO,HB⟩ := hrel.out
   clear hrel
   by_cases hlt : k < R.ents.length
   ·obtain ⟨g,off,hga,hgl,q0,q1,q2,q3⟩ := (HA1.out wr HB.out).2.2.1 k hlt
    have hsz := HSI.out.1 k hlt
    obtain ⟨x,hx⟩ : ∃ x,R.ents[k] = x := ⟨_,rfl⟩
    rw [hx] at q0 q1 q2 q3 hsz
    have HX1 : Hid (R.ents.take k ++ [x] = R.ents.take (k + 1)) := by show _ = _; rw [List.take_succ_eq_append_getElem hlt,hx]
    have HLK : Hid ((R.ents.take k).length + [x].length ≤ 1800000) := by show _ ≤ _; rw [List.length_take,List.length_singleton]; omega
    have HLK2 : Hid ((R.ents.take k).length = k) := by show _ = _; rw [List.length_take]; omega
    have HKL : Hid (k < R.ents.length) := hlt
    have HLN : Hid ((R.ents.take (k + 1)).length = k + 1) := by show _ = _; rw [List.length_take]; omega
    have hs0 : x.key.size ≤ 1048576 := by unfold En.wg at hsz; omega
    have hs1 : x.bd.size ≤ 1048576 := by unfold En.wg at hsz; omega
    obtain ⟨T,hT⟩ : ∃ T,wr.heap.size = T := ⟨_,rfl⟩
    obtain ⟨wx,hwx⟩ : ∃ y,wr.alloc (.cells #[.string x.key,.int .i64 x.st,.int .i64 x.lf,.string x.bd] 65) = y := ⟨_,rfl⟩
    have hbx : Below wr.heap.size wr wx := by rw [← hwx]; exact (Below.refl _ _).alloc (Nat.le_refl _) _
    have hXB : EnB wx T 65 x := by rw [← hwx, ← hT]; exact EnB.new _ _ _
    have HXW : Hid (wr.alloc (.cells #[.string x.key,.int .i64 x.st,.int .i64 x.lf,.string x.bd] 65) = wx) := hwx
    have HXS : Hid (Below wr.heap.size wr wx) := hbx
    have HCE : Hid (∀ wi,Calls Tryz.prog 33 #[.agg #[.string x.key,.int .i64 x.st,.int .i64 x.lf,.string x.bd]] wi fun e w' => e = .returned (.agg #[.string x.key,.int .i64 x.st,.int .i64 x.lf,.string x.bd]) ∧ Below wi.heap.size wi w') := fun wi => entryCopy_any wi x hs0 hs1
    have HI : Hid (∀ W,Below wx.heap.size wx W → NB (W.alloc (.cells #[.string x.key,.int .i64 x.st,.int .i64 x.lf,.string x.bd] 65)) N 36 (.int .i64 R.now) Y.e Y.w Y.m Y.k (.int .i64 R.pol.sk.added) Y.f Y.c (.int .i64 R.hits) ∧ PxOwn (W.alloc (.cells #[.string x.key,.int .i64 x.st,.int .i64 x.lf,.string x.bd] 65)) w1.heap.size wr.heap.size Y (Prx.mk R.now (R.ents.take k) R.pol [] [] R.hits) ∧ Below w1.heap.size w1 (W.alloc (.cells #[.string x.key,.int .i64 x.st,.int .i64 x.lf,.string x.bd] 65)) ∧ W.cell? ⟨N, 1,none⟩ = some Y.e) := fun W hW => by
     have h := hbx.trans (hW.mono hbx.size)
     have h2 : Below wr.heap.size wr (W.alloc (.cells #[.string x.key,.int .i64 x.st,.int .i64 x.lf,.string x.bd] 65)) := h.alloc h.size _
     exact ⟨HN.out.on h2,HO.out.below h2 (Nat.le_refl _),HB.out.trans (h2.mono HB.out.size),(HN.out.on h).cells.2.1⟩
    have nc := (HN.out.on hbx).cells.2.1
    obtain ⟨u0,u1,u2,u3⟩ := hXB.cells
    subst hga
    have hi1 : (0 : Int) ≤ (k : Int) := by omega
    have hi2 : (k : Int) < (R.ents.length : Int) := by omega
    rw [hT] at HXS
    clear hx hsz hwx hlt hbx hXB hgl hk hs0 hs1 HN HO HB
    go_wp2_with fail
    rw [HXW.out]
    go_region_law (first
     | (refine step_snocN (by rfl) _ _ 26 (by rfl) w1.heap.size 65 Tryz.underlying26 Tryz.infoEn Y.e (R.ents.take k) (by rfl) hI6.out.2.1.e w6.heap.size x (0, 0) (by rfl) (heap_alloc_new w6 _) (by have := HLK.out; rw [List.length_singleton] at this; omega) hI6.out.2.2.1.size ?_; intro g2 k2 w2 ho2 hg2; (rw [HX1.out,HLK2.out] at ho2); (rw [HLK2.out]); have hNN := NB.kept hI6.out.1 ((grown_box hg2 hI6.out.1 hI6.out.2.1.e.type (by decide)).trans (Eq.symm hI6.out.1)); have r1 := hNN.cells.2.1; have t1 := hNN.thaw 1)
     | (go_simp; go_at_call 33; refine (HCE.out _).mono ?_; rintro e w6 ⟨rfl,hb6⟩; have hC6 : Below wx.heap.size wx w6 := (show Below wx.heap.size wx wx.drew from ⟨rfl,rfl,rfl,Nat.le_refl _,fun _ _ => rfl⟩).trans hb6; have nc6 := (HI.out w6 hC6).2.2.2; have nc7 := (HI.out w6 hC6).1.cells.2.1; have hI6 : Hid _ := HI.out w6 hC6))
    all_goals (
     have hfin : PxOwn (w2.setCell ⟨N, 1,none⟩ (.slice (some ⟨g2, 0,none⟩) (k + 1) k2)) w1.heap.size (w2.setCell ⟨N, 1,none⟩ (.slice (some ⟨g2, 0,none⟩) (k + 1) k2)).heap.size ⟨.slice (some ⟨g2, 0,none⟩) (k + 1) k2,Y.w,Y.m,Y.k,Y.f,Y.c⟩ (Prx.mk R.now (R.ents.take (k + 1)) R.pol [] [] R.hits) := ((hI6.out.2.1.setE hg2 ho2).box hNN (by unfold PxT; decide) (fun j hj => Below.heap_setCell _ _ _ _ (by exact hj))).up
     have hNf := hNN.set1 (.slice (some ⟨g2, 0,none⟩) (k + 1) k2)
     have hbf : Below w1.heap.size w1 (w2.setCell ⟨N, 1,none⟩ (.slice (some ⟨g2, 0,none⟩) (k + 1) k2)) := (Below.grown hI6.out.2.2.1 hg2 hI6.out.2.2.1.size (fun j hj => (hI6.out.2.1.e.lt j hj).1)).setCell HNL.out _
     have HF1 : Hid _ := hfin
     have HF2 : Hid _ := hNf
     have HF3 : Hid _ := hbf
     clear hfin hNf hbf hg2 ho2 hNN r1 t1 hI6
     go_wp2
     refine ⟨?_, ?_⟩
     ·exact ⟨⟨k + 1,⟨.slice (some ⟨g2, 0,none⟩) (k + 1) k2,Y.w,Y.m,Y.k,Y.f,Y.c⟩,HKL.out,by go_num,HF2.out,HF1.out,HF3.out⟩⟩
     ·have := HKL.out; simp [intOf]; omega)
   ·have hke : k = R.ents.length := by omega
    have hi2 : ¬ (k : Int) < (R.ents.length : Int) := by omega
    have HO2 : Hid (PxOwn wr w1.heap.size wr.heap.size Y (Prx.mk R.now R.ents R.pol [] [] R.hits)) := by have h := HO.out; rw [hke,List.take_length] at h; exact h
    clear HO hke hlt hk
    have HO := HO2
    clear HO2
    have b6 := (HA1.out _ HB.out).1.cells.2.2.2.2.2.2.1
    go_wp2_with fail
    go_loopw [7, 36] (fun _ i wr => Box (∃ (k : Nat) (Y : Pc),k ≤ R.fes.length ∧ i = .int .i64 k ∧ Hid (NB wr N 36 (.int .i64 R.now) Y.e Y.w Y.m Y.k (.int .i64 R.pol.sk.added) Y.f Y.c (.int .i64 R.hits)) ∧ Hid (PxOwn wr w1.heap.size wr.heap.size Y (Prx.mk R.now R.ents R.pol (R.fes.take k) [] R.hits)) ∧ Hid (Below w1.heap.size w1 wr)))
     (fun _ i _ => R.fes.length - (intOf i).toNat)
    case atStart => exact ⟨⟨0,Y,by omega,rfl,HN.out,HO.out,HB.out⟩⟩
    case round =>
     clear HN HO HB b6
     obtain ⟨k,Y,hk,rfl,HN,HO,HB⟩ := hrel.out
     clear hrel
     by_cases hlt : k < R.fes.length
     ·obtain ⟨g,off,hga,hgl,q0,q1,q2,q3,q4⟩ := (HA1.out wr HB.out).2.2.2.1 k hlt
      have hsz := HSI.out.2.1 k hlt
      obtain ⟨x,hx⟩ : ∃ x,R.fes[k] = x := ⟨_,rfl⟩
      rw [hx] at q0 q1 q2 q3 q4 hsz
      have HX1 : Hid (R.fes.take k ++ [x] = R.fes.take (k + 1)) := by show _ = _; rw [List.take_succ_eq_append_getElem hlt,hx]
      have HLK : Hid ((R.fes.take k).length + [x].length ≤ 1800000) := by show _ ≤ _; rw [List.length_take,List.length_singleton]; omega
      have HKL : Hid (k < R.fes.length) := hlt
      have HLN : Hid ((R.fes.take (k + 1)).length = k + 1) := by show _ = _; rw [List.length_take]; omega
      have hs0 : x.key.size ≤ 1048576 := by unfold Fet.wg at hsz; omega
      have hs1 : x.tx.size ≤ 1048576 := by unfold Fet.wg at hsz; omega
      obtain ⟨T,hT⟩ : ∃ T,wr.heap.size = T := ⟨_,rfl⟩
      obtain ⟨wx,hwx⟩ : ∃ y,wr.alloc (.cells #[.string x.key,.string x.tx,.int .i64 x.st,.int .i64 x.lf,.int .i64 x.sto] 84) = y := ⟨_,rfl⟩
      have hbx : Below wr.heap.size wr wx := by rw [← hwx]; exact (Below.refl _ _).alloc (Nat.le_refl _) _
      have hXB : FetB wx T 84 x := by rw [← hwx, ← hT]; exact FetB.new _ _ _
      have HXW : Hid (wr.alloc (.cells #[.string x.key,.string x.tx,.int .i64 x.st,.int .i64 x.lf,.int .i64 x.sto] 84) = wx) := hwx
      have HTT : Hid (wr.heap.size = T) := hT
      have hdx : Below wx.heap.size wx wx.drew := ⟨rfl,rfl,rfl,Nat.le_refl _,fun _ _ => rfl⟩
      have HCL0 : Hid (∀ wi,Calls Tryz.prog 34 #[.string x.key] wi fun e w' => e = .returned (.string x.key) ∧ Below wi.heap.size wi w') := fun wi => cloneP_any x.key wi hs0
      have HCL1 : Hid (∀ wi,Calls Tryz.prog 34 #[.string x.tx] wi fun e w' => e = .returned (.string x.tx) ∧ Below wi.heap.size wi w') := fun wi => cloneP_any x.tx wi hs1
      have KX : ∀ W,FetB W T 84 x → W.cell? ⟨T, 0,none⟩ = some (.string x.key) ∧ W.cell? ⟨T, 1,none⟩ = some (.string x.tx) := fun W h => ⟨h.cells.1,h.cells.2.1⟩
      have HD : Hid (∀ W,Below wx.heap.size wx W → FetB W T 84 x) := fun W h => hXB.on h
      have hXD := KX _ (HD.out _ hdx)
      have HXS : Hid (Below wr.heap.size wr wx ∧ wx.heap.size = T + 1) := ⟨hbx,by rw [← hwx]; simp [hT]⟩
      subst hga
      have hi1 : (0 : Int) ≤ (k : Int) := by omega
      have hi2 : (k : Int) < (R.fes.length : Int) := by omega
      clear hx hsz hwx hlt hbx hXB hgl hk hs0 hs1
      go_wp2_with fail
      rw [HXW.out]
      go_region_held3 (fun W => W.cell? ⟨T, 0,none⟩ = some (.string x.key) ∧ W.cell? ⟨T, 1,none⟩ = some (.string x.tx)) (first | with_reducible exact hXD | with_reducible exact KX _ hD6 | with_reducible exact KX _ hD7 | with_reducible exact hK8 | with_reducible exact hK9)
       (first | (go_at_call 34; first
        | (with_reducible refine (HCL0.out _).mono ?_; rintro e w6 ⟨rfl,hb6⟩; have hC6 := hdx.trans (hb6.mono hdx.size); have hD6 := HD.out _ hC6)
        | (with_reducible refine (HCL1.out _).mono ?_; rintro e w7 ⟨rfl,hb7⟩; have hC7 := hC6.trans (hb7.mono hC6.size); have hD7 := HD.out _ hC7; obtain ⟨d0,d1⟩ := KX _ hD7; have f0 := hD7.thaw 0; have f1 := hD7.thaw 1; have hK8 := KX _ hD7.same1; have hK9 := KX _ hD7.same)))
      have hE9 : FetB ((w7.setCell ⟨T, 0,none⟩ (.string x.key)).setCell ⟨T, 1,none⟩ (.string x.tx)) T 84 x := hD7.same
      obtain ⟨w9,hw9⟩ : ∃ y,(w7.setCell ⟨T, 0,none⟩ (.string x.key)).setCell ⟨T, 1,none⟩ (.string x.tx) = y := ⟨_,rfl⟩
      have hb79 : ∀ j,j ≠ T → w9.heap[j]? = w7.heap[j]? := fun j hj => by rw [← hw9,Below.heap_setCell _ _ _ _ (by exact hj),Below.heap_setCell _ _ _ _ (by exact hj)]
      have hrb : Below wr.heap.size wr w7 := HXS.out.1.trans (hC7.mono HXS.out.1.size)
      have hrb9 : Below wr.heap.size wr w9 := by rw [← hw9]; exact (hrb.setCell (by show wr.heap.size ≤ T; rw [HTT.out]; exact Nat.le_refl _) _).setCell (by show wr.heap.size ≤ T; rw [HTT.out]; exact Nat.le_refl _) _
      rw [hw9] at hE9
      have hN9 := HN.out.on hrb9
      have hO9 : PxOwn w9 w1.heap.size wr.heap.size Y (Prx.mk R.now R.ents R.pol (R.fes.take k) [] R.hits) := HO.out.below hrb9 (Nat.le_refl _)
      have HB9 : Hid (Below w1.heap.size w1 w9) := HB.out.trans (hrb9.mono HB.out.size)
      obtain ⟨u0,u1,u2,u3,u4⟩ := hE9.cells
      have nc := hN9.cells.2.2.2.2.2.2.1
      have HN9 : Hid (NB w9 N 36 (.int .i64 R.now) Y.e Y.w Y.m Y.k (.int .i64 R.pol.sk.added) Y.f Y.c (.int .i64 R.hits)) := hN9
      have HO9 : Hid (PxOwn w9 w1.heap.size wr.heap.size Y (Prx.mk R.now R.ents R.pol (R.fes.take k) [] R.hits)) := hO9
      have HEN : Hid (N < w9.heap.size) := hN9.lt
      rw [hw9]
      clear hXD hD6 hD7 hC6 hC7 hb6 hb7 d0 d1 f0 f1 hK8 hK9 hE9 hb79 hrb hrb9 hN9 hO9 hw9 HD KX hdx q0 q1 q2 q3 q4 HCL0 HCL1 HXW HN HO HB
      try (rename_i hHeld; clear hHeld)
      go_wp2_with (at_builtin; go_loud (refine wpList_plusFet rfl (.tmp 49) (.tmp 51) 33 rfl w1.heap.size 84 Tryz.underlying33 Tryz.infoFet Y.f (R.fes.take k) rfl HO9.out.f [x] _ rfl rfl (Nat.le_trans HLK.out (by omega)) HB9.out.size ?_; intro v2 w2 ho2 hg2; (rw [HX1.out] at ho2); obtain ⟨g2,k2,hv2,_⟩ := ho2.at; (rw [HLN.out] at hv2); subst hv2; have hNN := NB.kept HN9.out ((grown_box hg2 HN9.out HO9.out.f.type (by decide)).trans (Eq.symm HN9.out)); have r1 := hNN.cells.2.2.2.2.2.2.1; have t1 := hNN.thaw 6))
      have hfin : PxOwn (w2.setCell ⟨N, 6,none⟩ (.slice g2 (k + 1) k2)) w1.heap.size (w2.setCell ⟨N, 6,none⟩ (.slice g2 (k + 1) k2)).heap.size ⟨Y.e,Y.w,Y.m,Y.k,.slice g2 (k + 1) k2,Y.c⟩ (Prx.mk R.now R.ents R.pol (R.fes.take (k + 1)) [] R.hits) := ((HO9.out.setF hg2 ho2).box hNN (by unfold PxT; decide) (fun j hj => Below.heap_setCell _ _ _ _ (by exact hj))).up
      have hNf := hNN.set6 (.slice g2 (k + 1) k2)
      have hbf : Below w1.heap.size w1 (w2.setCell ⟨N, 6,none⟩ (.slice g2 (k + 1) k2)) := (Below.grown HB9.out hg2 HB9.out.size (fun j hj => (HO9.out.f.lt j hj).1)).setCell HNL.out _
      have HF1 : Hid _ := hfin
      have HF2 : Hid _ := hNf
      have HF3 : Hid _ := hbf
      clear hfin hNf hbf hg2 ho2 hNN r1 t1
      go_roundw
      case rel =>
       try ((repeat apply Exists.intro); refine ⟨?_,rfl⟩)
       exact ⟨⟨k + 1,⟨Y.e,Y.w,Y.m,Y.k,.slice g2 (k + 1) k2,Y.c⟩,HKL.out,by go_num,HF2.out,HF1.out,HF3.out⟩⟩
      case measure => have := HKL.out; simp [intOf]; omega
     ·have hke : k = R.fes.length := by omega
      have hi2 : ¬ (k : Int) < (R.fes.length : Int) := by omega
      have HO2 : Hid (PxOwn wr w1.heap.size wr.heap.size Y (Prx.mk R.now R.ents R.pol R.fes [] R.hits)) := by have h := HO.out; rw [hke,List.take_length] at h; exact h
      clear HO hke hlt hk
      have HO := HO2
      clear HO2
      have b7 := (HA1.out _ HB.out).1.cells.2.2.2.2.2.2.2.1
      go_wp2_with fail
      go_loopw [9, 58] (fun _ i wr => Box (∃ (k : Nat) (Y : Pc),k ≤ R.cls.length ∧ i = .int .i64 k ∧ Hid (NB wr N 36 (.int .i64 R.now) Y.e Y.w Y.m Y.k (.int .i64 R.pol.sk.added) Y.f Y.c (.int .i64 R.hits)) ∧ Hid (PxOwn wr w1.heap.size wr.heap.size Y (Prx.mk R.now R.ents R.pol R.fes (R.cls.take k) R.hits)) ∧ Hid (Below w1.heap.size w1 wr)))
       (fun _ i _ => R.cls.length - (intOf i).toNat)
      case atStart => exact ⟨⟨0,Y,by omega,rfl,HN.out,HO.out,HB.out⟩⟩
      case round =>
       clear HN HO HB b7
       obtain ⟨k,Y,hk,rfl,HN,HO,HB⟩ := hrel.out
       clear hrel
       by_cases hlt : k < R.cls.length
       ·obtain ⟨g,off,hga,hgl,q0,q1,q2,q3,q4,q5,q6⟩ := (HA1.out wr HB.out).2.2.2.2.1 k hlt
        have hsz := HSI.out.2.2 k hlt
        obtain ⟨x,hx⟩ : ∃ x,R.cls[k] = x := ⟨_,rfl⟩
        rw [hx] at q0 q1 q2 q3 q4 q5 q6 hsz
        have HX1 : Hid (R.cls.take k ++ [x] = R.cls.take (k + 1)) := by show _ = _; rw [List.take_succ_eq_append_getElem hlt,hx]
        have HLK : Hid ((R.cls.take k).length + [x].length ≤ 1800000) := by show _ ≤ _; rw [List.length_take,List.length_singleton]; omega
        have HKL : Hid (k < R.cls.length) := hlt
        have HLN : Hid ((R.cls.take (k + 1)).length = k + 1) := by show _ = _; rw [List.length_take]; omega
        have hs0 : x.key.size ≤ 1048576 := by unfold Cli.wg at hsz; omega
        have hs1 : x.got.size ≤ 1048576 := by unfold Cli.wg at hsz; omega
        obtain ⟨T,hT⟩ : ∃ T,wr.heap.size = T := ⟨_,rfl⟩
        obtain ⟨wx,hwx⟩ : ∃ y,wr.alloc (.cells #[.int .i64 x.id,.string x.key,.int .i64 x.fe,.int .i64 x.fr,.int .i64 x.st,.string x.got,.int .i64 x.ag] 45) = y := ⟨_,rfl⟩
        have hbx : Below wr.heap.size wr wx := by rw [← hwx]; exact (Below.refl _ _).alloc (Nat.le_refl _) _
        have hXB : CliB wx T 45 x := by rw [← hwx, ← hT]; exact CliB.new _ _ _
        have HXW : Hid (wr.alloc (.cells #[.int .i64 x.id,.string x.key,.int .i64 x.fe,.int .i64 x.fr,.int .i64 x.st,.string x.got,.int .i64 x.ag] 45) = wx) := hwx
        have HTT : Hid (wr.heap.size = T) := hT
        have hdx : Below wx.heap.size wx wx.drew := ⟨rfl,rfl,rfl,Nat.le_refl _,fun _ _ => rfl⟩
        have HCL0 : Hid (∀ wi,Calls Tryz.prog 34 #[.string x.key] wi fun e w' => e = .returned (.string x.key) ∧ Below wi.heap.size wi w') := fun wi => cloneP_any x.key wi hs0
        have HCL1 : Hid (∀ wi,Calls Tryz.prog 34 #[.string x.got] wi fun e w' => e = .returned (.string x.got) ∧ Below wi.heap.size wi w') := fun wi => cloneP_any x.got wi hs1
        have KX : ∀ W,CliB W T 45 x → W.cell? ⟨T, 1,none⟩ = some (.string x.key) ∧ W.cell? ⟨T, 5,none⟩ = some (.string x.got) := fun W h => ⟨h.cells.2.1,h.cells.2.2.2.2.2.1⟩
        have HD : Hid (∀ W,Below wx.heap.size wx W → CliB W T 45 x) := fun W h => hXB.on h
        have hXD := KX _ (HD.out _ hdx)
        have HXS : Hid (Below wr.heap.size wr wx ∧ wx.heap.size = T + 1) := ⟨hbx,by rw [← hwx]; simp [hT]⟩
        subst hga
        have hi1 : (0 : Int) ≤ (k : Int) := by omega
        have hi2 : (k : Int) < (R.cls.length : Int) := by omega
        clear hx hsz hwx hlt hbx hXB hgl hk hs0 hs1
        go_wp2_with fail
        rw [HXW.out]
        go_region_held3 (fun W => W.cell? ⟨T, 1,none⟩ = some (.string x.key) ∧ W.cell? ⟨T, 5,none⟩ = some (.string x.got)) (first | with_reducible exact hXD | with_reducible exact KX _ hD6 | with_reducible exact KX _ hD7 | with_reducible exact hK8 | with_reducible exact hK9)
         (first | (go_at_call 34; first
          | (with_reducible refine (HCL0.out _).mono ?_; rintro e w6 ⟨rfl,hb6⟩; have hC6 := hdx.trans (hb6.mono hdx.size); have hD6 := HD.out _ hC6)
          | (with_reducible refine (HCL1.out _).mono ?_; rintro e w7 ⟨rfl,hb7⟩; have hC7 := hC6.trans (hb7.mono hC6.size); have hD7 := HD.out _ hC7; obtain ⟨d0,d1⟩ := KX _ hD7; have f0 := hD7.thaw 1; have f1 := hD7.thaw 5; have hK8 := KX _ hD7.same1; have hK9 := KX _ hD7.same)))
        have hE9 : CliB ((w7.setCell ⟨T, 1,none⟩ (.string x.key)).setCell ⟨T, 5,none⟩ (.string x.got)) T 45 x := hD7.same
        obtain ⟨w9,hw9⟩ : ∃ y,(w7.setCell ⟨T, 1,none⟩ (.string x.key)).setCell ⟨T, 5,none⟩ (.string x.got) = y := ⟨_,rfl⟩
        have hb79 : ∀ j,j ≠ T → w9.heap[j]? = w7.heap[j]? := fun j hj => by rw [← hw9,Below.heap_setCell _ _ _ _ (by exact hj),Below.heap_setCell _ _ _ _ (by exact hj)]
        have hrb : Below wr.heap.size wr w7 := HXS.out.1.trans (hC7.mono HXS.out.1.size)
        have hrb9 : Below wr.heap.size wr w9 := by rw [← hw9]; exact (hrb.setCell (by show wr.heap.size ≤ T; rw [HTT.out]; exact Nat.le_refl _) _).setCell (by show wr.heap.size ≤ T; rw [HTT.out]; exact Nat.le_refl _) _
        rw [hw9] at hE9
        have hN9 := HN.out.on hrb9
        have hO9 : PxOwn w9 w1.heap.size wr.heap.size Y (Prx.mk R.now R.ents R.pol R.fes (R.cls.take k) R.hits) := HO.out.below hrb9 (Nat.le_refl _)
        have HB9 : Hid (Below w1.heap.size w1 w9) := HB.out.trans (hrb9.mono HB.out.size)
        obtain ⟨u0,u1,u2,u3,u4,u5,u6⟩ := hE9.cells
        have nc := hN9.cells.2.2.2.2.2.2.2.1
        have HN9 : Hid (NB w9 N 36 (.int .i64 R.now) Y.e Y.w Y.m Y.k (.int .i64 R.pol.sk.added) Y.f Y.c (.int .i64 R.hits)) := hN9
        have HO9 : Hid (PxOwn w9 w1.heap.size wr.heap.size Y (Prx.mk R.now R.ents R.pol R.fes (R.cls.take k) R.hits)) := hO9
        have HEN : Hid (N < w9.heap.size) := hN9.lt
        rw [hw9]
        clear hXD hD6 hD7 hC6 hC7 hb6 hb7 d0 d1 f0 f1 hK8 hK9 hE9 hb79 hrb hrb9 hN9 hO9 hw9 HD KX hdx q0 q1 q2 q3 q4 q5 q6 HCL0 HCL1 HXW HN HO HB
        try (rename_i hHeld; clear hHeld)
        go_wp2_with (at_builtin; go_loud (refine wpList_plusCli rfl (.tmp 71) (.tmp 73) 34 rfl w1.heap.size 45 Tryz.underlying34 Tryz.infoCli Y.c (R.cls.take k) rfl HO9.out.c [x] _ rfl rfl (Nat.le_trans HLK.out (by omega)) HB9.out.size ?_; intro v2 w2 ho2 hg2; (rw [HX1.out] at ho2); obtain ⟨g2,k2,hv2,_⟩ := ho2.at; (rw [HLN.out] at hv2); subst hv2; have hNN := NB.kept HN9.out ((grown_box hg2 HN9.out HO9.out.c.type (by decide)).trans (Eq.symm HN9.out)); have r1 := hNN.cells.2.2.2.2.2.2.2.1; have t1 := hNN.thaw 7))
        have hfin : PxOwn (w2.setCell ⟨N, 7,none⟩ (.slice g2 (k + 1) k2)) w1.heap.size (w2.setCell ⟨N, 7,none⟩ (.slice g2 (k + 1) k2)).heap.size ⟨Y.e,Y.w,Y.m,Y.k,Y.f,.slice g2 (k + 1) k2⟩ (Prx.mk R.now R.ents R.pol R.fes (R.cls.take (k + 1)) R.hits) := ((HO9.out.setC hg2 ho2).box hNN (by unfold PxT; decide) (fun j hj => Below.heap_setCell _ _ _ _ (by exact hj))).up
        have hNf := hNN.set7 (.slice g2 (k + 1) k2)
        have hbf : Below w1.heap.size w1 (w2.setCell ⟨N, 7,none⟩ (.slice g2 (k + 1) k2)) := (Below.grown HB9.out hg2 HB9.out.size (fun j hj => (HO9.out.c.lt j hj).1)).setCell HNL.out _
        have HF1 : Hid _ := hfin
        have HF2 : Hid _ := hNf
        have HF3 : Hid _ := hbf
        clear hfin hNf hbf hg2 ho2 hNN r1 t1
        go_roundw
        case rel =>
         try ((repeat apply Exists.intro); refine ⟨?_,rfl⟩)
         exact ⟨⟨k + 1,⟨Y.e,Y.w,Y.m,Y.k,Y.f,.slice g2 (k + 1) k2⟩,HKL.out,by go_num,HF2.out,HF1.out,HF3.out⟩⟩
        case measure => have := HKL.out; simp [intOf]; omega
       ·have hke : k = R.cls.length := by omega
        have hi2 : ¬ (k : Int) < (R.cls.length : Int) := by omega
        have HO2 : Hid (PxOwn wr w1.heap.size wr.heap.size Y (Prx.mk R.now R.ents R.pol R.fes R.cls R.hits)) := by have h := HO.out; rw [hke,List.take_length] at h; exact h
        clear HO hke hlt hk
        have HO := HO2
        clear HO2
        have hOR : PxOwn wr w1.heap.size wr.heap.size Y R := HO.out
        obtain ⟨e0,e1,x0,x1,m0,m1,k0,k1,f0,f1,c0,c1,rfl⟩ := hOR.slices
        have hNY : NB wr N 36 (.int .i64 R.now) (.slice e0 R.ents.length e1) (.slice x0 R.pol.win.length x1) (.slice m0 R.pol.main.length m1) (.slice k0 R.pol.sk.rows.length k1) (.int .i64 R.pol.sk.added) (.slice f0 R.fes.length f1) (.slice c0 R.cls.length c1) (.int .i64 R.hits) := HN.out
        obtain ⟨y0,y1,y2,y3,y4,y5,y6,y7,y8⟩ := hNY.cells
        have hRR := (HA1.out wr HB.out).2.1
        obtain ⟨r0,r1,r2,r3,r4,r5,r6,r7,r8⟩ := hRR.cells
        have t0 := hRR.thaw 0
        have t1 := hRR.thaw 1
        have t2 := hRR.thaw 2
        have t3 := hRR.thaw 3
        have t4 := hRR.thaw 4
        have t5 := hRR.thaw 5
        have t6 := hRR.thaw 6
        have t7 := hRR.thaw 7
        have t8 := hRR.thaw 8
        have HOA : Hid _ := hOR.box hRR (by unfold PxT; decide) (fun k hk => put9_other wr (A + 1) (.int .i64 R.now) (.slice e0 R.ents.length e1) (.slice x0 R.pol.win.length x1) (.slice m0 R.pol.main.length m1) (.slice k0 R.pol.sk.rows.length k1) (.int .i64 R.pol.sk.added) (.slice f0 R.fes.length f1) (.slice c0 R.cls.length c1) (.int .i64 R.hits) k hk)
        have HBF : Hid _ := Below.put9 (HA1.out wr HB.out).2.2.2.2.2.1 (T := A + 1) (by omega) (.int .i64 R.now) (.slice e0 R.ents.length e1) (.slice x0 R.pol.win.length x1) (.slice m0 R.pol.main.length m1) (.slice k0 R.pol.sk.rows.length k1) (.int .i64 R.pol.sk.added) (.slice f0 R.fes.length f1) (.slice c0 R.cls.length c1) (.int .i64 R.hits)
        have HPQ : Hid (NB wr (A + 1) 36 (.int .i64 0) (.slice none 0 0) (.slice none 0 0) (.slice none 0 0) (.slice none 0 0) (.int .i64 0) (.slice none 0 0) (.slice none 0 0) (.int .i64 0)) := hRR
        clear hOR hNY hRR HN HO HB
        go_wp2_with fail
        obtain ⟨q0,q1,q2,q3,q4,q5,q6,q7,q8⟩ := (NB.put HPQ.out (.int .i64 R.now) (.slice e0 R.ents.length e1) (.slice x0 R.pol.win.length x1) (.slice m0 R.pol.main.length m1) (.slice k0 R.pol.sk.rows.length k1) (.int .i64 R.pol.sk.added) (.slice f0 R.fes.length f1) (.slice c0 R.cls.length c1) (.int .i64 R.hits)).cells
        refine bodyPost_ret (v := .agg #[.int .i64 R.now,.slice e0 R.ents.length e1,.slice x0 R.pol.win.length x1,.slice m0 R.pol.main.length m1,.slice k0 R.pol.sk.rows.length k1,.int .i64 R.pol.sk.added,.slice f0 R.fes.length f1,.slice c0 R.cls.length c1,.int .i64 R.hits]) (by simp [results,Tryz.results16,go_sem,q0,q1,q2,q3,q4,q5,q6,q7,q8]) rfl ⟨⟨.slice e0 R.ents.length e1,.slice x0 R.pol.win.length x1,.slice m0 R.pol.main.length m1,.slice k0 R.pol.sk.rows.length k1,.slice f0 R.fes.length f1,.slice c0 R.cls.length c1⟩,rfl, ?_,HBF.out⟩
        refine PxOwn.mono HOA.out (by have := HAA.out; omega) ?_
        simp
end Go.Proofs.YtaahjcljanckaaaGreatDoor
