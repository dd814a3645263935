/- Texts that stand in one: OkWgt, AskSz, AskForWalk. -/
import Derived.Test.YtpgcfgbhkodmeaaGreatDoorDiskPlainJ
import Derived.Test.YtpgcfgbhkodmeaaGreatDoorToEndJ
import Derived.Test.YtpgcfgbhkodmeaaGreatDoorPvMoreJ
import Derived.Test.YtpgcfgbhkodmeaaGreatDoorPrxMarkJ
import Derived.Test.YtpgcfgbhkodmeaaGreatDoorAskForI
import Derived.Test.YtpgcfgbhkodmeaaGreatDoorAskForS
import Derived.Test.YtpgcfgbhkodmeaaGreatDoorSumTabJ
import Derived.Deep.RegionHeld3
namespace Go.Proofs.YtpgcfgbhkodmeaaGreatDoor
open Go.RowKit Go.Sort
theorem ewg_le {b : Nat} : ∀ {L : List En},(∀ e ∈ L,e.wg ≤ b) → ewg L ≤ L.length * b
 | [],_ => Nat.zero_le _
 | a :: r,h => by
  have h1 := ewg_le (fun e he => h e (List.mem_cons_of_mem _ he))
  have h2 := h a (by simp)
  simp only [ewg,List.length_cons,Nat.succ_mul]
  omega
theorem ftwg_le {b : Nat} : ∀ {L : List Fet},(∀ e ∈ L,e.wg ≤ b) → ftwg L ≤ L.length * b
 | [],_ => Nat.zero_le _
 | a :: r,h => by
  have h1 := ftwg_le (fun e he => h e (List.mem_cons_of_mem _ he))
  have h2 := h a (by simp)
  simp only [ftwg,List.length_cons,Nat.succ_mul]
  omega
theorem clwg_le {b : Nat} : ∀ {L : List Cli},(∀ e ∈ L,e.wg ≤ b) → clwg L ≤ L.length * b
 | [],_ => Nat.zero_le _
 | a :: r,h => by
  have h1 := clwg_le (fun e he => h e (List.mem_cons_of_mem _ he))
  have h2 := h a (by simp)
  simp only [clwg,List.length_cons,Nat.succ_mul]
  omega
theorem enKey_sz {s : ByteArray} (h : enKey s = true) : s.size ≤ 30 := by
 unfold enKey at h
 rw [decide_eq_true_eq] at h
 exact h.2
theorem okX_wgt {R : Prx} (h : okX R = true) : wgtX R ≤ 20000 ∧ ewg R.ents ≤ 2600 ∧ ftwg R.fes ≤ 8600 ∧ clwg R.cls ≤ 2600 := by
 have H := okX_iff.1 h
 have hp := okP_wgt H.pol
 obtain ⟨_,_,_,_,_,hw,hm,_⟩ := okP_iff.1 H.pol
 have he := ewg_le (b := 430) (L := R.ents) (fun e he => by
  obtain ⟨h1,_,_,h4⟩ := enOk_iff.1 (H.ents e he)
  unfold En.wg; omega)
 have hf := ftwg_le (b := 430) (L := R.fes) (fun e he => by
  obtain ⟨h1,h2,_⟩ := H.fes e he
  have := enKey_sz h1
  unfold Fet.wg; omega)
 have hc := clwg_le (b := 430) (L := R.cls) (fun e he => by
  obtain ⟨_,h1,_,h2,_⟩ := H.cls e he
  have := enKey_sz h1
  unfold Cli.wg; omega)
 have l1 := H.len
 have l2 := H.flen
 have l3 := H.clen
 have e1 : R.ents.length * 430 ≤ 6 * 430 := Nat.mul_le_mul_right _ (by omega)
 have e2 : R.fes.length * 430 ≤ 20 * 430 := Nat.mul_le_mul_right _ (by omega)
 have e3 : R.cls.length * 430 ≤ 6 * 430 := Nat.mul_le_mul_right _ (by omega)
 unfold wgtX
 omega
theorem may_key {P : Prx} {id : Int} {key : ByteArray} (h : mayB P id key = true) : enKey key = true := by
 unfold mayB at h
 simp only [Bool.and_eq_true] at h
 exact h.2.2.1
theorem waitP_ok {P : Pol} (key : ByteArray) (h : okP P = true) : okP (waitP P key) = true := by
 obtain ⟨h1,h2,h3,h4,h5,h6,h7,h8⟩ := okP_iff.1 h
 refine okP_iff.2 ⟨fun z hz => h1 z (List.mem_filter.1 hz).1,fun z hz => h2 z (List.mem_filter.1 hz).1,h3.filter _,h4.filter _,fun z hz hz' => h5 z (List.mem_filter.1 hz).1 (List.mem_filter.1 hz').1, ?_, ?_,bumpS_ok key h8⟩
 ·exact Nat.le_trans (List.length_filter_le _ _) h6
 ·exact Nat.le_trans (List.length_filter_le _ _) h7
theorem insC_len (L : List Cli) (c : Cli) : (insC L c).length ≤ 2 * L.length + 1 := by
 unfold insC
 rw [List.length_append,List.length_cons]
 have h1 := List.length_filter_le (fun x : Cli => decide (x.id < c.id)) L
 have h2 := List.length_filter_le (fun x : Cli => decide (c.id < x.id)) L
 omega
theorem insC_mem {L : List Cli} {c x : Cli} (h : x ∈ insC L c) : x ∈ L ∨ x = c := by
 unfold insC at h
 rw [List.mem_append,List.mem_cons] at h
 rcases h with h | h | h
 ·exact .inl (List.mem_filter.1 h).1
 ·exact .inr h
 ·exact .inl (List.mem_filter.1 h).1
theorem askR_sz (id : Int) (key : ByteArray) {P : Prx} (h : PxSz P) : PxSz (askR P id key).1 := by
 cases hm : mayB P id key with
 | false => rw [askR_no hm]; exact h
 | true =>
  have H := may_ok hm
  have hok := okX_iff.2 H
  obtain ⟨hw,hwe,hwf,hwc⟩ := okX_wgt hok
  have hkey := enKey_sz (may_key hm)
  have hcw : ∀ c ∈ P.cls,c.wg ≤ 430 := fun c hc => by
   obtain ⟨_,h1,_,h2,_⟩ := H.cls c hc
   have := enKey_sz h1
   unfold Cli.wg; omega
  have l3 := H.clen
  have l2 := H.flen
  have l1 := ents_six H
  have hcl : ∀ c : Cli,c.wg ≤ 430 → (insC P.cls c).length ≤ 13 ∧ clwg (insC P.cls c) ≤ 13 * 430 := fun c hc => by
   have a1 := insC_len P.cls c
   have a2 := clwg_le (b := 430) (L := insC P.cls c) (fun x hx => by
    rcases insC_mem hx with hx | rfl
    ·exact hcw x hx
    ·exact hc)
   have a3 : (insC P.cls c).length * 430 ≤ 13 * 430 := Nat.mul_le_mul_right _ (by omega)
   exact ⟨Nat.le_trans a1 (by omega),Nat.le_trans a2 a3⟩
  cases hh : hitB P key with
  | true =>
   rw [askR_hit hm hh]
   have hbd : (entAtX P.ents key).1.bd.size ≤ 400 := by
    have hf : enFresh (entAtX P.ents key).1 P.now = true := by
     unfold hitB at hh
     rw [Bool.and_eq_true] at hh
     exact hh.2
    exact (enOk_iff.1 (fresh_st hf).1).2.2.2
   obtain ⟨b1,b2⟩ := hcl (hitC P id key) (by unfold Cli.wg hitC; dsimp only; omega)
   have b3 := okP_wgt (touchP_right H.pol (show keyOk key = true from by have := may_key hm; unfold enKey at this; unfold keyOk; exact this)).1
   unfold PxSz hitR
   unfold wgtX at hw ⊢
   dsimp only
   omega
  | false =>
   by_cases h20 : askAt P key = 20
   ·rw [askR_full hm hh h20]; exact h
   ·rw [askR_wait hm hh h20]
    have hfm : ∀ f ∈ waitF P.fes key (askAt P key),f.wg ≤ 430 := fun f hf => by
     have hin : f ∈ P.fes ∨ f = newF key := by
      unfold waitF at hf
      split at hf
      ·rw [List.mem_append,List.mem_singleton] at hf; exact hf
      ·exact .inl hf
     rcases hin with hf | rfl
     ·obtain ⟨h1,h2,_⟩ := H.fes f hf
      have := enKey_sz h1
      unfold Fet.wg; omega
     ·show key.size + 0 ≤ 430
      omega
    have hfl : (waitF P.fes key (askAt P key)).length ≤ 21 := by
     unfold waitF
     split
     ·rw [List.length_append]; simp; omega
     ·omega
    have c1 := ftwg_le (b := 430) hfm
    have c2 : (waitF P.fes key (askAt P key)).length * 430 ≤ 21 * 430 := Nat.mul_le_mul_right _ hfl
    have htx : (waitC P.fes id key (askAt P key)).wg ≤ 430 := by
     show key.size + ((waitF P.fes key (askAt P key)).getD (askAt P key) zFet).tx.size ≤ 430
     by_cases hlt : askAt P key < (waitF P.fes key (askAt P key)).length
     ·rw [getD_of hlt]
      have hmem := List.getElem_mem hlt
      have hin : (waitF P.fes key (askAt P key))[askAt P key] ∈ P.fes ∨ (waitF P.fes key (askAt P key))[askAt P key] = newF key := by
       unfold waitF at hmem
       split at hmem
       ·rename_i hx
        unfold waitF at hlt ⊢
        simp only [hx,if_true] at hmem hlt ⊢
        rw [List.mem_append,List.mem_singleton] at hmem
        exact hmem
       ·rename_i hx
        unfold waitF at hlt ⊢
        simp only [hx,if_false] at hmem hlt ⊢
        exact .inl hmem
      rcases hin with hf | hf
      ·have := (H.fes _ hf).2.1
       omega
      ·rw [hf]
       show key.size + 0 ≤ 430
       omega
     ·rw [List.getD_eq_getElem?_getD,List.getElem?_eq_none (by omega)]
      show key.size + 0 ≤ 430
      omega
    obtain ⟨b1,b2⟩ := hcl (waitC P.fes id key (askAt P key)) htx
    have b3 := okP_wgt (waitP_ok key H.pol)
    have d1 : (offE P.ents key).length ≤ P.ents.length := List.length_filter_le _ _
    have d2 := ewg_le (b := 430) (L := offE P.ents key) (fun e he => by
     obtain ⟨h1,_,_,h4⟩ := enOk_iff.1 (H.ents e (List.mem_filter.1 he).1)
     unfold En.wg; omega)
    have d3 : (offE P.ents key).length * 430 ≤ 6 * 430 := Nat.mul_le_mul_right _ (by omega)
    unfold PxSz waitR
    unfold wgtX
    dsimp only
    omega
set_option maxRecDepth 100000 in
set_option maxHeartbeats 8000000 in
theorem askFor_walk (a : Pc) (P : Prx) (id : Int) (key : ByteArray) (w : World) (hE : PxAt w a P w.heap.size) (hm : PxM P) (_hid : (Lit.int .i64 id).wf = true) (hkw : key.size ≤ maxLen) (ht : Tab w) :
  Calls Tryz.prog 4 #[.agg #[.int .i64 P.now,a.e,a.w,a.m,a.k,.int .i64 P.pol.sk.added,a.f,a.c,.int .i64 P.hits],.int .i64 id,.string key] w fun e w' => e = .returned (.bool true) ∧ Below w.heap.size w w' := by
 obtain ⟨wb,hwb⟩ : ∃ wb,w.alloc (.cells #[.int .i64 P.now,a.e,a.w,a.m,a.k,.int .i64 P.pol.sk.added,a.f,a.c,.int .i64 P.hits] 32) = wb := ⟨_,rfl⟩
 have hb : Below w.heap.size w wb := by rw [← hwb]; exact (Below.refl _ _).alloc (Nat.le_refl _) _
 have hbs : w.heap.size < wb.heap.size := by rw [← hwb]; simp
 have hK_wb : NB wb w.heap.size 32 (.int .i64 P.now) a.e a.w a.m a.k (.int .i64 P.pol.sk.added) a.f a.c (.int .i64 P.hits) := by rw [← hwb]; exact NB.new _ _ _ _ _ _ _ _ _ _ _
 have hE_wb : PxAt wb a P wb.heap.size := hE.on hb
 have hw_wb : Below w.heap.size w wb := hb
 have hB_wb : Below wb.heap.size wb wb := Below.refl _ _
 have HB : Hid (∀ wi,Below wb.heap.size wb wi → NB wi w.heap.size 32 (.int .i64 P.now) a.e a.w a.m a.k (.int .i64 P.pol.sk.added) a.f a.c (.int .i64 P.hits) ∧ PxAt wi a P wi.heap.size ∧ Below w.heap.size w wi) := fun wi hi => ⟨hK_wb.on hi,hE_wb.on hi,hb.trans (hi.mono hb.size)⟩
 have HTB : Hid (∀ wi,Below wb.heap.size wb wi → Tab wi) := fun wi hi => (ht.below hb (Nat.le_refl _)).below hi (Nat.le_refl _)
 have c0 := szProxy_any wb a P hE_wb hm
 have HW : Hid (w.alloc (.cells #[.int .i64 P.now,a.e,a.w,a.m,a.k,.int .i64 P.pol.sk.added,a.f,a.c,.int .i64 P.hits] 32) = wb) := hwb
 obtain ⟨b0,b1,b2,b3,b4,b5,b6,b7,b8⟩ := hK_wb.cells
 rw [← hwb] at b0 b1 b2 b3 b4 b5 b6 b7 b8
 clear hwb hE hb ht
 go_enter Tryz.func4,Tryz.ntmps4
 have hksz : key.size ≤ 9223372036854775807 := by unfold maxLen at hkw; omega
 by_cases hkl : 1048576 < key.size
 ·have hkl2 : (1048576 : Int) < (key.size : Int) := by omega
  clear hkw
  go_wp2_with fail
  go_ret
  exact ⟨rfl,by rw [HW.out]; exact hw_wb⟩
 have hkl2 : ¬ (1048576 : Int) < (key.size : Int) := by omega
 have hk : key.size ≤ 1048576 := by omega
 clear hkw hkl
 go_wp2_with fail
 rw [HW.out] at b0 b1 b2 b3 b4 b5 b6 b7 b8 ⊢
 refine c0.mono ?_
 rintro e w1 ⟨r,rfl,hr,hb1⟩
 clear c0 b0 b1 b2 b3 b4 b5 b6 b7 b8
 have hB_w1 : Below wb.heap.size wb w1 := hB_wb.trans (hb1.mono hB_wb.size)
 obtain ⟨hK_w1,hE_w1,hw_w1⟩ := HB.out w1 hB_w1
 clear hK_wb hE_wb hw_wb hB_wb
 rcases hr with rfl | ⟨hr0,hsz⟩
 ·go_wp2_with fail
  go_ret
  exact ⟨rfl,hw_w1⟩
 have hr2 : ¬ r < 0 := by omega
 clear hr0 hm
 obtain ⟨⟨RES,OO⟩,hRES⟩ : ∃ R,askR P id key = R := ⟨_,rfl⟩
 have hRl : PxSz RES := by have h0 := askR_sz id key hsz; rw [hRES] at h0; exact h0
 have CS : Hid (∀ (wi : World) (a1 : Pc),PxAt wi a1 P wi.heap.size → Calls Tryz.prog 11 #[.agg #[.int .i64 P.now,a1.e,a1.w,a1.m,a1.k,.int .i64 P.pol.sk.added,a1.f,a1.c,.int .i64 P.hits],.int .i64 id,.string key] wi fun e w' => ∃ Y : Pc,e = .returned (.tuple #[.agg #[.int .i64 RES.now,Y.e,Y.w,Y.m,Y.k,.int .i64 RES.pol.sk.added,Y.f,Y.c,.int .i64 RES.hits],.int .i64 OO]) ∧ PxOwn w' wi.heap.size w'.heap.size Y RES ∧ Below wi.heap.size wi w') := by intro wi a1 h; have h0 := specAskFor_any wi a1 P id key h hsz (by omega); rw [hRES] at h0; exact h0
 have CI : Hid (∀ (wi : World) (a1 : Pc),PxAt wi a1 P wi.heap.size → RoomF a1.f P.fes.length → Tab wi → Calls Tryz.prog 13 #[.agg #[.int .i64 P.now,a1.e,a1.w,a1.m,a1.k,.int .i64 P.pol.sk.added,a1.f,a1.c,.int .i64 P.hits],.int .i64 id,.string key] wi fun e w' => ∃ Y : Pc,e = .returned (.tuple #[.agg #[.int .i64 RES.now,Y.e,Y.w,Y.m,Y.k,.int .i64 RES.pol.sk.added,Y.f,Y.c,.int .i64 RES.hits],.int .i64 OO]) ∧ PxOwn w' wi.heap.size w'.heap.size Y RES ∧ Below wi.heap.size wi w') := by intro wi a1 h hrm ht; have h0 := implAskFor_any wi a1 P id key h hsz hrm (by omega) ht; rw [hRES] at h0; exact h0
 clear hRES
 obtain ⟨b0,b1,b2,b3,b4,b5,b6,b7,b8⟩ := hK_w1.cells
 go_wp2_with fail
 refine (toProxy_any w1 a P hE_w1 hsz).mono ?_
 rintro e w2 ⟨Y_,he_,how2,hbw2⟩
 obtain ⟨aw2e0,aw2e1,aw2w0,aw2w1,aw2m0,aw2m1,aw2k0,aw2k1,aw2f0,aw2f1,aw2c0,aw2c1,rfl⟩ := how2.slices
 dsimp only at he_
 subst he_
 have hAw2 := how2.at
 clear b0 b1 b2 b3 b4 b5 b6 b7 b8
 have hB_w2 : Below wb.heap.size wb w2 := hB_w1.trans (hbw2.mono hB_w1.size)
 obtain ⟨hK_w2,hE_w2,hw_w2⟩ := HB.out w2 hB_w2
 clear hK_w1 hE_w1 hw_w1 hB_w1
 have cS := CS.out w2 ⟨.slice aw2e0 P.ents.length aw2e1,.slice aw2w0 P.pol.win.length aw2w1,.slice aw2m0 P.pol.main.length aw2m1,.slice aw2k0 P.pol.sk.rows.length aw2k1,.slice aw2f0 P.fes.length aw2f1,.slice aw2c0 P.cls.length aw2c1⟩ hAw2
 go_wp2_with fail
 refine cS.mono ?_
 rintro e w3 ⟨Y_,he_,how3,hbw3⟩
 obtain ⟨aw3e0,aw3e1,aw3w0,aw3w1,aw3m0,aw3m1,aw3k0,aw3k1,aw3f0,aw3f1,aw3c0,aw3c1,rfl⟩ := how3.slices
 dsimp only at he_
 subst he_
 clear cS how2 hAw2
 have hB_w3 : Below wb.heap.size wb w3 := hB_w2.trans (hbw3.mono hB_w2.size)
 obtain ⟨hK_w3,hE_w3,hw_w3⟩ := HB.out w3 hB_w3
 clear hK_w2 hE_w2 hw_w2 hB_w2
 obtain ⟨w4,hw4⟩ : ∃ x,w3.alloc (.cells #[.int .i64 RES.now,.slice aw3e0 RES.ents.length aw3e1,.slice aw3w0 RES.pol.win.length aw3w1,.slice aw3m0 RES.pol.main.length aw3m1,.slice aw3k0 RES.pol.sk.rows.length aw3k1,.int .i64 RES.pol.sk.added,.slice aw3f0 RES.fes.length aw3f1,.slice aw3c0 RES.cls.length aw3c1,.int .i64 RES.hits] 48) = x := ⟨_,rfl⟩
 have hbw4 : Below w3.heap.size w3 w4 := by rw [← hw4]; exact (Below.refl _ _).alloc (Nat.le_refl _) _
 have evP_w4 : PXV w4 w2.heap.size w3.heap.size ⟨.slice aw3e0 RES.ents.length aw3e1,.slice aw3w0 RES.pol.win.length aw3w1,.slice aw3m0 RES.pol.main.length aw3m1,.slice aw3k0 RES.pol.sk.rows.length aw3k1,.slice aw3f0 RES.fes.length aw3f1,.slice aw3c0 RES.cls.length aw3c1⟩ RES := by rw [← hw4]; exact PXV.new how3 hbw3.size
 have sw4 : w4.heap.size = w3.heap.size + 1 := by rw [← hw4]; simp
 have HWw4 : Hid (w3.alloc (.cells #[.int .i64 RES.now,.slice aw3e0 RES.ents.length aw3e1,.slice aw3w0 RES.pol.win.length aw3w1,.slice aw3m0 RES.pol.main.length aw3m1,.slice aw3k0 RES.pol.sk.rows.length aw3k1,.int .i64 RES.pol.sk.added,.slice aw3f0 RES.fes.length aw3f1,.slice aw3c0 RES.cls.length aw3c1,.int .i64 RES.hits] 48) = w4) := hw4
 have hB_w4 : Below wb.heap.size wb w4 := hB_w3.trans (hbw4.mono hB_w3.size)
 obtain ⟨hK_w4,hE_w4,hw_w4⟩ := HB.out w4 hB_w4
 clear hK_w3 hE_w3 hw_w3 hB_w3
 obtain ⟨b0,b1,b2,b3,b4,b5,b6,b7,b8⟩ := hK_w4.cells
 obtain ⟨p0,p1,p2,p3,p4,p5,p6,p7,p8⟩ := evP_w4.box.cells
 rw [← hw4] at b0 b1 b2 b3 b4 b5 b6 b7 b8 p0 p1 p2 p3 p4 p5 p6 p7 p8
 clear hw4
 go_wp2_with fail
 rw [HWw4.out] at b0 b1 b2 b3 b4 b5 b6 b7 b8 p0 p1 p2 p3 p4 p5 p6 p7 p8 ⊢
 refine (toProxy_any w4 a P hE_w4 hsz).mono ?_
 rintro e w5 ⟨Y_,he_,how5,hbw5⟩
 obtain ⟨aw5e0,aw5e1,aw5w0,aw5w1,aw5m0,aw5m1,aw5k0,aw5k1,aw5f0,aw5f1,aw5c0,aw5c1,rfl⟩ := how5.slices
 dsimp only at he_
 subst he_
 have hAw5 := how5.at
 clear b0 b1 b2 b3 b4 b5 b6 b7 b8 p0 p1 p2 p3 p4 p5 p6 p7 p8
 have hB_w5 : Below wb.heap.size wb w5 := hB_w4.trans (hbw5.mono hB_w4.size)
 obtain ⟨hK_w5,hE_w5,hw_w5⟩ := HB.out w5 hB_w5
 have evP_w5 := evP_w4.on hbw5
 clear hK_w4 hE_w4 hw_w4 hB_w4 evP_w4
 obtain ⟨w6,hw6⟩ : ∃ x,w5.alloc (.cells #[.int .i64 P.now,.slice aw5e0 P.ents.length aw5e1,.slice aw5w0 P.pol.win.length aw5w1,.slice aw5m0 P.pol.main.length aw5m1,.slice aw5k0 P.pol.sk.rows.length aw5k1,.int .i64 P.pol.sk.added,.slice aw5f0 P.fes.length aw5f1,.slice aw5c0 P.cls.length aw5c1,.int .i64 P.hits] 48) = x := ⟨_,rfl⟩
 have hbw6 : Below w5.heap.size w5 w6 := by rw [← hw6]; exact (Below.refl _ _).alloc (Nat.le_refl _) _
 have evX_w6 : PXV w6 w4.heap.size w5.heap.size ⟨.slice aw5e0 P.ents.length aw5e1,.slice aw5w0 P.pol.win.length aw5w1,.slice aw5m0 P.pol.main.length aw5m1,.slice aw5k0 P.pol.sk.rows.length aw5k1,.slice aw5f0 P.fes.length aw5f1,.slice aw5c0 P.cls.length aw5c1⟩ P := by rw [← hw6]; exact PXV.new how5 hbw5.size
 have sw6 : w6.heap.size = w5.heap.size + 1 := by rw [← hw6]; simp
 have HWw6 : Hid (w5.alloc (.cells #[.int .i64 P.now,.slice aw5e0 P.ents.length aw5e1,.slice aw5w0 P.pol.win.length aw5w1,.slice aw5m0 P.pol.main.length aw5m1,.slice aw5k0 P.pol.sk.rows.length aw5k1,.int .i64 P.pol.sk.added,.slice aw5f0 P.fes.length aw5f1,.slice aw5c0 P.cls.length aw5c1,.int .i64 P.hits] 48) = w6) := hw6
 have hB_w6 : Below wb.heap.size wb w6 := hB_w5.trans (hbw6.mono hB_w5.size)
 obtain ⟨hK_w6,hE_w6,hw_w6⟩ := HB.out w6 hB_w6
 have evP_w6 := evP_w5.on hbw6
 clear hK_w5 hE_w5 hw_w5 hB_w5 evP_w5
 obtain ⟨b0,b1,b2,b3,b4,b5,b6,b7,b8⟩ := hK_w6.cells
 obtain ⟨p0,p1,p2,p3,p4,p5,p6,p7,p8⟩ := evP_w6.box.cells
 obtain ⟨x0,x1,x2,x3,x4,x5,x6,x7,x8⟩ := evX_w6.box.cells
 rw [← hw6] at b0 b1 b2 b3 b4 b5 b6 b7 b8 p0 p1 p2 p3 p4 p5 p6 p7 p8 x0 x1 x2 x3 x4 x5 x6 x7 x8
 clear hw6
 have cI := CI.out w6 ⟨.slice aw5e0 P.ents.length aw5e1,.slice aw5w0 P.pol.win.length aw5w1,.slice aw5m0 P.pol.main.length aw5m1,.slice aw5k0 P.pol.sk.rows.length aw5k1,.slice aw5f0 P.fes.length aw5f1,.slice aw5c0 P.cls.length aw5c1⟩ evX_w6.at evX_w6.own.roomF (HTB.out _ hB_w6)
 go_wp2_with fail
 rw [HWw6.out] at b0 b1 b2 b3 b4 b5 b6 b7 b8 p0 p1 p2 p3 p4 p5 p6 p7 p8 x0 x1 x2 x3 x4 x5 x6 x7 x8 ⊢
 refine cI.mono ?_
 rintro e w7 ⟨Y_,he_,how7,hbw7⟩
 obtain ⟨aw7e0,aw7e1,aw7w0,aw7w1,aw7m0,aw7m1,aw7k0,aw7k1,aw7f0,aw7f1,aw7c0,aw7c1,rfl⟩ := how7.slices
 dsimp only at he_
 subst he_
 clear cI
 clear b0 b1 b2 b3 b4 b5 b6 b7 b8 p0 p1 p2 p3 p4 p5 p6 p7 p8 x0 x1 x2 x3 x4 x5 x6 x7 x8
 have hB_w7 : Below wb.heap.size wb w7 := hB_w6.trans (hbw7.mono hB_w6.size)
 obtain ⟨hK_w7,hE_w7,hw_w7⟩ := HB.out w7 hB_w7
 have evP_w7 := evP_w6.on hbw7
 have evX_w7 := evX_w6.on hbw7
 clear hK_w6 hE_w6 hw_w6 hB_w6 evP_w6 evX_w6
 obtain ⟨w8,hw8⟩ : ∃ x,w7.alloc (.cells #[.int .i64 RES.now,.slice aw7e0 RES.ents.length aw7e1,.slice aw7w0 RES.pol.win.length aw7w1,.slice aw7m0 RES.pol.main.length aw7m1,.slice aw7k0 RES.pol.sk.rows.length aw7k1,.int .i64 RES.pol.sk.added,.slice aw7f0 RES.fes.length aw7f1,.slice aw7c0 RES.cls.length aw7c1,.int .i64 RES.hits] 48) = x := ⟨_,rfl⟩
 have hbw8 : Below w7.heap.size w7 w8 := by rw [← hw8]; exact (Below.refl _ _).alloc (Nat.le_refl _) _
 have evQ_w8 : PXV w8 w6.heap.size w7.heap.size ⟨.slice aw7e0 RES.ents.length aw7e1,.slice aw7w0 RES.pol.win.length aw7w1,.slice aw7m0 RES.pol.main.length aw7m1,.slice aw7k0 RES.pol.sk.rows.length aw7k1,.slice aw7f0 RES.fes.length aw7f1,.slice aw7c0 RES.cls.length aw7c1⟩ RES := by rw [← hw8]; exact PXV.new how7 hbw7.size
 have sw8 : w8.heap.size = w7.heap.size + 1 := by rw [← hw8]; simp
 have HWw8 : Hid (w7.alloc (.cells #[.int .i64 RES.now,.slice aw7e0 RES.ents.length aw7e1,.slice aw7w0 RES.pol.win.length aw7w1,.slice aw7m0 RES.pol.main.length aw7m1,.slice aw7k0 RES.pol.sk.rows.length aw7k1,.int .i64 RES.pol.sk.added,.slice aw7f0 RES.fes.length aw7f1,.slice aw7c0 RES.cls.length aw7c1,.int .i64 RES.hits] 48) = w8) := hw8
 have hB_w8 : Below wb.heap.size wb w8 := hB_w7.trans (hbw8.mono hB_w7.size)
 obtain ⟨hK_w8,hE_w8,hw_w8⟩ := HB.out w8 hB_w8
 have evP_w8 := evP_w7.on hbw8
 have evX_w8 := evX_w7.on hbw8
 clear hK_w7 hE_w7 hw_w7 hB_w7 evP_w7 evX_w7
 obtain ⟨b0,b1,b2,b3,b4,b5,b6,b7,b8⟩ := hK_w8.cells
 obtain ⟨p0,p1,p2,p3,p4,p5,p6,p7,p8⟩ := evP_w8.box.cells
 obtain ⟨x0,x1,x2,x3,x4,x5,x6,x7,x8⟩ := evX_w8.box.cells
 obtain ⟨q0,q1,q2,q3,q4,q5,q6,q7,q8⟩ := evQ_w8.box.cells
 rw [← hw8] at b0 b1 b2 b3 b4 b5 b6 b7 b8 p0 p1 p2 p3 p4 p5 p6 p7 p8 x0 x1 x2 x3 x4 x5 x6 x7 x8 q0 q1 q2 q3 q4 q5 q6 q7 q8
 clear hw8
 have ES : Hid (wb.heap.size ≤ w1.heap.size ∧ w1.heap.size ≤ w2.heap.size ∧ w2.heap.size ≤ w3.heap.size ∧ w4.heap.size = w3.heap.size + 1 ∧ w4.heap.size ≤ w5.heap.size ∧ w6.heap.size = w5.heap.size + 1 ∧ w6.heap.size ≤ w7.heap.size ∧ w8.heap.size = w7.heap.size + 1) := ⟨hb1.size,hbw2.size,hbw3.size,sw4,hbw5.size,sw6,hbw7.size,sw8⟩
 clear sw4 sw6 sw8 hb1 hbw2 hbw3 hbw4 hbw5 hbw6 hbw7 hbw8 how3 how5 how7 hAw5
 go_wp2_with fail
 rw [HWw8.out] at b0 b1 b2 b3 b4 b5 b6 b7 b8 p0 p1 p2 p3 p4 p5 p6 p7 p8 x0 x1 x2 x3 x4 x5 x6 x7 x8 q0 q1 q2 q3 q4 q5 q6 q7 q8 ⊢
 refine (eqProxy_same w8 ⟨.slice aw7e0 RES.ents.length aw7e1,.slice aw7w0 RES.pol.win.length aw7w1,.slice aw7m0 RES.pol.main.length aw7m1,.slice aw7k0 RES.pol.sk.rows.length aw7k1,.slice aw7f0 RES.fes.length aw7f1,.slice aw7c0 RES.cls.length aw7c1⟩ ⟨.slice aw3e0 RES.ents.length aw3e1,.slice aw3w0 RES.pol.win.length aw3w1,.slice aw3m0 RES.pol.main.length aw3m1,.slice aw3k0 RES.pol.sk.rows.length aw3k1,.slice aw3f0 RES.fes.length aw3f1,.slice aw3c0 RES.cls.length aw3c1⟩ RES evQ_w8.at evP_w8.at hRl).mono ?_
 rintro e w9 ⟨rfl,hbw9⟩
 clear b0 b1 b2 b3 b4 b5 b6 b7 b8 p0 p1 p2 p3 p4 p5 p6 p7 p8 x0 x1 x2 x3 x4 x5 x6 x7 x8 q0 q1 q2 q3 q4 q5 q6 q7 q8
 have hB_w9 : Below wb.heap.size wb w9 := hB_w8.trans (hbw9.mono hB_w8.size)
 obtain ⟨hK_w9,hE_w9,hw_w9⟩ := HB.out w9 hB_w9
 have evP_w9 := evP_w8.on hbw9
 have evX_w9 := evX_w8.on hbw9
 have evQ_w9 := evQ_w8.on hbw9
 clear hK_w8 hE_w8 hw_w8 hB_w8 evP_w8 evX_w8 evQ_w8
 obtain ⟨b0,b1,b2,b3,b4,b5,b6,b7,b8⟩ := hK_w9.cells
 obtain ⟨p0,p1,p2,p3,p4,p5,p6,p7,p8⟩ := evP_w9.box.cells
 obtain ⟨x0,x1,x2,x3,x4,x5,x6,x7,x8⟩ := evX_w9.box.cells
 obtain ⟨q0,q1,q2,q3,q4,q5,q6,q7,q8⟩ := evQ_w9.box.cells
 have KS : ∀ W,Below w9.heap.size w9 W → Below w9.heap.size w9 W ∧ W.cell? ⟨w5.heap.size, 0,none⟩ = some (.int .i64 P.now) ∧ W.cell? ⟨w5.heap.size, 1,none⟩ = some (.slice aw5e0 P.ents.length aw5e1) ∧ W.cell? ⟨w5.heap.size, 2,none⟩ = some (.slice aw5w0 P.pol.win.length aw5w1) ∧ W.cell? ⟨w5.heap.size, 3,none⟩ = some (.slice aw5m0 P.pol.main.length aw5m1) ∧ W.cell? ⟨w5.heap.size, 4,none⟩ = some (.slice aw5k0 P.pol.sk.rows.length aw5k1) ∧ W.cell? ⟨w5.heap.size, 5,none⟩ = some (.int .i64 P.pol.sk.added) ∧ W.cell? ⟨w5.heap.size, 6,none⟩ = some (.slice aw5f0 P.fes.length aw5f1) ∧ W.cell? ⟨w5.heap.size, 7,none⟩ = some (.slice aw5c0 P.cls.length aw5c1) ∧ W.cell? ⟨w5.heap.size, 8,none⟩ = some (.int .i64 P.hits) ∧ W.cell? ⟨w.heap.size, 0,none⟩ = some (.int .i64 P.now) ∧ W.cell? ⟨w.heap.size, 1,none⟩ = some a.e ∧ W.cell? ⟨w.heap.size, 2,none⟩ = some a.w ∧ W.cell? ⟨w.heap.size, 3,none⟩ = some a.m ∧ W.cell? ⟨w.heap.size, 4,none⟩ = some a.k ∧ W.cell? ⟨w.heap.size, 5,none⟩ = some (.int .i64 P.pol.sk.added) ∧ W.cell? ⟨w.heap.size, 6,none⟩ = some a.f ∧ W.cell? ⟨w.heap.size, 7,none⟩ = some a.c ∧ W.cell? ⟨w.heap.size, 8,none⟩ = some (.int .i64 P.hits) := fun W h => ⟨h,(h.cell (World.block_lt_of_cell? w9 _ x0)).trans x0,(h.cell (World.block_lt_of_cell? w9 _ x1)).trans x1,(h.cell (World.block_lt_of_cell? w9 _ x2)).trans x2,(h.cell (World.block_lt_of_cell? w9 _ x3)).trans x3,(h.cell (World.block_lt_of_cell? w9 _ x4)).trans x4,(h.cell (World.block_lt_of_cell? w9 _ x5)).trans x5,(h.cell (World.block_lt_of_cell? w9 _ x6)).trans x6,(h.cell (World.block_lt_of_cell? w9 _ x7)).trans x7,(h.cell (World.block_lt_of_cell? w9 _ x8)).trans x8,(h.cell (World.block_lt_of_cell? w9 _ b0)).trans b0,(h.cell (World.block_lt_of_cell? w9 _ b1)).trans b1,(h.cell (World.block_lt_of_cell? w9 _ b2)).trans b2,(h.cell (World.block_lt_of_cell? w9 _ b3)).trans b3,(h.cell (World.block_lt_of_cell? w9 _ b4)).trans b4,(h.cell (World.block_lt_of_cell? w9 _ b5)).trans b5,(h.cell (World.block_lt_of_cell? w9 _ b6)).trans b6,(h.cell (World.block_lt_of_cell? w9 _ b7)).trans b7,(h.cell (World.block_lt_of_cell? w9 _ b8)).trans b8⟩
 have hdr : Below w9.heap.size w9 w9.drew := ⟨rfl,rfl,rfl,Nat.le_refl _,fun _ _ => rfl⟩
 have HT : Hid (∀ W,Below w9.heap.size w9 W → PxAt W a P W.heap.size ∧ PxAt W ⟨.slice aw5e0 P.ents.length aw5e1,.slice aw5w0 P.pol.win.length aw5w1,.slice aw5m0 P.pol.main.length aw5m1,.slice aw5k0 P.pol.sk.rows.length aw5k1,.slice aw5f0 P.fes.length aw5f1,.slice aw5c0 P.cls.length aw5c1⟩ P W.heap.size) := fun W h => ⟨hE_w9.on h,evX_w9.at.on h⟩
 go_wp2_with fail
 go_region_held3 (fun W => Below w9.heap.size w9 W ∧ W.cell? ⟨w5.heap.size, 0,none⟩ = some (.int .i64 P.now) ∧ W.cell? ⟨w5.heap.size, 1,none⟩ = some (.slice aw5e0 P.ents.length aw5e1) ∧ W.cell? ⟨w5.heap.size, 2,none⟩ = some (.slice aw5w0 P.pol.win.length aw5w1) ∧ W.cell? ⟨w5.heap.size, 3,none⟩ = some (.slice aw5m0 P.pol.main.length aw5m1) ∧ W.cell? ⟨w5.heap.size, 4,none⟩ = some (.slice aw5k0 P.pol.sk.rows.length aw5k1) ∧ W.cell? ⟨w5.heap.size, 5,none⟩ = some (.int .i64 P.pol.sk.added) ∧ W.cell? ⟨w5.heap.size, 6,none⟩ = some (.slice aw5f0 P.fes.length aw5f1) ∧ W.cell? ⟨w5.heap.size, 7,none⟩ = some (.slice aw5c0 P.cls.length aw5c1) ∧ W.cell? ⟨w5.heap.size, 8,none⟩ = some (.int .i64 P.hits) ∧ W.cell? ⟨w.heap.size, 0,none⟩ = some (.int .i64 P.now) ∧ W.cell? ⟨w.heap.size, 1,none⟩ = some a.e ∧ W.cell? ⟨w.heap.size, 2,none⟩ = some a.w ∧ W.cell? ⟨w.heap.size, 3,none⟩ = some a.m ∧ W.cell? ⟨w.heap.size, 4,none⟩ = some a.k ∧ W.cell? ⟨w.heap.size, 5,none⟩ = some (.int .i64 P.pol.sk.added) ∧ W.cell? ⟨w.heap.size, 6,none⟩ = some a.f ∧ W.cell? ⟨w.heap.size, 7,none⟩ = some a.c ∧ W.cell? ⟨w.heap.size, 8,none⟩ = some (.int .i64 P.hits)) (first | with_reducible exact KS _ hdr | with_reducible exact KS _ hC | with_reducible exact KS _ hD)
  (first
   | (go_at_call 12; refine (toProxy_any _ a P (HT.out _ hdr).1 hsz).mono ?_; rintro e w10 ⟨Y_,he_,ho10,hb10⟩; obtain ⟨a10e0,a10e1,a10w0,a10w1,a10m0,a10m1,a10k0,a10k1,a10f0,a10f1,a10c0,a10c1,rfl⟩ := ho10.slices; dsimp only at he_; subst he_; have hA10 := ho10.at; have hC : Below w9.heap.size w9 w10 := hdr.trans (hb10.mono hdr.size))
   | (go_at_call 14; refine (eqProxy_same _ ⟨.slice aw5e0 P.ents.length aw5e1,.slice aw5w0 P.pol.win.length aw5w1,.slice aw5m0 P.pol.main.length aw5m1,.slice aw5k0 P.pol.sk.rows.length aw5k1,.slice aw5f0 P.fes.length aw5f1,.slice aw5c0 P.cls.length aw5c1⟩ ⟨.slice a10e0 P.ents.length a10e1,.slice a10w0 P.pol.win.length a10w1,.slice a10m0 P.pol.main.length a10m1,.slice a10k0 P.pol.sk.rows.length a10k1,.slice a10f0 P.fes.length a10f1,.slice a10c0 P.cls.length a10c1⟩ P (HT.out _ hC).2 hA10 hsz).mono ?_; rintro e w11 ⟨rfl,hb11⟩; have hD : Below w9.heap.size w9 w11 := hC.trans (hb11.mono hC.size)))
 clear KS HT hdr ho10 hA10 hb10 hb11 hC
 clear b0 b1 b2 b3 b4 b5 b6 b7 b8 p0 p1 p2 p3 p4 p5 p6 p7 p8 x0 x1 x2 x3 x4 x5 x6 x7 x8 q0 q1 q2 q3 q4 q5 q6 q7 q8
 have hB_w11 : Below wb.heap.size wb w11 := hB_w9.trans (hD.mono hB_w9.size)
 obtain ⟨hK_w11,hE_w11,hw_w11⟩ := HB.out w11 hB_w11
 have evP_w11 := evP_w9.on hD
 have evX_w11 := evX_w9.on hD
 have evQ_w11 := evQ_w9.on hD
 clear hK_w9 hE_w9 hw_w9 hB_w9 evP_w9 evX_w9 evQ_w9
 try (rename_i hHeld; clear hHeld)
 obtain ⟨b0,b1,b2,b3,b4,b5,b6,b7,b8⟩ := hK_w11.cells
 obtain ⟨p0,p1,p2,p3,p4,p5,p6,p7,p8⟩ := evP_w11.box.cells
 obtain ⟨x0,x1,x2,x3,x4,x5,x6,x7,x8⟩ := evX_w11.box.cells
 obtain ⟨q0,q1,q2,q3,q4,q5,q6,q7,q8⟩ := evQ_w11.box.cells
 go_wp2_with fail
 refine (markProxy_any w11 w4.heap.size w5.heap.size ⟨.slice aw5e0 P.ents.length aw5e1,.slice aw5w0 P.pol.win.length aw5w1,.slice aw5m0 P.pol.main.length aw5m1,.slice aw5k0 P.pol.sk.rows.length aw5k1,.slice aw5f0 P.fes.length aw5f1,.slice aw5c0 P.cls.length aw5c1⟩ P evX_w11.own hsz (Nat.le_of_lt evX_w11.box.lt)).mono ?_
 rintro e w12 ⟨he12,_,ht12⟩
 obtain ⟨K12,hK12⟩ : ∃ K : Nat, 1 + mkN P = K := ⟨_,rfl⟩
 rw [hK12] at he12
 subst he12
 clear hK12
 have hn12 : ¬ ((K12 : Int) < 0) := by omega
 clear b0 b1 b2 b3 b4 b5 b6 b7 b8 p0 p1 p2 p3 p4 p5 p6 p7 p8 x0 x1 x2 x3 x4 x5 x6 x7 x8 q0 q1 q2 q3 q4 q5 q6 q7 q8
 have hB_w12 : Below wb.heap.size wb w12 := Tch.below hB_w11 ht12 hB_w11.size (fun k hk => by have := ES.out; omega)
 obtain ⟨hK_w12,hE_w12,hw_w12⟩ := HB.out w12 hB_w12
 have evP_w12 := evP_w11.tch ht12 (fun k hk => by have := ES.out; omega)
 have evQ_w12 := evQ_w11.tch ht12 (fun k hk => by have := ES.out; omega)
 clear hK_w11 hE_w11 hw_w11 hB_w11 evP_w11 evX_w11 evQ_w11
 clear ht12
 obtain ⟨b0,b1,b2,b3,b4,b5,b6,b7,b8⟩ := hK_w12.cells
 obtain ⟨p0,p1,p2,p3,p4,p5,p6,p7,p8⟩ := evP_w12.box.cells
 obtain ⟨q0,q1,q2,q3,q4,q5,q6,q7,q8⟩ := evQ_w12.box.cells
 go_wp2_with fail
 refine (eqProxy_same w12 ⟨.slice aw7e0 RES.ents.length aw7e1,.slice aw7w0 RES.pol.win.length aw7w1,.slice aw7m0 RES.pol.main.length aw7m1,.slice aw7k0 RES.pol.sk.rows.length aw7k1,.slice aw7f0 RES.fes.length aw7f1,.slice aw7c0 RES.cls.length aw7c1⟩ ⟨.slice aw3e0 RES.ents.length aw3e1,.slice aw3w0 RES.pol.win.length aw3w1,.slice aw3m0 RES.pol.main.length aw3m1,.slice aw3k0 RES.pol.sk.rows.length aw3k1,.slice aw3f0 RES.fes.length aw3f1,.slice aw3c0 RES.cls.length aw3c1⟩ RES evQ_w12.at evP_w12.at hRl).mono ?_
 rintro e w13 ⟨rfl,hbw13⟩
 clear b0 b1 b2 b3 b4 b5 b6 b7 b8 p0 p1 p2 p3 p4 p5 p6 p7 p8 q0 q1 q2 q3 q4 q5 q6 q7 q8
 have hB_w13 : Below wb.heap.size wb w13 := hB_w12.trans (hbw13.mono hB_w12.size)
 obtain ⟨hK_w13,hE_w13,hw_w13⟩ := HB.out w13 hB_w13
 have evP_w13 := evP_w12.on hbw13
 have evQ_w13 := evQ_w12.on hbw13
 clear hK_w12 hE_w12 hw_w12 hB_w12 evP_w12 evQ_w12
 obtain ⟨b0,b1,b2,b3,b4,b5,b6,b7,b8⟩ := hK_w13.cells
 obtain ⟨p0,p1,p2,p3,p4,p5,p6,p7,p8⟩ := evP_w13.box.cells
 obtain ⟨q0,q1,q2,q3,q4,q5,q6,q7,q8⟩ := evQ_w13.box.cells
 go_wp2_with fail
 refine (markProxy_any w13 w6.heap.size w7.heap.size ⟨.slice aw7e0 RES.ents.length aw7e1,.slice aw7w0 RES.pol.win.length aw7w1,.slice aw7m0 RES.pol.main.length aw7m1,.slice aw7k0 RES.pol.sk.rows.length aw7k1,.slice aw7f0 RES.fes.length aw7f1,.slice aw7c0 RES.cls.length aw7c1⟩ RES evQ_w13.own hRl (Nat.le_of_lt evQ_w13.box.lt)).mono ?_
 rintro e w14 ⟨he14,hoG,ht14⟩
 obtain ⟨K14,hK14⟩ : ∃ K : Nat, 1 + mkN RES = K := ⟨_,rfl⟩
 rw [hK14] at he14
 subst he14
 have hn14 : ¬ ((K14 : Int) < 0) := by omega
 clear b0 b1 b2 b3 b4 b5 b6 b7 b8 p0 p1 p2 p3 p4 p5 p6 p7 p8 q0 q1 q2 q3 q4 q5 q6 q7 q8
 have hB_w14 : Below wb.heap.size wb w14 := Tch.below hB_w13 ht14 hB_w13.size (fun k hk => by have := ES.out; omega)
 obtain ⟨hK_w14,hE_w14,hw_w14⟩ := HB.out w14 hB_w14
 have evP_w14 := evP_w13.tch ht14 (fun k hk => by have := ES.out; omega)
 have evQ_w14 := (show PXM w14 w6.heap.size w7.heap.size ⟨.slice aw7e0 RES.ents.length aw7e1,.slice aw7w0 RES.pol.win.length aw7w1,.slice aw7m0 RES.pol.main.length aw7m1,.slice aw7k0 RES.pol.sk.rows.length aw7k1,.slice aw7f0 RES.fes.length aw7f1,.slice aw7c0 RES.cls.length aw7c1⟩ RES from ⟨evQ_w13.le,evQ_w13.box.kept (ht14.2 _ evQ_w13.box.lt (fun e => by omega)),hoG⟩)
 clear hK_w13 hE_w13 hw_w13 hB_w13 evP_w13 evQ_w13
 have HCH : Hid (∀ wi,PXM wi w6.heap.size w7.heap.size ⟨.slice aw7e0 RES.ents.length aw7e1,.slice aw7w0 RES.pol.win.length aw7w1,.slice aw7m0 RES.pol.main.length aw7m1,.slice aw7k0 RES.pol.sk.rows.length aw7k1,.slice aw7f0 RES.fes.length aw7f1,.slice aw7c0 RES.cls.length aw7c1⟩ RES → Calls Tryz.prog 16 #[.agg #[.int .i64 RES.now,.slice aw7e0 RES.ents.length aw7e1,.slice aw7w0 RES.pol.win.length aw7w1,.slice aw7m0 RES.pol.main.length aw7m1,.slice aw7k0 RES.pol.sk.rows.length aw7k1,.int .i64 RES.pol.sk.added,.slice aw7f0 RES.fes.length aw7f1,.slice aw7c0 RES.cls.length aw7c1,.int .i64 RES.hits],.int .i64 1] wi fun e w' => e = .returned (.int .i64 (K14 : Int)) ∧ Below wi.heap.size wi w') := by
  intro wi h
  rw [← hK14]
  exact heldProxy_any wi w6.heap.size w7.heap.size ⟨.slice aw7e0 RES.ents.length aw7e1,.slice aw7w0 RES.pol.win.length aw7w1,.slice aw7m0 RES.pol.main.length aw7m1,.slice aw7k0 RES.pol.sk.rows.length aw7k1,.slice aw7f0 RES.fes.length aw7f1,.slice aw7c0 RES.cls.length aw7c1⟩ RES h.own hRl
 clear hoG ht14 hK14
 obtain ⟨b0,b1,b2,b3,b4,b5,b6,b7,b8⟩ := hK_w14.cells
 obtain ⟨p0,p1,p2,p3,p4,p5,p6,p7,p8⟩ := evP_w14.box.cells
 obtain ⟨q0,q1,q2,q3,q4,q5,q6,q7,q8⟩ := evQ_w14.box.cells
 have hkk : ((K14 : Int) != (K14 : Int)) = false := by simp
 go_wp2_with fail
 refine (HCH.out w14 evQ_w14).mono ?_
 rintro e w15 ⟨rfl,hbw15⟩
 clear b0 b1 b2 b3 b4 b5 b6 b7 b8 p0 p1 p2 p3 p4 p5 p6 p7 p8 q0 q1 q2 q3 q4 q5 q6 q7 q8
 have hB_w15 : Below wb.heap.size wb w15 := hB_w14.trans (hbw15.mono hB_w14.size)
 obtain ⟨hK_w15,hE_w15,hw_w15⟩ := HB.out w15 hB_w15
 have evP_w15 := evP_w14.on hbw15
 have evQ_w15 := evQ_w14.on hbw15
 clear hK_w14 hE_w14 hw_w14 hB_w14 evP_w14 evQ_w14
 obtain ⟨b0,b1,b2,b3,b4,b5,b6,b7,b8⟩ := hK_w15.cells
 obtain ⟨p0,p1,p2,p3,p4,p5,p6,p7,p8⟩ := evP_w15.box.cells
 obtain ⟨q0,q1,q2,q3,q4,q5,q6,q7,q8⟩ := evQ_w15.box.cells
 go_wp2_with fail
 refine (toProxy_any w15 a P hE_w15 hsz).mono ?_
 rintro e w16 ⟨Y_,he_,how16,hbw16⟩
 obtain ⟨aw16e0,aw16e1,aw16w0,aw16w1,aw16m0,aw16m1,aw16k0,aw16k1,aw16f0,aw16f1,aw16c0,aw16c1,rfl⟩ := how16.slices
 dsimp only at he_
 subst he_
 have hAw16 := how16.at
 clear b0 b1 b2 b3 b4 b5 b6 b7 b8 p0 p1 p2 p3 p4 p5 p6 p7 p8 q0 q1 q2 q3 q4 q5 q6 q7 q8
 have hB_w16 : Below wb.heap.size wb w16 := hB_w15.trans (hbw16.mono hB_w15.size)
 obtain ⟨hK_w16,hE_w16,hw_w16⟩ := HB.out w16 hB_w16
 have evP_w16 := evP_w15.on hbw16
 have evQ_w16 := evQ_w15.on hbw16
 clear hK_w15 hE_w15 hw_w15 hB_w15 evP_w15 evQ_w15
 have cI := CI.out w16 ⟨.slice aw16e0 P.ents.length aw16e1,.slice aw16w0 P.pol.win.length aw16w1,.slice aw16m0 P.pol.main.length aw16m1,.slice aw16k0 P.pol.sk.rows.length aw16k1,.slice aw16f0 P.fes.length aw16f1,.slice aw16c0 P.cls.length aw16c1⟩ hAw16 how16.roomF (HTB.out _ hB_w16)
 go_wp2_with fail
 refine cI.mono ?_
 rintro e w17 ⟨Y_,he_,how17,hbw17⟩
 obtain ⟨aw17e0,aw17e1,aw17w0,aw17w1,aw17m0,aw17m1,aw17k0,aw17k1,aw17f0,aw17f1,aw17c0,aw17c1,rfl⟩ := how17.slices
 dsimp only at he_
 subst he_
 clear cI how16 hAw16
 have hB_w17 : Below wb.heap.size wb w17 := hB_w16.trans (hbw17.mono hB_w16.size)
 obtain ⟨hK_w17,hE_w17,hw_w17⟩ := HB.out w17 hB_w17
 have evP_w17 := evP_w16.on hbw17
 have evQ_w17 := evQ_w16.on hbw17
 clear hK_w16 hE_w16 hw_w16 hB_w16 evP_w16 evQ_w16
 obtain ⟨w18,hw18⟩ : ∃ x,w17.alloc (.cells #[.int .i64 RES.now,.slice aw17e0 RES.ents.length aw17e1,.slice aw17w0 RES.pol.win.length aw17w1,.slice aw17m0 RES.pol.main.length aw17m1,.slice aw17k0 RES.pol.sk.rows.length aw17k1,.int .i64 RES.pol.sk.added,.slice aw17f0 RES.fes.length aw17f1,.slice aw17c0 RES.cls.length aw17c1,.int .i64 RES.hits] 48) = x := ⟨_,rfl⟩
 have hbw18 : Below w17.heap.size w17 w18 := by rw [← hw18]; exact (Below.refl _ _).alloc (Nat.le_refl _) _
 have evH_w18 : PXV w18 w16.heap.size w17.heap.size ⟨.slice aw17e0 RES.ents.length aw17e1,.slice aw17w0 RES.pol.win.length aw17w1,.slice aw17m0 RES.pol.main.length aw17m1,.slice aw17k0 RES.pol.sk.rows.length aw17k1,.slice aw17f0 RES.fes.length aw17f1,.slice aw17c0 RES.cls.length aw17c1⟩ RES := by rw [← hw18]; exact PXV.new how17 hbw17.size
 have sw18 : w18.heap.size = w17.heap.size + 1 := by rw [← hw18]; simp
 have HWw18 : Hid (w17.alloc (.cells #[.int .i64 RES.now,.slice aw17e0 RES.ents.length aw17e1,.slice aw17w0 RES.pol.win.length aw17w1,.slice aw17m0 RES.pol.main.length aw17m1,.slice aw17k0 RES.pol.sk.rows.length aw17k1,.int .i64 RES.pol.sk.added,.slice aw17f0 RES.fes.length aw17f1,.slice aw17c0 RES.cls.length aw17c1,.int .i64 RES.hits] 48) = w18) := hw18
 have hB_w18 : Below wb.heap.size wb w18 := hB_w17.trans (hbw18.mono hB_w17.size)
 obtain ⟨hK_w18,hE_w18,hw_w18⟩ := HB.out w18 hB_w18
 have evP_w18 := evP_w17.on hbw18
 have evQ_w18 := evQ_w17.on hbw18
 clear hK_w17 hE_w17 hw_w17 hB_w17 evP_w17 evQ_w17
 obtain ⟨b0,b1,b2,b3,b4,b5,b6,b7,b8⟩ := hK_w18.cells
 obtain ⟨p0,p1,p2,p3,p4,p5,p6,p7,p8⟩ := evP_w18.box.cells
 obtain ⟨q0,q1,q2,q3,q4,q5,q6,q7,q8⟩ := evQ_w18.box.cells
 obtain ⟨h0,h1,h2,h3,h4,h5,h6,h7,h8⟩ := evH_w18.box.cells
 rw [← hw18] at b0 b1 b2 b3 b4 b5 b6 b7 b8 p0 p1 p2 p3 p4 p5 p6 p7 p8 q0 q1 q2 q3 q4 q5 q6 q7 q8 h0 h1 h2 h3 h4 h5 h6 h7 h8
 clear hw18
 go_wp2_with fail
 rw [HWw18.out] at b0 b1 b2 b3 b4 b5 b6 b7 b8 p0 p1 p2 p3 p4 p5 p6 p7 p8 q0 q1 q2 q3 q4 q5 q6 q7 q8 h0 h1 h2 h3 h4 h5 h6 h7 h8 ⊢
 refine (eqProxy_same w18 ⟨.slice aw17e0 RES.ents.length aw17e1,.slice aw17w0 RES.pol.win.length aw17w1,.slice aw17m0 RES.pol.main.length aw17m1,.slice aw17k0 RES.pol.sk.rows.length aw17k1,.slice aw17f0 RES.fes.length aw17f1,.slice aw17c0 RES.cls.length aw17c1⟩ ⟨.slice aw3e0 RES.ents.length aw3e1,.slice aw3w0 RES.pol.win.length aw3w1,.slice aw3m0 RES.pol.main.length aw3m1,.slice aw3k0 RES.pol.sk.rows.length aw3k1,.slice aw3f0 RES.fes.length aw3f1,.slice aw3c0 RES.cls.length aw3c1⟩ RES evH_w18.at evP_w18.at hRl).mono ?_
 rintro e w19 ⟨rfl,hbw19⟩
 clear b0 b1 b2 b3 b4 b5 b6 b7 b8 p0 p1 p2 p3 p4 p5 p6 p7 p8 q0 q1 q2 q3 q4 q5 q6 q7 q8 h0 h1 h2 h3 h4 h5 h6 h7 h8
 have hB_w19 : Below wb.heap.size wb w19 := hB_w18.trans (hbw19.mono hB_w18.size)
 obtain ⟨hK_w19,hE_w19,hw_w19⟩ := HB.out w19 hB_w19
 have evP_w19 := evP_w18.on hbw19
 have evQ_w19 := evQ_w18.on hbw19
 have evH_w19 := evH_w18.on hbw19
 clear hK_w18 hE_w18 hw_w18 hB_w18 evP_w18 evQ_w18 evH_w18
 obtain ⟨b0,b1,b2,b3,b4,b5,b6,b7,b8⟩ := hK_w19.cells
 obtain ⟨p0,p1,p2,p3,p4,p5,p6,p7,p8⟩ := evP_w19.box.cells
 obtain ⟨q0,q1,q2,q3,q4,q5,q6,q7,q8⟩ := evQ_w19.box.cells
 obtain ⟨h0,h1,h2,h3,h4,h5,h6,h7,h8⟩ := evH_w19.box.cells
 go_wp2_with fail
 refine (HCH.out w19 evQ_w19).mono ?_
 rintro e w20 ⟨rfl,hbw20⟩
 clear b0 b1 b2 b3 b4 b5 b6 b7 b8 p0 p1 p2 p3 p4 p5 p6 p7 p8 q0 q1 q2 q3 q4 q5 q6 q7 q8 h0 h1 h2 h3 h4 h5 h6 h7 h8
 go_wp2_with fail
 go_ret
 exact ⟨rfl,hw_w19.trans (hbw20.mono hw_w19.size)⟩
end Go.Proofs.YtpgcfgbhkodmeaaGreatDoor
