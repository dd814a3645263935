/- The other text stores an entry. Written by mkstore.py. -/
import Derived.Test.YthfjfccdelbkhaaGreatDoorRestIJ
import Derived.Test.YthfjfccdelbkhaaGreatDoorRestPlainJ
import Derived.Test.YthfjfccdelbkhaaGreatDoorMayAskJ
import Derived.Test.YthfjfccdelbkhaaGreatDoorRet9XJ
import Derived.Test.YthfjfccdelbkhaaGreatDoorPolTouchSpec
import Derived.Test.YthfjfccdelbkhaaGreatDoorPolTouchImplJ
import Derived.Test.YthfjfccdelbkhaaGreatDoorInsEntJ
import Derived.Deep.DeepCutAuto
import Derived.Deep.RegionHeld3
namespace Go.Proofs.YthfjfccdelbkhaaGreatDoor
open Go.RowKit Go.Sort
def storeE (R : Prx) (e : En) : List En := if (touchP R.pol e.key).2 = noKey then R.ents else R.ents.filter fun x => !decide (x.key = (touchP R.pol e.key).2)
def storeR (R : Prx) (e : En) : Prx := ⟨R.now,if keepB R e = true then insE (storeE R e) e else storeE R e,(touchP R.pol e.key).1,R.fes,R.cls,R.hits⟩
theorem cell_farS {w : World} {g g' i i' : Nat} {u v : Value} (hne : g ≠ g') (h : w.cell? ⟨g',i',none⟩ = some u) : (w.setCell ⟨g,i,none⟩ v).cell? ⟨g',i',none⟩ = some u := by
 rw [World.cell?_setCell_other _ _ _ _ (by simp)]; exact h
theorem bytes_no0 {z : ByteArray} (h : ¬ z = ⟨#[]⟩) : z.toList.isEmpty = false := by
 rw [ByteArray.toList_eq,List.isEmpty_eq_false_iff]
 intro e
 exact h (ByteArray.ext (Array.toList_inj.1 e))
theorem offE_noKey {E : List En} (h : ∀ x ∈ E,enOk x = true) : offE E noKey = E := by
 unfold offE keepX
 rw [List.filter_eq_self]
 intro x hx
 have h1 := (enOk_iff.1 (h x hx)).1.1
 show (!(eqS x.key noKey)) = true
 cases he : eqS x.key noKey with
 | false => rfl
 | true =>
  rw [eqS_iff.1 he] at h1
  exact absurd h1 (by decide)
theorem storeR_keep {R : Prx} (h : ∀ x ∈ R.ents,enOk x = true) (e : En) : storeR R e = keepR R e := by
 have hs : storeE R e = offE R.ents (touchP R.pol e.key).2 := by
  unfold storeE
  by_cases hq : (touchP R.pol e.key).2 = noKey
  ·rw [if_pos hq,hq,offE_noKey h]
  ·rw [if_neg hq,offE_filter]
 unfold storeR keepR
 rw [hs]
set_option maxRecDepth 100000 in
set_option maxHeartbeats 8000000 in
theorem l16Store_any (w : World) (lo T : Nat) (X : Pc) (R : Prx) (e : En) (H : PvAt w lo T X R) (hsz : PxSz R) (hel : R.ents.length ≤ 100000) (hk : e.key.size ≤ 1048576) :
  Calls Tryz.prog 17 #[.pointer (some ⟨T, 0,none⟩),.agg #[.string e.key,.int .i64 e.st,.int .i64 e.lf,.string e.bd]] w fun e' w' => e' = .returned (.tuple #[]) ∧ ∃ Y : Pc,PvAt w' lo T Y (storeR R e) ∧ Below lo w w' := by
 obtain ⟨l1,l2,l3,l4⟩ := hsz.parts
 obtain ⟨e0,e1,aw,cw,am,cm,ak,ck,f0,f1,c0,c1',rfl⟩ := H.own.slices
 obtain ⟨B,hB⟩ : ∃ B,w.heap.size = B := ⟨_,rfl⟩
 obtain ⟨w1,hw1⟩ : ∃ x,w.alloc (.cells #[.string e.key,.int .i64 e.st,.int .i64 e.lf,.string e.bd] 47) = x := ⟨_,rfl⟩
 have hb1 : Below w.heap.size w w1 := by rw [← hw1]; exact (Below.refl _ _).alloc (Nat.le_refl _) _
 have HBE : Hid (EnB w1 B 47 e) := by rw [← hw1, ← hB]; exact EnB.new w _ e
 have HH1 : Hid (PvAt w1 lo T ⟨.slice e0 R.ents.length e1,.slice aw R.pol.win.length cw,.slice am R.pol.main.length cm,.slice ak R.pol.sk.rows.length ck,.slice f0 R.fes.length f1,.slice c0 R.cls.length c1'⟩ R) := H.on hb1
 have HW : Hid (w.alloc (.cells #[.string e.key,.int .i64 e.st,.int .i64 e.lf,.string e.bd] 47) = w1) := hw1
 have HN : Hid (lo ≤ B ∧ T < B ∧ w1.heap.size = B + 1 ∧ (∀ j,(Value.slice e0 R.ents.length e1).ownBlock = some j → j < B) ∧ Below lo w w1 ∧ R.ents.length ≤ 100000 ∧ e.key.size ≤ 1048576) := ⟨by rw [← hB]; exact H.lt,by rw [← hB]; exact H.box.lt,by rw [← hw1]; simp [hB],fun j hj => by rw [← hB]; exact (H.own.e.lt j hj).2,hb1.mono H.lt,hel,hk⟩
 obtain ⟨Q,hQ⟩ : ∃ Q,(touchP R.pol e.key).1 = Q := ⟨_,rfl⟩
 obtain ⟨oo,hoo⟩ : ∃ o,(touchP R.pol e.key).2 = o := ⟨_,rfl⟩
 have HQ : Hid ((touchP R.pol e.key).1 = Q ∧ (touchP R.pol e.key).2 = oo) := ⟨hQ,hoo⟩
 have HQS : Hid (Q.win.length ≤ 10000000 ∧ Q.main.length ≤ 10000000) := by
  have h := (touchP_sz e.key hsz.parts.2.1).parts
  rw [hQ] at h
  exact ⟨by omega,by omega⟩
 have KS : ∀ W,Below w1.heap.size w1 W → W.cell? ⟨T, 2,none⟩ = some (.slice aw R.pol.win.length cw) ∧ W.cell? ⟨T, 3,none⟩ = some (.slice am R.pol.main.length cm) ∧ W.cell? ⟨T, 4,none⟩ = some (.slice ak R.pol.sk.rows.length ck) ∧ W.cell? ⟨T, 5,none⟩ = some (.int .i64 R.pol.sk.added) ∧ W.cell? ⟨B, 0,none⟩ = some (.string e.key) := fun W h => by
  obtain ⟨_,_,n2,n3,n4,n5,_,_,_⟩ := (HH1.out.on h).box.cells
  exact ⟨n2,n3,n4,n5,(HBE.out.on h).cells.1⟩
 have CT : Hid (∀ W,Below w1.heap.size w1 W → Calls Tryz.prog 38 #[.agg #[.slice aw R.pol.win.length cw,.slice am R.pol.main.length cm,.slice ak R.pol.sk.rows.length ck,.int .i64 R.pol.sk.added],.string e.key] W fun e' w' => ∃ a1 c1 a2 c2 a3 c3,e' = .returned (.tuple #[.agg #[.slice a1 Q.win.length c1,.slice a2 Q.main.length c2,.slice a3 Q.sk.rows.length c3,.int .i64 Q.sk.added],.string oo]) ∧ POwn w' W.heap.size w'.heap.size (.agg #[.slice a1 Q.win.length c1,.slice a2 Q.main.length c2,.slice a3 Q.sk.rows.length c3,.int .i64 Q.sk.added]) Q ∧ Below W.heap.size W w') := by
  show ∀ W,_ → _
  intro W hW
  have hp : PolAt W aw am ak R.pol W.heap.size := (HH1.out.own.at.polAt).on hW
  refine (specPolicyTouch_any W aw am ak cw cm ck R.pol e.key hp l2 hk).mono ?_
  rintro e' w' ⟨v,rfl,ho,hb⟩
  rw [hQ] at ho
  rw [hoo]
  obtain ⟨a1,c1,a2,c2,a3,c3,rfl,_⟩ := ho.at
  exact ⟨a1,c1,a2,c2,a3,c3,rfl,ho,hb⟩
 have hdr : Below w1.heap.size w1 w1.drew := (Below.refl _ _).drew
 have hdz : Below w1.heap.size w1 (w1.alloc (.cells #[.slice none 0 0,.slice none 0 0,.slice none 0 0,.int .i64 0] 30)).drew := ((Below.refl _ _).alloc (Nat.le_refl _) _).drew
 have HN0 : Hid (PBox (w1.alloc (.cells #[.slice none 0 0,.slice none 0 0,.slice none 0 0,.int .i64 0] 30)).drew w1.heap.size (.slice none 0 0) (.slice none 0 0) (.slice none 0 0) (.int .i64 0)) := PBox.new w1 _ _ _ _
 clear hQ hoo hsz hel hk l1 l2 l3 l4 H hb1 hw1
 go_enter Tryz.func17,Tryz.ntmps17
 go_upto_region 1 with fail
 rw [HW.out]
 try rw [hB]
 go_cut [4, 5] (fun pv ov wc => ∃ N a1 c1 a2 c2 a3 c3,pv = .pointer (some ⟨N, 0,none⟩) ∧ ov = .string oo ∧ PBox wc N (.slice a1 Q.win.length c1) (.slice a2 Q.main.length c2) (.slice a3 Q.sk.rows.length c3) (.int .i64 Q.sk.added) ∧ Below w1.heap.size w1 wc ∧ w1.heap.size ≤ N ∧ POwn wc w1.heap.size wc.heap.size (.agg #[.slice a1 Q.win.length c1,.slice a2 Q.main.length c2,.slice a3 Q.sk.rows.length c3,.int .i64 Q.sk.added]) Q)
 case first =>
  go_region_held3 (fun W => W.cell? ⟨T, 2,none⟩ = some (.slice aw R.pol.win.length cw) ∧ W.cell? ⟨T, 3,none⟩ = some (.slice am R.pol.main.length cm) ∧ W.cell? ⟨T, 4,none⟩ = some (.slice ak R.pol.sk.rows.length ck) ∧ W.cell? ⟨T, 5,none⟩ = some (.int .i64 R.pol.sk.added) ∧ W.cell? ⟨B, 0,none⟩ = some (.string e.key)) (first | with_reducible exact KS _ hdr | with_reducible exact KS _ hdz | with_reducible exact KS _ fP | with_reducible exact hK1 | with_reducible exact hK2 | with_reducible exact hK3)
   (first | (go_at_call 38; first
    | (with_reducible refine (CT.out _ hdr).mono ?_; rintro e' wP ⟨a1,c1,a2,c2,a3,c3,rfl,oP,bP⟩; have fP : Below w1.heap.size w1 wP := hdr.trans (bP.mono hdr.size); have hK2 := KS (wP.alloc (.cells #[.slice none 0 0,.slice none 0 0,.slice none 0 0,.int .i64 0] 30)) (fP.alloc fP.size _); have hK3 := KS (wP.alloc (.cells #[.slice a1 Q.win.length c1,.slice a2 Q.main.length c2,.slice a3 Q.sk.rows.length c3,.int .i64 Q.sk.added] 30)) (fP.alloc fP.size _); have FB := And.intro (PBox.new wP (.slice a1 Q.win.length c1) (.slice a2 Q.main.length c2) (.slice a3 Q.sk.rows.length c3) (.int .i64 Q.sk.added)) (And.intro (fP.alloc fP.size (.cells #[.slice a1 Q.win.length c1,.slice a2 Q.main.length c2,.slice a3 Q.sk.rows.length c3,.int .i64 Q.sk.added] 30)) (And.intro fP.size ((oP.below ((Below.refl _ _).alloc (Nat.le_refl _) (.cells #[.slice a1 Q.win.length c1,.slice a2 Q.main.length c2,.slice a3 Q.sk.rows.length c3,.int .i64 Q.sk.added] 30)) (Nat.le_refl _)).up)))  )
    | (with_reducible refine (CT.out _ hdz).mono ?_; rintro e' wP ⟨a1,c1,a2,c2,a3,c3,rfl,oP,bP⟩; have fP : Below w1.heap.size w1 wP := hdz.trans (bP.mono hdz.size); have hN := HN0.out.on bP; obtain ⟨r0,r1,r2,r3⟩ := hN.cells; have t0 := hN.thaw 0; have t1 := hN.thaw 1; have t2 := hN.thaw 2; have t3 := hN.thaw 3; have hbz : Below w1.heap.size w1 ((((wP.setCell ⟨w1.heap.size, 0,none⟩ (.slice a1 Q.win.length c1)).setCell ⟨w1.heap.size, 1,none⟩ (.slice a2 Q.main.length c2)).setCell ⟨w1.heap.size, 2,none⟩ (.slice a3 Q.sk.rows.length c3)).setCell ⟨w1.heap.size, 3,none⟩ (.int .i64 Q.sk.added)) := (((fP.setCell (Nat.le_refl _) _).setCell (Nat.le_refl _) _).setCell (Nat.le_refl _) _).setCell (Nat.le_refl _) _; have hK1 := KS ((((wP.setCell ⟨w1.heap.size, 0,none⟩ (.slice a1 Q.win.length c1)).setCell ⟨w1.heap.size, 1,none⟩ (.slice a2 Q.main.length c2)).setCell ⟨w1.heap.size, 2,none⟩ (.slice a3 Q.sk.rows.length c3)).setCell ⟨w1.heap.size, 3,none⟩ (.int .i64 Q.sk.added)) hbz; have FA := And.intro (hN.put (.slice a1 Q.win.length c1) (.slice a2 Q.main.length c2) (.slice a3 Q.sk.rows.length c3) (.int .i64 Q.sk.added)) (And.intro hbz (And.intro (Nat.le_refl w1.heap.size) ((oP.put4 hN (.slice a1 Q.win.length c1) (.slice a2 Q.main.length c2) (.slice a3 Q.sk.rows.length c3) (.int .i64 Q.sk.added)).up.mono hdz.size (Nat.le_refl _)))))))
  all_goals go_wp2_with fail
  all_goals go_meet
  all_goals first
   | exact ⟨_,_,_,_,_,_,_,rfl,rfl,FB.1,FB.2.1,FB.2.2.1,FB.2.2.2⟩
   | exact ⟨_,_,_,_,_,_,_,rfl,rfl,FA.1,FA.2.1,FA.2.2.1,FA.2.2.2⟩
 case rest =>
  obtain ⟨N,a1,c1,a2,c2,a3,c3,rfl,rfl,hN,hbw,hNle,hoP⟩ := hcut
  clear KS CT hdr hdz HN0
  have HXN : Hid (lo ≤ N ∧ B < N ∧ T < N) := by have := HN.out; exact ⟨by omega,by omega,by omega⟩
  have HH3 : Hid _ := (fun (_ : Unit) => HH1.out.setPol hbw hoP)
  have hBx := (HH1.out.on hbw).box
  obtain ⟨n0,n1,n2,n3⟩ := hN.cells
  have t0 := hBx.cells.2.2.1
  have g0 := hBx.thaw 2
  have s0 := hBx.set2 (.slice a1 Q.win.length c1)
  have t1 := s0.cells.2.2.2.1
  have g1 := s0.thaw 3
  have s1 := s0.set3 (.slice a2 Q.main.length c2)
  have t2 := s1.cells.2.2.2.2.1
  have g2 := s1.thaw 4
  have s2 := s1.set4 (.slice a3 Q.sk.rows.length c3)
  have t3 := s2.cells.2.2.2.2.2.1
  have g3 := s2.thaw 5
  obtain ⟨w3,hw3⟩ : ∃ y,((((wc.setCell ⟨T, 2,none⟩ (.slice a1 Q.win.length c1)).setCell ⟨T, 3,none⟩ (.slice a2 Q.main.length c2)).setCell ⟨T, 4,none⟩ (.slice a3 Q.sk.rows.length c3)).setCell ⟨T, 5,none⟩ (.int .i64 Q.sk.added)) = y := ⟨_,rfl⟩
  have hf : ∀ k,k ≠ T → w3.heap[k]? = wc.heap[k]? := fun k hk => by rw [← hw3,Below.heap_setCell _ _ _ _ (by exact hk),Below.heap_setCell _ _ _ _ (by exact hk),Below.heap_setCell _ _ _ _ (by exact hk),Below.heap_setCell _ _ _ _ (by exact hk)]
  have HE3 : Hid (EnB w3 B 47 e) := (hf B (by have := HN.out; omega)).trans (HBE.out.on hbw)
  have HW3 : Hid (((((wc.setCell ⟨T, 2,none⟩ (.slice a1 Q.win.length c1)).setCell ⟨T, 3,none⟩ (.slice a2 Q.main.length c2)).setCell ⟨T, 4,none⟩ (.slice a3 Q.sk.rows.length c3)).setCell ⟨T, 5,none⟩ (.int .i64 Q.sk.added)) = w3) := hw3
  clear hf hw3 hN hBx hoP hbw hNle s0 s1 s2
  go_upto_region 3 with fail
  rw [HW3.out]
  clear t0 g0 t1 g1 t2 g2 t3 g3 n0 n1 n2 n3
  obtain ⟨H3,hb3⟩ := HH3.out ()
  rw [HW3.out] at H3 hb3
  have hbw3 := HN.out.2.2.2.2.1.trans hb3
  have HV3 : Hid (PvAt w3 lo T ⟨.slice e0 R.ents.length e1,.slice a1 Q.win.length c1,.slice a2 Q.main.length c2,.slice a3 Q.sk.rows.length c3,.slice f0 R.fes.length f1,.slice c0 R.cls.length c1'⟩ ⟨R.now,R.ents,Q,R.fes,R.cls,R.hits⟩) := H3
  have HB3 : Hid (Below lo w w3) := hbw3
  clear HH3 HW3 H3 hb3 hbw3
  obtain ⟨bk,hbk⟩ : ∃ b,hasP Q e.key = b := ⟨_,rfl⟩
  have HKB : Hid (keepB R e = bk) := by show _ = _; unfold keepB; rw [HQ.out.1]; exact hbk
  have HHQ : Hid (hasP Q e.key = bk) := hbk
  clear hbk
  by_cases hoe : oo = ⟨#[]⟩
  ·have HSE : Hid (storeE R e = R.ents) := by show _ = _; unfold storeE; rw [HQ.out.2,if_pos (show oo = noKey from hoe)]
   have HEL : Hid (R.ents.length ≤ 100000) := HN.out.2.2.2.2.2.1
   subst hoe
   have hpl : PolAt w3 a1 a2 a3 Q w3.heap.size := by
    have h := HV3.out.own.at
    obtain ⟨q1,q2,e1,e2⟩ := h.pw
    obtain ⟨q3,q4,e3,e4⟩ := h.pm
    obtain ⟨q5,q6,e5,e6⟩ := h.pk
    dsimp only at e1 e2 e3 e4 e5 e6
    simp only [Value.slice.injEq] at e1 e3 e5
    obtain ⟨rfl,_,rfl⟩ := e1
    obtain ⟨rfl,_,rfl⟩ := e3
    obtain ⟨rfl,_,rfl⟩ := e5
    exact ⟨e2,e4,e6⟩
   have hd5 : Below w3.heap.size w3 w3.drew := (Below.refl _ _).drew
   have KS5 : ∀ W,Below w3.heap.size w3 W → W.cell? ⟨T, 2,none⟩ = some (.slice a1 Q.win.length c1) ∧ W.cell? ⟨T, 3,none⟩ = some (.slice a2 Q.main.length c2) ∧ W.cell? ⟨T, 4,none⟩ = some (.slice a3 Q.sk.rows.length c3) ∧ W.cell? ⟨T, 5,none⟩ = some (.int .i64 Q.sk.added) ∧ W.cell? ⟨B, 0,none⟩ = some (.string e.key) := fun W h => by
    obtain ⟨_,_,n2,n3,n4,n5,_,_,_⟩ := (HV3.out.on h).box.cells
    exact ⟨n2,n3,n4,n5,(HE3.out.on h).cells.1⟩
   have cH : Hid (Calls Tryz.prog 40 #[.agg #[.slice a1 Q.win.length c1,.slice a2 Q.main.length c2,.slice a3 Q.sk.rows.length c3,.int .i64 Q.sk.added],.string e.key] w3.drew fun e' w' => e' = .returned (.bool bk) ∧ Below w3.heap.size w3 w') := by
    have h := specPolicyHas_any w3.drew a1 a2 a3 c1 c2 c3 Q e.key (hpl.on hd5) HQS.out.1 HQS.out.2
    rw [HHQ.out] at h
    refine h.mono ?_
    rintro e' w' ⟨he,hb⟩
    exact ⟨he,hd5.trans (hb.mono hd5.size)⟩
   clear hpl
   go_upto_region 5 with fail
   go_region_held3 (fun W => W.cell? ⟨T, 2,none⟩ = some (.slice a1 Q.win.length c1) ∧ W.cell? ⟨T, 3,none⟩ = some (.slice a2 Q.main.length c2) ∧ W.cell? ⟨T, 4,none⟩ = some (.slice a3 Q.sk.rows.length c3) ∧ W.cell? ⟨T, 5,none⟩ = some (.int .i64 Q.sk.added) ∧ W.cell? ⟨B, 0,none⟩ = some (.string e.key)) (first | with_reducible exact KS5 _ hd5 | with_reducible exact KS5 _ hb7)
    (first
     | (go_at_call 40; with_reducible refine cH.out.mono ?_; rintro e' w7 ⟨rfl,hb7⟩))
   have HV7 : Hid (PvAt w7 lo T ⟨.slice e0 R.ents.length e1,.slice a1 Q.win.length c1,.slice a2 Q.main.length c2,.slice a3 Q.sk.rows.length c3,.slice f0 R.fes.length f1,.slice c0 R.cls.length c1'⟩ ⟨R.now,R.ents,Q,R.fes,R.cls,R.hits⟩) := HV3.out.on hb7
   have HE7 : Hid (EnB w7 B 47 e) := HE3.out.on hb7
   have HB7 : Hid (Below lo w w7) := HB3.out.trans (hb7.mono HV3.out.lt)
   clear KS5 cH hd5 hb7 HV3 HE3 HB3
   cases bk with
   | false =>
    have HF : Hid (storeR R e = ⟨R.now,R.ents,Q,R.fes,R.cls,R.hits⟩) := by
     show _ = _
     unfold storeR
     rw [if_neg (by rw [HKB.out]; decide),HSE.out,HQ.out.1]
    go_wp2_with fail
    exact bodyPost_end (results_none rfl _ _ _) rfl ⟨rfl,_,by rw [HF.out]; exact HV7.out,HB7.out⟩
   | true =>
    have HF : Hid (storeR R e = ⟨R.now,insE (R.ents) e,Q,R.fes,R.cls,R.hits⟩) := by
     show _ = _
     unfold storeR
     rw [if_pos HKB.out,HSE.out,HQ.out.1]
    have hea : NAt w7 e0 R.ents w7.heap.size := by
     obtain ⟨q5,q6,e5,e6⟩ := HV7.out.own.at.e
     dsimp only at e5 e6
     simp only [Value.slice.injEq] at e5
     obtain ⟨rfl,_,rfl⟩ := e5
     exact e6
    have hd7 : Below w7.heap.size w7 w7.drew := (Below.refl _ _).drew
    have n7 : w7.drew.cell? ⟨T, 1,none⟩ = some (.slice e0 (R.ents).length e1) := (HV7.out.on hd7).box.cells.2.1
    have K2 : ∀ W,EnB W B 47 e → W.cell? ⟨B, 0,none⟩ = some (.string e.key) ∧ W.cell? ⟨B, 1,none⟩ = some (.int .i64 e.st) ∧ W.cell? ⟨B, 2,none⟩ = some (.int .i64 e.lf) ∧ W.cell? ⟨B, 3,none⟩ = some (.string e.bd) := fun W h => h.cells
    have kx0 := K2 w7.drew (HE7.out.on hd7)
    obtain ⟨PP,hPP⟩ : ∃ PP : World → Value → Prop,PP = (fun W y => ∃ p0 p1,y = .slice p0 (insE R.ents e).length p1 ∧ OwnN W w7.heap.size 47 (.slice p0 (insE R.ents e).length p1) (insE R.ents e) ∧ Below w7.heap.size w7 W ∧ W.cell? ⟨T, 1,none⟩ = some (.slice e0 (R.ents).length e1) ∧ W.frozen? ⟨T, 1,none⟩ = false) := ⟨_,rfl⟩
    have cP : Hid (Calls Tryz.prog 41 #[.slice e0 (R.ents).length e1,.agg #[.string e.key,.int .i64 e.st,.int .i64 e.lf,.string e.bd]] w7.drew fun e' w' => ∃ y,e' = .returned y ∧ PP w' y ∧ (w'.cell? ⟨B, 0,none⟩ = some (.string e.key) ∧ w'.cell? ⟨B, 1,none⟩ = some (.int .i64 e.st) ∧ w'.cell? ⟨B, 2,none⟩ = some (.int .i64 e.lf) ∧ w'.cell? ⟨B, 3,none⟩ = some (.string e.bd))) := by
     refine (l15PutX_any w7.drew e0 e1 R.ents e (hea.on hd7) HEL.out).mono ?_
     rintro e' w' ⟨v,rfl,ho,hb⟩
     obtain ⟨p0,p1,rfl,_⟩ := ho.at
     have hb2 := hd7.trans (hb.mono hd7.size)
     exact ⟨_,rfl,by rw [hPP]; exact ⟨p0,p1,rfl,ho.mono hd7.size,hb2,(HV7.out.on hb2).box.cells.2.1,(HV7.out.on hb2).box.thaw 1⟩,K2 w' (HE7.out.on hb2)⟩
    have KE : Hid (∀ (W : World) (x : Value),(W.cell? ⟨B, 0,none⟩ = some (.string e.key) ∧ W.cell? ⟨B, 1,none⟩ = some (.int .i64 e.st) ∧ W.cell? ⟨B, 2,none⟩ = some (.int .i64 e.lf) ∧ W.cell? ⟨B, 3,none⟩ = some (.string e.bd)) → ((W.setCell ⟨T, 1,none⟩ x).cell? ⟨B, 0,none⟩ = some (.string e.key) ∧ (W.setCell ⟨T, 1,none⟩ x).cell? ⟨B, 1,none⟩ = some (.int .i64 e.st) ∧ (W.setCell ⟨T, 1,none⟩ x).cell? ⟨B, 2,none⟩ = some (.int .i64 e.lf) ∧ (W.setCell ⟨T, 1,none⟩ x).cell? ⟨B, 3,none⟩ = some (.string e.bd))) := by
     show ∀ (W : World) (x : Value),_ → _
     intro W x h
     have hne : T ≠ B := by have := HN.out.2.1; omega
     obtain ⟨p0,p1,p2,p3⟩ := h
     exact ⟨cell_farS hne p0,cell_farS hne p1,cell_farS hne p2,cell_farS hne p3⟩
    have HG : Hid (∀ (W9 : World) (y : Value),PP W9 y → ∃ XZ,PvAt (W9.setCell ⟨T, 1,none⟩ y) lo T XZ (storeR R e) ∧ Below lo w (W9.setCell ⟨T, 1,none⟩ y)) := by
     show ∀ (W9 : World) (y : Value),_ → _
     intro W9 y hp
     rw [hPP] at hp
     obtain ⟨p0',p1',rfl,ho3,hb3,_,_⟩ := hp
     have hFF := HV7.out.setE hb3 ho3
     rw [HF.out]
     exact ⟨_,hFF.1,HB7.out.trans hFF.2⟩
    clear hd7 K2 hea
    go_upto_region 6 with fail
    refine wp_region_held_drew (S := fun W => W.cell? ⟨B, 0,none⟩ = some (.string e.key) ∧ W.cell? ⟨B, 1,none⟩ = some (.int .i64 e.st) ∧ W.cell? ⟨B, 2,none⟩ = some (.int .i64 e.lf) ∧ W.cell? ⟨B, 3,none⟩ = some (.string e.bd)) (by kernel_rfl) kx0 (fun hHeld => ?_)
    refine wpAnyH_take (i := 0) (oi := _) (v := .pointer (some ⟨T, 0,none⟩)) rfl (by kernel_rfl) (by kernel_rfl) (by kernel_rfl) (fun _ _ _ h => h) (Or.inl ⟨by rfl, ?_⟩) (by assumption) ?_
    ·intro W hSw
     obtain ⟨p0,p1,p2,p3⟩ := hSw
     go_simp
    refine wpAnyH_take (i := 1) (oi := _) (v := .pointer (some ⟨T, 0,none⟩)) rfl (by kernel_rfl) (by kernel_rfl) (by kernel_rfl) (fun _ _ _ h => h) (Or.inl ⟨by rfl, ?_⟩) (by assumption) ?_
    ·intro W hSw
     obtain ⟨p0,p1,p2,p3⟩ := hSw
     go_simp
    refine wpAnyH_take (i := 2) (oi := _) (v := .pointer (some ⟨T, 0,none⟩)) rfl (by kernel_rfl) (by kernel_rfl) (by kernel_rfl) (fun _ _ _ h => h) (Or.inl ⟨by rfl, ?_⟩) (by assumption) ?_
    ·intro W hSw
     obtain ⟨p0,p1,p2,p3⟩ := hSw
     go_simp
    refine wpAnyH_take (i := 3) (oi := _) (v := .pointer (some ⟨T, 1,none⟩)) rfl (by kernel_rfl) (by kernel_rfl) (by kernel_rfl) (fun _ _ _ h => h) (Or.inl ⟨by rfl, ?_⟩) (by assumption) ?_
    ·intro W hSw
     obtain ⟨p0,p1,p2,p3⟩ := hSw
     go_simp
    refine wpAnyH_take (i := 5) (oi := _) (v := .agg #[.string e.key,.int .i64 e.st,.int .i64 e.lf,.string e.bd]) rfl (by kernel_rfl) (by kernel_rfl) (by kernel_rfl) (fun _ _ _ h => h) (Or.inl ⟨by rfl, ?_⟩) (by assumption) ?_
    ·intro W hSw
     obtain ⟨p0,p1,p2,p3⟩ := hSw
     go_simp
    refine wpAnyH_invM (fun s a W => (W.cell? ⟨B, 0,none⟩ = some (.string e.key) ∧ W.cell? ⟨B, 1,none⟩ = some (.int .i64 e.st) ∧ W.cell? ⟨B, 2,none⟩ = some (.int .i64 e.lf) ∧ W.cell? ⟨B, 3,none⟩ = some (.string e.bd)) ∧ ∃ (b4 b6 b7 b8 b9 : Bool) (y42 y44 y45 y46 : Value),s = #[true,true,true,true,b4,true,b6,b7,b8,b9] ∧ a = ⟨((.pointer (some ⟨T, 0,none⟩) : Value) :: (.agg #[.string e.key,.int .i64 e.st,.int .i64 e.lf,.string e.bd] : Value) :: undef :: (.pointer (some ⟨B, 0,none⟩) : Value) :: (.pointer (some ⟨N, 0,none⟩) : Value) :: (.string ⟨#[]⟩ : Value) :: u6 :: u7 :: u8 :: u9 :: u10 :: u11 :: u12 :: u13 :: u14 :: u15 :: (.pointer (some ⟨T, 0,none⟩) : Value) :: (.agg #[.slice a1 Q.win.length c1,.slice a2 Q.main.length c2,.slice a3 Q.sk.rows.length c3,.int .i64 Q.sk.added] : Value) :: (.pointer (some ⟨T, 0,none⟩) : Value) :: (.pointer (some ⟨T, 2,none⟩) : Value) :: (.string ⟨#[]⟩ : Value) :: (.bool false : Value) :: u22 :: u23 :: u24 :: u25 :: u26 :: u27 :: u28 :: u29 :: u30 :: (.pointer (some ⟨T, 0,none⟩) : Value) :: (.pointer (some ⟨T, 0,none⟩) : Value) :: (.pointer (some ⟨T, 2,none⟩) : Value) :: (.agg #[.slice a1 Q.win.length c1,.slice a2 Q.main.length c2,.slice a3 Q.sk.rows.length c3,.int .i64 Q.sk.added] : Value) :: (.pointer (some ⟨B, 0,none⟩) : Value) :: (.string e.key : Value) :: (.bool true : Value) :: (.pointer (some ⟨T, 0,none⟩) : Value) :: (.pointer (some ⟨T, 0,none⟩) : Value) :: (.pointer (some ⟨T, 0,none⟩) : Value) :: (.pointer (some ⟨T, 1,none⟩) : Value) :: y42 :: (.agg #[.string e.key,.int .i64 e.st,.int .i64 e.lf,.string e.bd] : Value) :: y44 :: y45 :: y46 :: []).toArray, []⟩ ∧ ((b6 = false ∧ b7 = false ∧ b8 = false ∧ b9 = false ∧ (b4 = true → y42 = .slice e0 (R.ents).length e1) ∧ W = w7.drew) ∨ (b4 = true ∧ b6 = true ∧ b9 = false ∧ (b7 = true → y45 = .pointer (some ⟨T, 0,none⟩)) ∧ (b8 = true → y46 = .pointer (some ⟨T, 1,none⟩)) ∧ (b8 = true → b7 = true) ∧ PP W y44) ∨ (b4 = true ∧ b6 = true ∧ b7 = true ∧ b8 = true ∧ b9 = true ∧ ∃ W9,PP W9 y44 ∧ W = W9.setCell ⟨T, 1,none⟩ y44))) (by kernel_rfl) ?_ ?_ ?_ ?_ _ _ _ _ ?_ (by decide)
    ·rintro s a W ⟨_,b4,b6,b7,b8,b9,y42,y44,y45,y46,rfl,_⟩
     rfl
    ·rintro s a W ⟨h,_⟩
     exact h
    ·rintro s a W i ⟨hS,b4,b6,b7,b8,b9,y42,y44,y45,y46,rfl,rfl,hJ⟩ hi'
     obtain ⟨h1,o,ho,hall⟩ := mem_ready.1 hi'
     have hlt' : i < 10 := by simpa using (Array.getElem?_eq_some_iff.1 ho).1
     clear hi'
     rcases (by omega : i = 0 ∨ i = 1 ∨ i = 2 ∨ i = 3 ∨ i = 4 ∨ i = 5 ∨ i = 6 ∨ i = 7 ∨ i = 8 ∨ i = 9) with rfl | rfl | rfl | rfl | rfl | rfl | rfl | rfl | rfl | rfl
     ·simp at h1
     ·simp at h1
     ·simp at h1
     ·simp at h1
     ·have hf : b4 = false := by simpa using h1
      subst hf
      injection ho with ho'
      subst ho'
      simp [Region.binds] at hall
      rcases hJ with ⟨e6,e7,e8,e9,c4,hw⟩ | ⟨e4,e6,e9,f7,f8,g8,hp⟩ | ⟨e4,e6,e7,e8,e9,W9,hp,_⟩
      case inr.inl => cases e4
      case inr.inr => cases e4
      subst hw
      refine wpOp_value (w' := w7.drew) (.slice e0 (R.ents).length e1) rfl rfl (by go_simp) ?_
      exact ⟨hS,true,b6,b7,b8,b9,_,y44,y45,y46,rfl,rfl,.inl ⟨e6,e7,e8,e9,fun _ => rfl,rfl⟩⟩
     ·simp at h1
     ·have hf : b6 = false := by simpa using h1
      subst hf
      injection ho with ho'
      subst ho'
      simp [Region.binds] at hall
      rcases hJ with ⟨e6,e7,e8,e9,c4,hw⟩ | ⟨e4,e6,e9,f7,f8,g8,hp⟩ | ⟨e4,e6,e7,e8,e9,W9,hp,_⟩
      case inr.inl => cases e6
      case inr.inr => cases e6
      have h4 : b4 = true := by simp_all
      have hy := c4 h4
      subst hw hy
      refine wpOp_enter 41 #[.slice e0 (R.ents).length e1,.agg #[.string e.key,.int .i64 e.st,.int .i64 e.lf,.string e.bd]] rfl rfl (by go_simp) ?_
      refine cP.out.mono ?_
      rintro e' w9 ⟨y,rfl,hp,hS3⟩
      exact ⟨y,rfl,hS3,b4,true,b7,b8,b9,_,y,y45,y46,rfl,rfl,.inr (.inl ⟨h4,rfl,e9,fun h => (by rw [e7] at h; cases h),fun h => (by rw [e8] at h; cases h),fun h => (by rw [e8] at h; cases h),hp⟩)⟩
     ·have hf : b7 = false := by simpa using h1
      subst hf
      injection ho with ho'
      subst ho'
      simp [Region.binds] at hall
      rcases hJ with ⟨e6,e7,e8,e9,c4,hw⟩ | ⟨e4,e6,e9,f7,f8,g8,hp⟩ | ⟨e4,e6,e7,e8,e9,W9,hp,_⟩
      case inl => simp_all
      case inr.inr => cases e7
      refine wpOp_value (w' := W) (.pointer (some ⟨T, 0,none⟩)) rfl rfl (by go_simp) ?_
      exact ⟨hS,b4,b6,true,b8,b9,y42,y44,_,y46,rfl,rfl,.inr (.inl ⟨e4,e6,e9,fun _ => rfl,f8,fun _ => rfl,hp⟩)⟩
     ·have hf : b8 = false := by simpa using h1
      subst hf
      injection ho with ho'
      subst ho'
      simp [Region.binds] at hall
      rcases hJ with ⟨e6,e7,e8,e9,c4,hw⟩ | ⟨e4,e6,e9,f7,f8,g8,hp⟩ | ⟨e4,e6,e7,e8,e9,W9,hp,_⟩
      case inl => simp_all
      case inr.inr => cases e8
      have h7 : b7 = true := by simp_all
      have hy := f7 h7
      subst hy
      refine wpOp_value (w' := W) (.pointer (some ⟨T, 1,none⟩)) rfl rfl (by go_simp) ?_
      exact ⟨hS,b4,b6,b7,true,b9,y42,y44,_,_,rfl,rfl,.inr (.inl ⟨e4,e6,e9,fun _ => rfl,fun _ => rfl,fun _ => h7,hp⟩)⟩
     ·have hf : b9 = false := by simpa using h1
      subst hf
      injection ho with ho'
      subst ho'
      simp [Region.binds] at hall
      rcases hJ with ⟨e6,e7,e8,e9,c4,hw⟩ | ⟨e4,e6,e9,f7,f8,g8,hp⟩ | ⟨e4,e6,e7,e8,e9,W9,hp,_⟩
      case inl => simp_all
      case inr.inr => cases e9
      have h8 : b8 = true := by simp_all
      have h7 := g8 h8
      have hy := f8 h8
      subst hy
      have hp' := hp
      rw [hPP] at hp'
      obtain ⟨p0',p1',rfl,ho3,hb3,x7,xt⟩ := hp'
      refine wpOp_skip (w' := W.setCell ⟨T, 1,none⟩ (.slice p0' (insE R.ents e).length p1')) rfl rfl (by go_simp) ?_
      exact ⟨KE.out W _ hS,b4,b6,b7,b8,true,y42,_,y45,_,rfl,rfl,.inr (.inr ⟨e4,e6,h7,h8,rfl,W,hp,rfl⟩)⟩
    ·rintro s a W ⟨_,b4,b6,b7,b8,b9,y42,y44,y45,y46,rfl,rfl,hJ⟩ hall
     have h0 : b9 = true := by simpa using hall 9 (by simp)
     rcases hJ with ⟨e6,e7,e8,e9,c4,hw⟩ | ⟨e4,e6,e9,f7,f8,g8,hp⟩ | ⟨e4,e6,e7,e8,e9,W9,hp,rfl⟩
     case inl => rw [e9] at h0; cases h0
     case inr.inl => rw [e9] at h0; cases h0
     have HG2 : Hid _ := (fun (_ : Unit) => HG.out W9 y44 hp)
     clear hp hall
     go_wp2_with fail
     refine bodyPost_end (results_none rfl _ _ _) rfl ⟨rfl, ?_⟩
     exact HG2.out ()
    ·exact ⟨kx0,false,false,false,false,false,_,_,_,_,rfl,rfl,.inl ⟨rfl,rfl,rfl,rfl,fun h => (by cases h),rfl⟩⟩
  ·have HSE : Hid (storeE R e = R.ents.filter fun x => !decide (x.key = oo)) := by show _ = _; unfold storeE; rw [HQ.out.2,if_neg (show ¬ oo = noKey from hoe)]
   have hz1 := bytes_no0 hoe
   clear hoe
   have t1 := HV3.out.box.cells.2.1
   have hea : NAt w3 e0 R.ents w3.heap.size := by
    obtain ⟨q5,q6,e5,e6⟩ := HV3.out.own.at.e
    dsimp only at e5 e6
    simp only [Value.slice.injEq] at e5
    obtain ⟨rfl,_,rfl⟩ := e5
    exact e6
   have cW := l16Without_any w3 e0 e1 R.ents oo hea HN.out.2.2.2.2.2.1
   clear hea
   dsimp only at t1
   go_wp2_with fail
   refine cW.mono ?_
   rintro e' wa ⟨v,rfl,hoa,hba⟩
   obtain ⟨v0,v1,rfl,_⟩ := hoa.at
   clear cW t1 hz1
   obtain ⟨EL,hEL⟩ : ∃ L,(R.ents.filter fun x => !decide (x.key = oo)) = L := ⟨_,rfl⟩
   rw [hEL] at hoa ⊢
   rw [hEL] at HSE
   have HEL : Hid (EL.length ≤ 100000) := by show _ ≤ _; rw [← hEL]; exact Nat.le_trans (List.length_filter_le _ _) HN.out.2.2.2.2.2.1
   clear hEL
   obtain ⟨wb,hwb⟩ : ∃ y,wa.setCell ⟨T, 1,none⟩ (.slice v0 EL.length v1) = y := ⟨_,rfl⟩
   obtain ⟨hAb,hbb⟩ := HV3.out.setE hba hoa
   rw [hwb] at hAb hbb
   have t1 := (HV3.out.on hba).box.cells.2.1
   have g1 := (HV3.out.on hba).box.thaw 1
   dsimp only at t1
   have HEb : Hid (EnB wb B 47 e) := by
    show EnB _ _ _ _
    rw [← hwb]
    exact (Below.heap_setCell _ _ _ _ (by show B ≠ T; have := HN.out; omega)).trans (HE3.out.on hba)
   have HVb : Hid (PvAt wb lo T ⟨.slice v0 EL.length v1,.slice a1 Q.win.length c1,.slice a2 Q.main.length c2,.slice a3 Q.sk.rows.length c3,.slice f0 R.fes.length f1,.slice c0 R.cls.length c1'⟩ ⟨R.now,EL,Q,R.fes,R.cls,R.hits⟩) := hAb
   have HBb : Hid (Below lo w wb) := HB3.out.trans hbb
   have HWb : Hid (wa.setCell ⟨T, 1,none⟩ (.slice v0 EL.length v1) = wb) := hwb
   clear hAb hwb hoa hba hbb HV3 HE3 HB3
   go_upto_region 5 with fail
   rw [HWb.out]
   clear t1 g1 HWb
   have hpl : PolAt wb a1 a2 a3 Q wb.heap.size := by
    have h := HVb.out.own.at
    obtain ⟨q1,q2,e1,e2⟩ := h.pw
    obtain ⟨q3,q4,e3,e4⟩ := h.pm
    obtain ⟨q5,q6,e5,e6⟩ := h.pk
    dsimp only at e1 e2 e3 e4 e5 e6
    simp only [Value.slice.injEq] at e1 e3 e5
    obtain ⟨rfl,_,rfl⟩ := e1
    obtain ⟨rfl,_,rfl⟩ := e3
    obtain ⟨rfl,_,rfl⟩ := e5
    exact ⟨e2,e4,e6⟩
   have hd5 : Below wb.heap.size wb wb.drew := (Below.refl _ _).drew
   have KS5 : ∀ W,Below wb.heap.size wb W → W.cell? ⟨T, 2,none⟩ = some (.slice a1 Q.win.length c1) ∧ W.cell? ⟨T, 3,none⟩ = some (.slice a2 Q.main.length c2) ∧ W.cell? ⟨T, 4,none⟩ = some (.slice a3 Q.sk.rows.length c3) ∧ W.cell? ⟨T, 5,none⟩ = some (.int .i64 Q.sk.added) ∧ W.cell? ⟨B, 0,none⟩ = some (.string e.key) := fun W h => by
    obtain ⟨_,_,n2,n3,n4,n5,_,_,_⟩ := (HVb.out.on h).box.cells
    exact ⟨n2,n3,n4,n5,(HEb.out.on h).cells.1⟩
   have cH : Hid (Calls Tryz.prog 40 #[.agg #[.slice a1 Q.win.length c1,.slice a2 Q.main.length c2,.slice a3 Q.sk.rows.length c3,.int .i64 Q.sk.added],.string e.key] wb.drew fun e' w' => e' = .returned (.bool bk) ∧ Below wb.heap.size wb w') := by
    have h := specPolicyHas_any wb.drew a1 a2 a3 c1 c2 c3 Q e.key (hpl.on hd5) HQS.out.1 HQS.out.2
    rw [HHQ.out] at h
    refine h.mono ?_
    rintro e' w' ⟨he,hb⟩
    exact ⟨he,hd5.trans (hb.mono hd5.size)⟩
   clear hpl
   go_upto_region 5 with fail
   go_region_held3 (fun W => W.cell? ⟨T, 2,none⟩ = some (.slice a1 Q.win.length c1) ∧ W.cell? ⟨T, 3,none⟩ = some (.slice a2 Q.main.length c2) ∧ W.cell? ⟨T, 4,none⟩ = some (.slice a3 Q.sk.rows.length c3) ∧ W.cell? ⟨T, 5,none⟩ = some (.int .i64 Q.sk.added) ∧ W.cell? ⟨B, 0,none⟩ = some (.string e.key)) (first | with_reducible exact KS5 _ hd5 | with_reducible exact KS5 _ hb7)
    (first
     | (go_at_call 40; with_reducible refine cH.out.mono ?_; rintro e' w7 ⟨rfl,hb7⟩))
   have HV7 : Hid (PvAt w7 lo T ⟨.slice v0 EL.length v1,.slice a1 Q.win.length c1,.slice a2 Q.main.length c2,.slice a3 Q.sk.rows.length c3,.slice f0 R.fes.length f1,.slice c0 R.cls.length c1'⟩ ⟨R.now,EL,Q,R.fes,R.cls,R.hits⟩) := HVb.out.on hb7
   have HE7 : Hid (EnB w7 B 47 e) := HEb.out.on hb7
   have HB7 : Hid (Below lo w w7) := HBb.out.trans (hb7.mono HVb.out.lt)
   clear KS5 cH hd5 hb7 HVb HEb HBb
   cases bk with
   | false =>
    have HF : Hid (storeR R e = ⟨R.now,EL,Q,R.fes,R.cls,R.hits⟩) := by
     show _ = _
     unfold storeR
     rw [if_neg (by rw [HKB.out]; decide),HSE.out,HQ.out.1]
    go_wp2_with fail
    exact bodyPost_end (results_none rfl _ _ _) rfl ⟨rfl,_,by rw [HF.out]; exact HV7.out,HB7.out⟩
   | true =>
    have HF : Hid (storeR R e = ⟨R.now,insE (EL) e,Q,R.fes,R.cls,R.hits⟩) := by
     show _ = _
     unfold storeR
     rw [if_pos HKB.out,HSE.out,HQ.out.1]
    have hea : NAt w7 v0 EL w7.heap.size := by
     obtain ⟨q5,q6,e5,e6⟩ := HV7.out.own.at.e
     dsimp only at e5 e6
     simp only [Value.slice.injEq] at e5
     obtain ⟨rfl,_,rfl⟩ := e5
     exact e6
    have hd7 : Below w7.heap.size w7 w7.drew := (Below.refl _ _).drew
    have n7 : w7.drew.cell? ⟨T, 1,none⟩ = some (.slice v0 (EL).length v1) := (HV7.out.on hd7).box.cells.2.1
    have K2 : ∀ W,EnB W B 47 e → W.cell? ⟨B, 0,none⟩ = some (.string e.key) ∧ W.cell? ⟨B, 1,none⟩ = some (.int .i64 e.st) ∧ W.cell? ⟨B, 2,none⟩ = some (.int .i64 e.lf) ∧ W.cell? ⟨B, 3,none⟩ = some (.string e.bd) := fun W h => h.cells
    have kx0 := K2 w7.drew (HE7.out.on hd7)
    obtain ⟨PP,hPP⟩ : ∃ PP : World → Value → Prop,PP = (fun W y => ∃ p0 p1,y = .slice p0 (insE EL e).length p1 ∧ OwnN W w7.heap.size 47 (.slice p0 (insE EL e).length p1) (insE EL e) ∧ Below w7.heap.size w7 W ∧ W.cell? ⟨T, 1,none⟩ = some (.slice v0 (EL).length v1) ∧ W.frozen? ⟨T, 1,none⟩ = false) := ⟨_,rfl⟩
    have cP : Hid (Calls Tryz.prog 41 #[.slice v0 (EL).length v1,.agg #[.string e.key,.int .i64 e.st,.int .i64 e.lf,.string e.bd]] w7.drew fun e' w' => ∃ y,e' = .returned y ∧ PP w' y ∧ (w'.cell? ⟨B, 0,none⟩ = some (.string e.key) ∧ w'.cell? ⟨B, 1,none⟩ = some (.int .i64 e.st) ∧ w'.cell? ⟨B, 2,none⟩ = some (.int .i64 e.lf) ∧ w'.cell? ⟨B, 3,none⟩ = some (.string e.bd))) := by
     refine (l15PutX_any w7.drew v0 v1 EL e (hea.on hd7) HEL.out).mono ?_
     rintro e' w' ⟨v,rfl,ho,hb⟩
     obtain ⟨p0,p1,rfl,_⟩ := ho.at
     have hb2 := hd7.trans (hb.mono hd7.size)
     exact ⟨_,rfl,by rw [hPP]; exact ⟨p0,p1,rfl,ho.mono hd7.size,hb2,(HV7.out.on hb2).box.cells.2.1,(HV7.out.on hb2).box.thaw 1⟩,K2 w' (HE7.out.on hb2)⟩
    have KE : Hid (∀ (W : World) (x : Value),(W.cell? ⟨B, 0,none⟩ = some (.string e.key) ∧ W.cell? ⟨B, 1,none⟩ = some (.int .i64 e.st) ∧ W.cell? ⟨B, 2,none⟩ = some (.int .i64 e.lf) ∧ W.cell? ⟨B, 3,none⟩ = some (.string e.bd)) → ((W.setCell ⟨T, 1,none⟩ x).cell? ⟨B, 0,none⟩ = some (.string e.key) ∧ (W.setCell ⟨T, 1,none⟩ x).cell? ⟨B, 1,none⟩ = some (.int .i64 e.st) ∧ (W.setCell ⟨T, 1,none⟩ x).cell? ⟨B, 2,none⟩ = some (.int .i64 e.lf) ∧ (W.setCell ⟨T, 1,none⟩ x).cell? ⟨B, 3,none⟩ = some (.string e.bd))) := by
     show ∀ (W : World) (x : Value),_ → _
     intro W x h
     have hne : T ≠ B := by have := HN.out.2.1; omega
     obtain ⟨p0,p1,p2,p3⟩ := h
     exact ⟨cell_farS hne p0,cell_farS hne p1,cell_farS hne p2,cell_farS hne p3⟩
    have HG : Hid (∀ (W9 : World) (y : Value),PP W9 y → ∃ XZ,PvAt (W9.setCell ⟨T, 1,none⟩ y) lo T XZ (storeR R e) ∧ Below lo w (W9.setCell ⟨T, 1,none⟩ y)) := by
     show ∀ (W9 : World) (y : Value),_ → _
     intro W9 y hp
     rw [hPP] at hp
     obtain ⟨p0',p1',rfl,ho3,hb3,_,_⟩ := hp
     have hFF := HV7.out.setE hb3 ho3
     rw [HF.out]
     exact ⟨_,hFF.1,HB7.out.trans hFF.2⟩
    clear hd7 K2 hea
    go_upto_region 6 with fail
    refine wp_region_held_drew (S := fun W => W.cell? ⟨B, 0,none⟩ = some (.string e.key) ∧ W.cell? ⟨B, 1,none⟩ = some (.int .i64 e.st) ∧ W.cell? ⟨B, 2,none⟩ = some (.int .i64 e.lf) ∧ W.cell? ⟨B, 3,none⟩ = some (.string e.bd)) (by kernel_rfl) kx0 (fun hHeld => ?_)
    refine wpAnyH_take (i := 0) (oi := _) (v := .pointer (some ⟨T, 0,none⟩)) rfl (by kernel_rfl) (by kernel_rfl) (by kernel_rfl) (fun _ _ _ h => h) (Or.inl ⟨by rfl, ?_⟩) (by assumption) ?_
    ·intro W hSw
     obtain ⟨p0,p1,p2,p3⟩ := hSw
     go_simp
    refine wpAnyH_take (i := 1) (oi := _) (v := .pointer (some ⟨T, 0,none⟩)) rfl (by kernel_rfl) (by kernel_rfl) (by kernel_rfl) (fun _ _ _ h => h) (Or.inl ⟨by rfl, ?_⟩) (by assumption) ?_
    ·intro W hSw
     obtain ⟨p0,p1,p2,p3⟩ := hSw
     go_simp
    refine wpAnyH_take (i := 2) (oi := _) (v := .pointer (some ⟨T, 0,none⟩)) rfl (by kernel_rfl) (by kernel_rfl) (by kernel_rfl) (fun _ _ _ h => h) (Or.inl ⟨by rfl, ?_⟩) (by assumption) ?_
    ·intro W hSw
     obtain ⟨p0,p1,p2,p3⟩ := hSw
     go_simp
    refine wpAnyH_take (i := 3) (oi := _) (v := .pointer (some ⟨T, 1,none⟩)) rfl (by kernel_rfl) (by kernel_rfl) (by kernel_rfl) (fun _ _ _ h => h) (Or.inl ⟨by rfl, ?_⟩) (by assumption) ?_
    ·intro W hSw
     obtain ⟨p0,p1,p2,p3⟩ := hSw
     go_simp
    refine wpAnyH_take (i := 5) (oi := _) (v := .agg #[.string e.key,.int .i64 e.st,.int .i64 e.lf,.string e.bd]) rfl (by kernel_rfl) (by kernel_rfl) (by kernel_rfl) (fun _ _ _ h => h) (Or.inl ⟨by rfl, ?_⟩) (by assumption) ?_
    ·intro W hSw
     obtain ⟨p0,p1,p2,p3⟩ := hSw
     go_simp
    refine wpAnyH_invM (fun s a W => (W.cell? ⟨B, 0,none⟩ = some (.string e.key) ∧ W.cell? ⟨B, 1,none⟩ = some (.int .i64 e.st) ∧ W.cell? ⟨B, 2,none⟩ = some (.int .i64 e.lf) ∧ W.cell? ⟨B, 3,none⟩ = some (.string e.bd)) ∧ ∃ (b4 b6 b7 b8 b9 : Bool) (y42 y44 y45 y46 : Value),s = #[true,true,true,true,b4,true,b6,b7,b8,b9] ∧ a = ⟨((.pointer (some ⟨T, 0,none⟩) : Value) :: (.agg #[.string e.key,.int .i64 e.st,.int .i64 e.lf,.string e.bd] : Value) :: undef :: (.pointer (some ⟨B, 0,none⟩) : Value) :: (.pointer (some ⟨N, 0,none⟩) : Value) :: (.string oo : Value) :: u6 :: u7 :: u8 :: u9 :: u10 :: u11 :: u12 :: u13 :: u14 :: u15 :: (.pointer (some ⟨T, 0,none⟩) : Value) :: (.agg #[.slice a1 Q.win.length c1,.slice a2 Q.main.length c2,.slice a3 Q.sk.rows.length c3,.int .i64 Q.sk.added] : Value) :: (.pointer (some ⟨T, 0,none⟩) : Value) :: (.pointer (some ⟨T, 2,none⟩) : Value) :: (.string oo : Value) :: (.bool true : Value) :: (.pointer (some ⟨T, 0,none⟩) : Value) :: (.pointer (some ⟨T, 0,none⟩) : Value) :: (.pointer (some ⟨T, 0,none⟩) : Value) :: (.pointer (some ⟨T, 1,none⟩) : Value) :: (.slice e0 R.ents.length e1 : Value) :: (.string oo : Value) :: (.slice v0 EL.length v1 : Value) :: (.pointer (some ⟨T, 0,none⟩) : Value) :: (.pointer (some ⟨T, 1,none⟩) : Value) :: (.pointer (some ⟨T, 0,none⟩) : Value) :: (.pointer (some ⟨T, 0,none⟩) : Value) :: (.pointer (some ⟨T, 2,none⟩) : Value) :: (.agg #[.slice a1 Q.win.length c1,.slice a2 Q.main.length c2,.slice a3 Q.sk.rows.length c3,.int .i64 Q.sk.added] : Value) :: (.pointer (some ⟨B, 0,none⟩) : Value) :: (.string e.key : Value) :: (.bool true : Value) :: (.pointer (some ⟨T, 0,none⟩) : Value) :: (.pointer (some ⟨T, 0,none⟩) : Value) :: (.pointer (some ⟨T, 0,none⟩) : Value) :: (.pointer (some ⟨T, 1,none⟩) : Value) :: y42 :: (.agg #[.string e.key,.int .i64 e.st,.int .i64 e.lf,.string e.bd] : Value) :: y44 :: y45 :: y46 :: []).toArray, []⟩ ∧ ((b6 = false ∧ b7 = false ∧ b8 = false ∧ b9 = false ∧ (b4 = true → y42 = .slice v0 (EL).length v1) ∧ W = w7.drew) ∨ (b4 = true ∧ b6 = true ∧ b9 = false ∧ (b7 = true → y45 = .pointer (some ⟨T, 0,none⟩)) ∧ (b8 = true → y46 = .pointer (some ⟨T, 1,none⟩)) ∧ (b8 = true → b7 = true) ∧ PP W y44) ∨ (b4 = true ∧ b6 = true ∧ b7 = true ∧ b8 = true ∧ b9 = true ∧ ∃ W9,PP W9 y44 ∧ W = W9.setCell ⟨T, 1,none⟩ y44))) (by kernel_rfl) ?_ ?_ ?_ ?_ _ _ _ _ ?_ (by decide)
    ·rintro s a W ⟨_,b4,b6,b7,b8,b9,y42,y44,y45,y46,rfl,_⟩
     rfl
    ·rintro s a W ⟨h,_⟩
     exact h
    ·rintro s a W i ⟨hS,b4,b6,b7,b8,b9,y42,y44,y45,y46,rfl,rfl,hJ⟩ hi'
     obtain ⟨h1,o,ho,hall⟩ := mem_ready.1 hi'
     have hlt' : i < 10 := by simpa using (Array.getElem?_eq_some_iff.1 ho).1
     clear hi'
     rcases (by omega : i = 0 ∨ i = 1 ∨ i = 2 ∨ i = 3 ∨ i = 4 ∨ i = 5 ∨ i = 6 ∨ i = 7 ∨ i = 8 ∨ i = 9) with rfl | rfl | rfl | rfl | rfl | rfl | rfl | rfl | rfl | rfl
     ·simp at h1
     ·simp at h1
     ·simp at h1
     ·simp at h1
     ·have hf : b4 = false := by simpa using h1
      subst hf
      injection ho with ho'
      subst ho'
      simp [Region.binds] at hall
      rcases hJ with ⟨e6,e7,e8,e9,c4,hw⟩ | ⟨e4,e6,e9,f7,f8,g8,hp⟩ | ⟨e4,e6,e7,e8,e9,W9,hp,_⟩
      case inr.inl => cases e4
      case inr.inr => cases e4
      subst hw
      refine wpOp_value (w' := w7.drew) (.slice v0 (EL).length v1) rfl rfl (by go_simp) ?_
      exact ⟨hS,true,b6,b7,b8,b9,_,y44,y45,y46,rfl,rfl,.inl ⟨e6,e7,e8,e9,fun _ => rfl,rfl⟩⟩
     ·simp at h1
     ·have hf : b6 = false := by simpa using h1
      subst hf
      injection ho with ho'
      subst ho'
      simp [Region.binds] at hall
      rcases hJ with ⟨e6,e7,e8,e9,c4,hw⟩ | ⟨e4,e6,e9,f7,f8,g8,hp⟩ | ⟨e4,e6,e7,e8,e9,W9,hp,_⟩
      case inr.inl => cases e6
      case inr.inr => cases e6
      have h4 : b4 = true := by simp_all
      have hy := c4 h4
      subst hw hy
      refine wpOp_enter 41 #[.slice v0 (EL).length v1,.agg #[.string e.key,.int .i64 e.st,.int .i64 e.lf,.string e.bd]] rfl rfl (by go_simp) ?_
      refine cP.out.mono ?_
      rintro e' w9 ⟨y,rfl,hp,hS3⟩
      exact ⟨y,rfl,hS3,b4,true,b7,b8,b9,_,y,y45,y46,rfl,rfl,.inr (.inl ⟨h4,rfl,e9,fun h => (by rw [e7] at h; cases h),fun h => (by rw [e8] at h; cases h),fun h => (by rw [e8] at h; cases h),hp⟩)⟩
     ·have hf : b7 = false := by simpa using h1
      subst hf
      injection ho with ho'
      subst ho'
      simp [Region.binds] at hall
      rcases hJ with ⟨e6,e7,e8,e9,c4,hw⟩ | ⟨e4,e6,e9,f7,f8,g8,hp⟩ | ⟨e4,e6,e7,e8,e9,W9,hp,_⟩
      case inl => simp_all
      case inr.inr => cases e7
      refine wpOp_value (w' := W) (.pointer (some ⟨T, 0,none⟩)) rfl rfl (by go_simp) ?_
      exact ⟨hS,b4,b6,true,b8,b9,y42,y44,_,y46,rfl,rfl,.inr (.inl ⟨e4,e6,e9,fun _ => rfl,f8,fun _ => rfl,hp⟩)⟩
     ·have hf : b8 = false := by simpa using h1
      subst hf
      injection ho with ho'
      subst ho'
      simp [Region.binds] at hall
      rcases hJ with ⟨e6,e7,e8,e9,c4,hw⟩ | ⟨e4,e6,e9,f7,f8,g8,hp⟩ | ⟨e4,e6,e7,e8,e9,W9,hp,_⟩
      case inl => simp_all
      case inr.inr => cases e8
      have h7 : b7 = true := by simp_all
      have hy := f7 h7
      subst hy
      refine wpOp_value (w' := W) (.pointer (some ⟨T, 1,none⟩)) rfl rfl (by go_simp) ?_
      exact ⟨hS,b4,b6,b7,true,b9,y42,y44,_,_,rfl,rfl,.inr (.inl ⟨e4,e6,e9,fun _ => rfl,fun _ => rfl,fun _ => h7,hp⟩)⟩
     ·have hf : b9 = false := by simpa using h1
      subst hf
      injection ho with ho'
      subst ho'
      simp [Region.binds] at hall
      rcases hJ with ⟨e6,e7,e8,e9,c4,hw⟩ | ⟨e4,e6,e9,f7,f8,g8,hp⟩ | ⟨e4,e6,e7,e8,e9,W9,hp,_⟩
      case inl => simp_all
      case inr.inr => cases e9
      have h8 : b8 = true := by simp_all
      have h7 := g8 h8
      have hy := f8 h8
      subst hy
      have hp' := hp
      rw [hPP] at hp'
      obtain ⟨p0',p1',rfl,ho3,hb3,x7,xt⟩ := hp'
      refine wpOp_skip (w' := W.setCell ⟨T, 1,none⟩ (.slice p0' (insE EL e).length p1')) rfl rfl (by go_simp) ?_
      exact ⟨KE.out W _ hS,b4,b6,b7,b8,true,y42,_,y45,_,rfl,rfl,.inr (.inr ⟨e4,e6,h7,h8,rfl,W,hp,rfl⟩)⟩
    ·rintro s a W ⟨_,b4,b6,b7,b8,b9,y42,y44,y45,y46,rfl,rfl,hJ⟩ hall
     have h0 : b9 = true := by simpa using hall 9 (by simp)
     rcases hJ with ⟨e6,e7,e8,e9,c4,hw⟩ | ⟨e4,e6,e9,f7,f8,g8,hp⟩ | ⟨e4,e6,e7,e8,e9,W9,hp,rfl⟩
     case inl => rw [e9] at h0; cases h0
     case inr.inl => rw [e9] at h0; cases h0
     have HG2 : Hid _ := (fun (_ : Unit) => HG.out W9 y44 hp)
     clear hp hall
     go_wp2_with fail
     refine bodyPost_end (results_none rfl _ _ _) rfl ⟨rfl, ?_⟩
     exact HG2.out ()
    ·exact ⟨kx0,false,false,false,false,false,_,_,_,_,rfl,rfl,.inl ⟨rfl,rfl,rfl,rfl,fun h => (by cases h),rfl⟩⟩
end Go.Proofs.YthfjfccdelbkhaaGreatDoor
