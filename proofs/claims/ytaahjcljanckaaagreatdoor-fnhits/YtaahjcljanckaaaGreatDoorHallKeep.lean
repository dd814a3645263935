/- A hall keeps an entry. Written by mkkeep.py. -/
import Derived.Test.YtaahjcljanckaaaGreatDoorHallSetJ
import Derived.Test.YtaahjcljanckaaaGreatDoorPartOfIJ
import Derived.Test.YtaahjcljanckaaaGreatDoorReachedCJ
import Derived.Test.YtaahjcljanckaaaGreatDoorSkBumpImplJ
import Derived.Test.YtaahjcljanckaaaGreatDoorPxCliImplJ
import Derived.Test.YtaahjcljanckaaaGreatDoorEntPlaceJ
import Derived.Test.YtaahjcljanckaaaGreatDoorSkCopySpecJ
import Derived.Test.YtaahjcljanckaaaGreatDoorHallSeatJ
import Derived.Deep.DeepCutAuto
import Derived.Deep.RegionHeld3
namespace Go.Proofs.YtaahjcljanckaaaGreatDoor
open Go.RowKit Go.Sort
def TchB (be T : Nat) (w w' : World) : Prop := ∀ j,j < be → j ≠ T → w'.heap[j]? = w.heap[j]?
theorem TchB.trans {be T : Nat} {w w' w'' : World} (h : TchB be T w w') (h' : TchB be T w' w'') : TchB be T w w'' := fun j hj hn => (h' j hj hn).trans (h j hj hn)
theorem TchB.below {be T A : Nat} {w w' : World} (h : Below A w w') (hA : be ≤ A) : TchB be T w w' := fun j hj _ => h.block j (by omega)
theorem TchB.tch {be T : Nat} {S : Nat → Prop} {w w' : World} (h : Tch S w w') (hA : be ≤ w.heap.size) (hS : ∀ j,S j → j = T ∨ be ≤ j) : TchB be T w w' := fun j hj hn => h.2 j (by omega) (fun hs => (hS j hs).elim hn (fun h => by omega))
theorem TchB.set {be T i : Nat} {w : World} {v : Value} : TchB be T w (w.setCell ⟨T,i,none⟩ v) := fun j _ hn => Below.heap_setCell _ _ _ _ (by exact hn)
theorem OwnN.raise {w : World} {base be : Nat} {e : TypeId} {v : Value} {L : List En} (h : OwnN w base e v L) (hb : ∀ j,v.ownBlock = some j → be ≤ j) : OwnN w be e v L := by
 refine ⟨h.1, ?_⟩
 rcases h.2 with h | ⟨g,cap,cur,hv,_,rest⟩
 ·exact .inl h
 ·exact .inr ⟨g,cap,cur,hv,hb g (by rw [hv]; rfl),rest⟩
theorem cell_far4 {w : World} {g g' i i' : Nat} {u v : Value} (hne : g ≠ g') (h : w.cell? ⟨g',i',none⟩ = some u) : (w.setCell ⟨g,i,none⟩ v).cell? ⟨g',i',none⟩ = some u := by
 rw [World.cell?_setCell_other _ _ _ _ (by simp)]; exact h
set_option maxRecDepth 100000 in
set_option maxHeartbeats 8000000 in
theorem hallKeep_any (w : World) (lo T be : Nat) (X : Pc) (R : Prx) (e : En) (H : HallAt w lo T X R) (hlb : lo ≤ be) (hbe : be ≤ w.heap.size) (hoe : ∀ j,X.e.ownBlock = some j → be ≤ j) (hU : UpK R.ents) (hsz : PxSz R) (hk : e.key.size ≤ 1048576) (htab : Tab w) :
  Calls Tryz.prog 80 #[.pointer (some ⟨T, 0,none⟩),.agg #[.string e.key,.int .i64 e.st,.int .i64 e.lf,.string e.bd]] w fun e' w' => e' = .returned (.tuple #[]) ∧ ∃ Y : Pc,HallAt w' lo T Y (keepR R e) ∧ Below lo w w' ∧ (∀ j,Y.e.ownBlock = some j → be ≤ j) ∧ TchB be T w w' := by
 obtain ⟨l1,l2,l3,l4⟩ := hsz.parts
 obtain ⟨e0,e1,aw,cw,am,cm,ak,ck,f0,f1,c0,c1',rfl⟩ := H.own.slices
 obtain ⟨B,hB⟩ : ∃ B,w.heap.size = B := ⟨_,rfl⟩
 have HOE : Hid (lo ≤ be ∧ be ≤ B ∧ ∀ j,(Value.slice e0 R.ents.length e1).ownBlock = some j → be ≤ j) := ⟨hlb,by rw [← hB]; exact hbe,hoe⟩
 obtain ⟨w1,hw1⟩ : ∃ x,w.alloc (.cells #[.string e.key,.int .i64 e.st,.int .i64 e.lf,.string e.bd] 65) = x := ⟨_,rfl⟩
 have hb1 : Below w.heap.size w w1 := by rw [← hw1]; exact (Below.refl _ _).alloc (Nat.le_refl _) _
 have HBE : Hid (EnB w1 B 65 e) := by rw [← hw1, ← hB]; exact EnB.new w _ e
 have HH1 : Hid (HallAt w1 lo T ⟨.slice e0 R.ents.length e1,.slice aw R.pol.win.length cw,.slice am R.pol.main.length cm,.slice ak R.pol.sk.rows.length ck,.slice f0 R.fes.length f1,.slice c0 R.cls.length c1'⟩ R) := H.on hb1
 have HW : Hid (w.alloc (.cells #[.string e.key,.int .i64 e.st,.int .i64 e.lf,.string e.bd] 65) = w1) := hw1
 have HN : Hid (lo ≤ B ∧ T < B ∧ w1.heap.size = B + 1 ∧ (∀ j,(Value.slice e0 R.ents.length e1).ownBlock = some j → j < B) ∧ Below lo w w1 ∧ R.ents.length ≤ 1048576 ∧ UpK R.ents ∧ e.key.size ≤ 1048576) := ⟨by rw [← hB]; exact H.lt,by rw [← hB]; exact H.box.lt,by rw [← hw1]; simp [hB],fun j hj => by rw [← hB]; exact (H.own.e.lt j hj).2,hb1.mono H.lt,l1,hU,hk⟩
 obtain ⟨Q,hQ⟩ : ∃ Q,(touchP R.pol e.key).1 = Q := ⟨_,rfl⟩
 obtain ⟨oo,hoo⟩ : ∃ o,(touchP R.pol e.key).2 = o := ⟨_,rfl⟩
 have HQ : Hid ((touchP R.pol e.key).1 = Q ∧ (touchP R.pol e.key).2 = oo) := ⟨hQ,hoo⟩
 have HQS : Hid (Q.win.length ≤ 10000000 ∧ Q.main.length ≤ 10000000) := by
  have h := (touchP_sz e.key hsz.parts.2.1).parts
  rw [hQ] at h
  exact ⟨by omega,by omega⟩
 have KS : ∀ W,Below w1.heap.size w1 W → W.cell? ⟨T, 2,none⟩ = some (.slice aw R.pol.win.length cw) ∧ W.cell? ⟨T, 3,none⟩ = some (.slice am R.pol.main.length cm) ∧ W.cell? ⟨T, 4,none⟩ = some (.slice ak R.pol.sk.rows.length ck) ∧ W.cell? ⟨T, 5,none⟩ = some (.int .i64 R.pol.sk.added) ∧ W.cell? ⟨B, 0,none⟩ = some (.string e.key) := fun W h => by
  obtain ⟨_,_,n2,n3,n4,n5,_,_,_⟩ := (HH1.out.on h).box.cells
  exact ⟨n2,n3,n4,n5,(HBE.out.on h).cells.1⟩
 have CT : Hid (∀ W,Below w1.heap.size w1 W → Calls Tryz.prog 43 #[.agg #[.slice aw R.pol.win.length cw,.slice am R.pol.main.length cm,.slice ak R.pol.sk.rows.length ck,.int .i64 R.pol.sk.added],.string e.key] W fun e' w' => ∃ a1 c1 a2 c2 a3 c3,e' = .returned (.tuple #[.agg #[.slice a1 Q.win.length c1,.slice a2 Q.main.length c2,.slice a3 Q.sk.rows.length c3,.int .i64 Q.sk.added],.string oo]) ∧ POwn w' W.heap.size w'.heap.size (.agg #[.slice a1 Q.win.length c1,.slice a2 Q.main.length c2,.slice a3 Q.sk.rows.length c3,.int .i64 Q.sk.added]) Q ∧ Below W.heap.size W w') := by
  show ∀ W,_ → _
  intro W hW
  have hp : PolAt W aw am ak R.pol W.heap.size := (HH1.out.own.at.polAt).on hW
  refine (implPolicyTouch_any W aw am ak cw cm ck R.pol e.key hp l2 hk (htab.below (hb1.trans (hW.mono hb1.size)) (Nat.le_refl _))).mono ?_
  rintro e' w' ⟨v,rfl,ho,hb⟩
  rw [hQ] at ho
  rw [hoo]
  obtain ⟨a1,c1,a2,c2,a3,c3,rfl,_⟩ := ho.at
  exact ⟨a1,c1,a2,c2,a3,c3,rfl,ho,hb⟩
 have HB1 : Hid (Below B w w1) := by show Below _ _ _; rw [← hB]; exact hb1
 have hdr : Below w1.heap.size w1 w1.drew := (Below.refl _ _).drew
 have hdz : Below w1.heap.size w1 (w1.alloc (.cells #[.slice none 0 0,.slice none 0 0,.slice none 0 0,.int .i64 0] 32)).drew := ((Below.refl _ _).alloc (Nat.le_refl _) _).drew
 have HN0 : Hid (PBox (w1.alloc (.cells #[.slice none 0 0,.slice none 0 0,.slice none 0 0,.int .i64 0] 32)).drew w1.heap.size (.slice none 0 0) (.slice none 0 0) (.slice none 0 0) (.int .i64 0)) := PBox.new w1 _ _ _ _
 clear hoe hlb hbe hQ hoo hU hsz hk htab l1 l2 l3 l4 H hb1 hw1
 go_enter Tryz.func80,Tryz.ntmps80
 go_upto_region 1 with fail
 rw [HW.out]
 try rw [hB]
 go_cut [4, 5] (fun pv ov wc => ∃ N a1 c1 a2 c2 a3 c3,pv = .pointer (some ⟨N, 0,none⟩) ∧ ov = .string oo ∧ PBox wc N (.slice a1 Q.win.length c1) (.slice a2 Q.main.length c2) (.slice a3 Q.sk.rows.length c3) (.int .i64 Q.sk.added) ∧ Below w1.heap.size w1 wc ∧ w1.heap.size ≤ N ∧ POwn wc w1.heap.size wc.heap.size (.agg #[.slice a1 Q.win.length c1,.slice a2 Q.main.length c2,.slice a3 Q.sk.rows.length c3,.int .i64 Q.sk.added]) Q)
 case first =>
  go_region_held3 (fun W => W.cell? ⟨T, 2,none⟩ = some (.slice aw R.pol.win.length cw) ∧ W.cell? ⟨T, 3,none⟩ = some (.slice am R.pol.main.length cm) ∧ W.cell? ⟨T, 4,none⟩ = some (.slice ak R.pol.sk.rows.length ck) ∧ W.cell? ⟨T, 5,none⟩ = some (.int .i64 R.pol.sk.added) ∧ W.cell? ⟨B, 0,none⟩ = some (.string e.key)) (first | with_reducible exact KS _ hdr | with_reducible exact KS _ hdz | with_reducible exact KS _ fP | with_reducible exact hK1 | with_reducible exact hK2 | with_reducible exact hK3)
   (first | (go_at_call 43; first
    | (with_reducible refine (CT.out _ hdr).mono ?_; rintro e' wP ⟨a1,c1,a2,c2,a3,c3,rfl,oP,bP⟩; have fP : Below w1.heap.size w1 wP := hdr.trans (bP.mono hdr.size); have hK2 := KS (wP.alloc (.cells #[.slice none 0 0,.slice none 0 0,.slice none 0 0,.int .i64 0] 32)) (fP.alloc fP.size _); have hK3 := KS (wP.alloc (.cells #[.slice a1 Q.win.length c1,.slice a2 Q.main.length c2,.slice a3 Q.sk.rows.length c3,.int .i64 Q.sk.added] 32)) (fP.alloc fP.size _); have FB := And.intro (PBox.new wP (.slice a1 Q.win.length c1) (.slice a2 Q.main.length c2) (.slice a3 Q.sk.rows.length c3) (.int .i64 Q.sk.added)) (And.intro (fP.alloc fP.size (.cells #[.slice a1 Q.win.length c1,.slice a2 Q.main.length c2,.slice a3 Q.sk.rows.length c3,.int .i64 Q.sk.added] 32)) (And.intro fP.size ((oP.below ((Below.refl _ _).alloc (Nat.le_refl _) (.cells #[.slice a1 Q.win.length c1,.slice a2 Q.main.length c2,.slice a3 Q.sk.rows.length c3,.int .i64 Q.sk.added] 32)) (Nat.le_refl _)).up)))  )
    | (with_reducible refine (CT.out _ hdz).mono ?_; rintro e' wP ⟨a1,c1,a2,c2,a3,c3,rfl,oP,bP⟩; have fP : Below w1.heap.size w1 wP := hdz.trans (bP.mono hdz.size); have hN := HN0.out.on bP; obtain ⟨r0,r1,r2,r3⟩ := hN.cells; have t0 := hN.thaw 0; have t1 := hN.thaw 1; have t2 := hN.thaw 2; have t3 := hN.thaw 3; have hbz : Below w1.heap.size w1 ((((wP.setCell ⟨w1.heap.size, 0,none⟩ (.slice a1 Q.win.length c1)).setCell ⟨w1.heap.size, 1,none⟩ (.slice a2 Q.main.length c2)).setCell ⟨w1.heap.size, 2,none⟩ (.slice a3 Q.sk.rows.length c3)).setCell ⟨w1.heap.size, 3,none⟩ (.int .i64 Q.sk.added)) := (((fP.setCell (Nat.le_refl _) _).setCell (Nat.le_refl _) _).setCell (Nat.le_refl _) _).setCell (Nat.le_refl _) _; have hK1 := KS ((((wP.setCell ⟨w1.heap.size, 0,none⟩ (.slice a1 Q.win.length c1)).setCell ⟨w1.heap.size, 1,none⟩ (.slice a2 Q.main.length c2)).setCell ⟨w1.heap.size, 2,none⟩ (.slice a3 Q.sk.rows.length c3)).setCell ⟨w1.heap.size, 3,none⟩ (.int .i64 Q.sk.added)) hbz; have FA := And.intro (hN.put (.slice a1 Q.win.length c1) (.slice a2 Q.main.length c2) (.slice a3 Q.sk.rows.length c3) (.int .i64 Q.sk.added)) (And.intro hbz (And.intro (Nat.le_refl w1.heap.size) ((oP.put4 hN (.slice a1 Q.win.length c1) (.slice a2 Q.main.length c2) (.slice a3 Q.sk.rows.length c3) (.int .i64 Q.sk.added)).up.mono hdz.size (Nat.le_refl _)))))))
  all_goals go_wp2_with fail
  all_goals go_meet
  all_goals first
   | exact ⟨_,_,_,_,_,_,_,rfl,rfl,FB.1,FB.2.1,FB.2.2.1,FB.2.2.2⟩
   | exact ⟨_,_,_,_,_,_,_,rfl,rfl,FA.1,FA.2.1,FA.2.2.1,FA.2.2.2⟩
 case rest =>
  obtain ⟨N,a1,c1,a2,c2,a3,c3,rfl,rfl,hN,hbw,hNle,hoP⟩ := hcut
  clear KS CT hdr hdz HN0
  have HXN : Hid (lo ≤ N ∧ B < N ∧ T < N) := by have := HN.out; exact ⟨by omega,by omega,by omega⟩
  have HH3 : Hid _ := (fun (_ : Unit) => HH1.out.setPol hbw hoP)
  have hBx := (HH1.out.on hbw).box
  obtain ⟨n0,n1,n2,n3⟩ := hN.cells
  have t0 := hBx.cells.2.2.1
  have g0 := hBx.thaw 2
  have s0 := hBx.set2 (.slice a1 Q.win.length c1)
  have t1 := s0.cells.2.2.2.1
  have g1 := s0.thaw 3
  have s1 := s0.set3 (.slice a2 Q.main.length c2)
  have t2 := s1.cells.2.2.2.2.1
  have g2 := s1.thaw 4
  have s2 := s1.set4 (.slice a3 Q.sk.rows.length c3)
  have t3 := s2.cells.2.2.2.2.2.1
  have g3 := s2.thaw 5
  obtain ⟨w3,hw3⟩ : ∃ y,((((wc.setCell ⟨T, 2,none⟩ (.slice a1 Q.win.length c1)).setCell ⟨T, 3,none⟩ (.slice a2 Q.main.length c2)).setCell ⟨T, 4,none⟩ (.slice a3 Q.sk.rows.length c3)).setCell ⟨T, 5,none⟩ (.int .i64 Q.sk.added)) = y := ⟨_,rfl⟩
  have hf : ∀ k,k ≠ T → w3.heap[k]? = wc.heap[k]? := fun k hk => by rw [← hw3,Below.heap_setCell _ _ _ _ (by exact hk),Below.heap_setCell _ _ _ _ (by exact hk),Below.heap_setCell _ _ _ _ (by exact hk),Below.heap_setCell _ _ _ _ (by exact hk)]
  have HN3 : Hid (PBox w3 N (.slice a1 Q.win.length c1) (.slice a2 Q.main.length c2) (.slice a3 Q.sk.rows.length c3) (.int .i64 Q.sk.added)) := hN.kept (hf N (by have := HXN.out; omega))
  have HT3 : Hid (TchB be T w w3) := (TchB.below HB1.out HOE.out.2.1).trans ((TchB.below hbw (by have := HN.out; have := HOE.out; omega)).trans (fun j _ hn => hf j hn))
  have HE3 : Hid (EnB w3 B 65 e) := (hf B (by have := HN.out; omega)).trans (HBE.out.on hbw)
  have HW3 : Hid (((((wc.setCell ⟨T, 2,none⟩ (.slice a1 Q.win.length c1)).setCell ⟨T, 3,none⟩ (.slice a2 Q.main.length c2)).setCell ⟨T, 4,none⟩ (.slice a3 Q.sk.rows.length c3)).setCell ⟨T, 5,none⟩ (.int .i64 Q.sk.added)) = w3) := hw3
  have HSZ3 : Hid (B ≤ w3.heap.size) := by have h1 := hbw.size; have h2 := HN.out.2.2.1; have h3 : w3.heap.size = wc.heap.size := by (rw [← hw3]; simp)
                                           show _ ≤ _; omega
  clear hf hw3 hN hBx hoP hbw hNle s0 s1 s2
  go_upto_region 3 with fail
  rw [HW3.out]
  clear t0 g0 t1 g1 t2 g2 t3 g3 n0 n1 n2 n3
  obtain ⟨H3,hb3⟩ := HH3.out ()
  rw [HW3.out] at H3 hb3
  have hbw3 := HN.out.2.2.2.2.1.trans hb3
  have cF := hallForgetT_any w3 lo T _ _ oo H3 HN.out.2.2.2.2.2.1
  dsimp only at cF
  clear HH3 HW3 H3 hb3
  go_wp2_with fail
  refine cF.mono ?_
  rintro e' w4 ⟨rfl,v4,H4,hb4,ht4,hown4⟩
  have HB4 : Hid (Below lo w w4) := hbw3.trans hb4
  have HS4 : Hid (w3.heap.size ≤ w4.heap.size ∧ be ≤ w4.heap.size) := by have h1 := ht4.size; have h2 := HSZ3.out; have h3 := HOE.out.2.1; exact ⟨h1,by omega⟩
  have HT4 : Hid (TchB be T w w4) := HT3.out.trans (TchB.tch ht4 (by have h2 := HSZ3.out; have h3 := HOE.out.2.1; omega) (fun j hj => hj.imp id (fun h => HOE.out.2.2 j h)))
  have HO4 : Hid (∀ j,v4.ownBlock = some j → be ≤ j) := fun j hj => HOE.out.2.2 j (hown4 j hj)
  have HN4 : Hid (PBox w4 N (.slice a1 Q.win.length c1) (.slice a2 Q.main.length c2) (.slice a3 Q.sk.rows.length c3) (.int .i64 Q.sk.added)) := ht4.keep HN3.out (fun h => h.elim (fun h => by have := HXN.out; omega) (fun h => by have := HN.out.2.2.2.1 N h; have := HXN.out; omega))
  have HE4 : Hid (EnB w4 B 65 e) := ht4.keep HE3.out (fun h => h.elim (fun h => by have := HN.out.2.1; omega) (fun h => by have := HN.out.2.2.2.1 B h; omega))
  have HOV : Hid (∀ j,v4.ownBlock = some j → j < B) := fun j hj => HN.out.2.2.2.1 j (hown4 j hj)
  have HH4 : Hid _ := (fun (_ : Unit) => H4)
  have hpl : PolAt w4 a1 a2 a3 Q w4.heap.size := by
   have h := H4.own.at
   obtain ⟨q1,q2,e1,e2⟩ := h.pw
   obtain ⟨q3,q4,e3,e4⟩ := h.pm
   obtain ⟨q5,q6,e5,e6⟩ := h.pk
   dsimp only at e1 e2 e3 e4 e5 e6
   simp only [Value.slice.injEq] at e1 e3 e5
   obtain ⟨rfl,_,rfl⟩ := e1
   obtain ⟨rfl,_,rfl⟩ := e3
   obtain ⟨rfl,_,rfl⟩ := e5
   exact ⟨e2,e4,e6⟩
  have cH := implPolicyHas_any w4 a1 a2 a3 c1 c2 c3 Q e.key hpl HQS.out.1 HQS.out.2
  obtain ⟨n0,n1,n2,n3⟩ := HN4.out.cells
  obtain ⟨x0,_,_,_⟩ := HE4.out.cells
  obtain ⟨bk,hbk⟩ : ∃ b,hasP Q e.key = b := ⟨_,rfl⟩
  rw [hbk] at cH
  have HKB : Hid (keepB R e = bk) := by show _ = _; unfold keepB; rw [HQ.out.1]; exact hbk
  clear cF hpl H4 hb4 ht4 hown4 hbw3 hbk HN3 HE3 HBE HH1
  go_wp2_with fail
  refine cH.mono ?_
  rintro e' w5 ⟨rfl,hb5⟩
  clear cH n0 n1 n2 n3 x0
  cases bk with
  | false =>
   obtain ⟨XZ,HF⟩ : ∃ XZ,Hid (HallAt w5 lo T XZ (keepR R e) ∧ Below lo w w5 ∧ (∀ j,XZ.e.ownBlock = some j → be ≤ j) ∧ TchB be T w w5) := by
    rw [keepR_no HKB.out,HQ.out.1,HQ.out.2]
    exact ⟨_,(HH4.out ()).on hb5,HB4.out.trans (hb5.mono (HH4.out ()).lt),HO4.out,HT4.out.trans (TchB.below hb5 HS4.out.2)⟩
   clear HH4 hb5
   go_wp2_with fail
   exact bodyPost_end (results_none rfl _ _ _) rfl ⟨rfl,_,HF.out⟩
  | true =>
   have H5 := (HH4.out ()).on hb5
   obtain ⟨x0,_,_,_⟩ := (HE4.out.on hb5).cells
   have cF := hallForgetT_any w5 lo T _ _ e.key H5 (Nat.le_trans (List.length_filter_le _ _) HN.out.2.2.2.2.2.1)
   dsimp only at cF
   have HB5 : Hid (Below lo w w5) := HB4.out.trans (hb5.mono (HH4.out ()).lt)
   have HT5 : Hid (TchB be T w w5 ∧ be ≤ w5.heap.size) := ⟨HT4.out.trans (TchB.below hb5 HS4.out.2),Nat.le_trans HS4.out.2 hb5.size⟩
   have HE5 : Hid (EnB w5 B 65 e) := HE4.out.on hb5
   clear HH4 hb5 H5 HN4
   go_wp2_with fail
   refine cF.mono ?_
   rintro e' w6 ⟨rfl,v6,H6,hb6,ht6,hown6⟩
   clear cF x0
   obtain ⟨M,hM⟩ : ∃ M,offE (offE R.ents oo) e.key = M := ⟨_,rfl⟩
   rw [hM] at H6
   have HMM : Hid (offE (offE R.ents oo) e.key = M) := hM
   have HB6 : Hid (Below lo w w6) := HB5.out.trans hb6
   have HT6 : Hid (TchB be T w w6 ∧ be ≤ w6.heap.size) := ⟨HT5.out.1.trans (TchB.tch ht6 HT5.out.2 (fun j hj => hj.imp id (fun h => HO4.out j h))),Nat.le_trans HT5.out.2 ht6.size⟩
   have HOB : Hid (∀ j,v6.ownBlock = some j → be ≤ j) := fun j hj => HO4.out j (hown6 j hj)
   have HE6 : Hid (EnB w6 B 65 e) := ht6.keep HE5.out (fun h => h.elim (fun h => by have := HN.out.2.1; omega) (fun h => by have := HOV.out B h; omega))
   have HO6 : Hid (∀ j,v6.ownBlock = some j → j < B) := fun j hj => HOV.out j (hown6 j hj)
   obtain ⟨m0,m1,hv6,hmA⟩ := H6.own.e.at
   dsimp only at hv6
   subst hv6
   have HML : Hid (M.length ≤ 1048576) := by show _ ≤ _; rw [← hM]; exact Nat.le_trans (List.length_filter_le _ _) (Nat.le_trans (List.length_filter_le _ _) HN.out.2.2.2.2.2.1)
   have hAM : AscE M := by rw [← hM]; exact upK_asc (offE_up _ (offE_up _ HN.out.2.2.2.2.2.2.1))
   have hd6 : Below w6.heap.size w6 w6.drew := (Below.refl _ _).drew
   have KS6 : ∀ W,Below w6.heap.size w6 W → W.cell? ⟨T, 1,none⟩ = some (.slice m0 M.length m1) ∧ W.cell? ⟨B, 0,none⟩ = some (.string e.key) := fun W h => ⟨(H6.box.on h).cells.2.1,(HE6.out.on h).cells.1⟩
   have cP : Hid (Calls Tryz.prog 21 #[.slice m0 M.length m1,.string e.key] w6.drew fun e' w' => ∃ (k : Nat) (b : Bool),e' = .returned (.tuple #[.int .i64 (k : Int),.bool b]) ∧ PlaceE M e.key k b ∧ Below w6.heap.size w6 w') := by
    refine (entryPlace_any w6.drew m0 m1 M e.key (hmA.on hd6) (by have := HML.out; omega) hAM).mono ?_
    rintro e' w' ⟨k,b,he,hp,hb⟩
    exact ⟨k,b,he,hp,hd6.trans (hb.mono hd6.size)⟩
   have HH6 : Hid _ := (fun (_ : Unit) => H6)
   clear H6 hb6 ht6 hown6 hmA hAM hM HOV HE5 HB5 HE4 HB4
   go_upto_region 6 with fail
   go_region_held3 (fun W => W.cell? ⟨T, 1,none⟩ = some (.slice m0 M.length m1) ∧ W.cell? ⟨B, 0,none⟩ = some (.string e.key)) (first | with_reducible exact KS6 _ hd6 | with_reducible exact KS6 _ hb7)
    (first
     | (go_at_call 21; with_reducible refine cP.out.mono ?_; rintro e' w7 ⟨k,b,rfl,HPL,hb7⟩))
   have H7 := (HH6.out ()).on hb7
   have HE7 := HE6.out.on hb7
   have hb8 : Below w7.heap.size w7 (w7.alloc (.cells #[.string e.key,.int .i64 e.st,.int .i64 e.lf,.string e.bd] 65)).drew := ((Below.refl _ _).alloc (Nat.le_refl _) _).drew
   have hd7 : Below w7.heap.size w7 w7.drew := (Below.refl _ _).drew
   have H8 := H7.on hb8
   have n7 : w7.cell? ⟨T, 1,none⟩ = some (.slice m0 M.length m1) := H7.box.cells.2.1
   have n7x : ((w7.alloc (.cells #[.string e.key,.int .i64 e.st,.int .i64 e.lf,.string e.bd] 65)).drew).cell? ⟨T, 1,none⟩ = some (.slice m0 M.length m1) := H8.box.cells.2.1
   have K2 : ∀ W,EnB W B 65 e → W.cell? ⟨B, 0,none⟩ = some (.string e.key) ∧ W.cell? ⟨B, 1,none⟩ = some (.int .i64 e.st) ∧ W.cell? ⟨B, 2,none⟩ = some (.int .i64 e.lf) ∧ W.cell? ⟨B, 3,none⟩ = some (.string e.bd) := fun W h => h.cells
   have kx0 := K2 w7.drew (HE7.on hd7)
   have kx1 := K2 (w7.alloc (.cells #[.string e.key,.int .i64 e.st,.int .i64 e.lf,.string e.bd] 65)).drew (HE7.on hb8)
   obtain ⟨MX,hMX⟩ : ∃ MX,M.take k ++ e :: M.drop k = MX := ⟨_,rfl⟩
   have hO3 : OwnN (w7.alloc (.cells #[.string e.key,.int .i64 e.st,.int .i64 e.lf,.string e.bd] 65)).drew be 65 (.slice m0 M.length m1) M := H8.own.e.raise HOB.out
   have HT8 : Hid (TchB be T w (w7.alloc (.cells #[.string e.key,.int .i64 e.st,.int .i64 e.lf,.string e.bd] 65)).drew ∧ be ≤ ((w7.alloc (.cells #[.string e.key,.int .i64 e.st,.int .i64 e.lf,.string e.bd] 65)).drew).heap.size) := ⟨HT6.out.1.trans ((TchB.below hb7 HT6.out.2).trans (TchB.below hb8 (Nat.le_trans HT6.out.2 hb7.size))),Nat.le_trans (Nat.le_trans HT6.out.2 hb7.size) hb8.size⟩
   have hO2 : OwnN w7 lo 65 (.slice m0 M.length m1) M := H7.own.e
   obtain ⟨PP,hPP⟩ : ∃ PP : World → Value → Prop,PP = (fun W y => ∃ a3 c3,y = .slice a3 MX.length c3 ∧ OwnN W be 65 (.slice a3 MX.length c3) MX ∧ Tch (fun j => (Value.slice m0 M.length m1).ownBlock = some j) (w7.alloc (.cells #[.string e.key,.int .i64 e.st,.int .i64 e.lf,.string e.bd] 65)).drew W ∧ W.cell? ⟨T, 1,none⟩ = some (.slice m0 M.length m1) ∧ W.frozen? ⟨T, 1,none⟩ = false) := ⟨_,rfl⟩
   have hnc : ∀ j,(Value.slice m0 M.length m1).ownBlock = some j → j ≠ T ∧ j ≠ B ∧ j < w7.heap.size := by
    intro j hj
    refine ⟨fun e => H7.far H7.own.e.type (by decide) (e ▸ hj),fun e => by have := HO6.out j hj; omega,(H7.own.e.lt j hj).2⟩
   have cI : Hid (Calls Tryz.prog 97 #[.slice m0 M.length m1,.int .i64 (k : Int),.slice (some ⟨w7.heap.size, 0,none⟩) 1 1] (w7.alloc (.cells #[.string e.key,.int .i64 e.st,.int .i64 e.lf,.string e.bd] 65)).drew fun e' w' => ∃ y,e' = .returned y ∧ PP w' y ∧ (w'.cell? ⟨B, 0,none⟩ = some (.string e.key) ∧ w'.cell? ⟨B, 1,none⟩ = some (.int .i64 e.st) ∧ w'.cell? ⟨B, 2,none⟩ = some (.int .i64 e.lf) ∧ w'.cell? ⟨B, 3,none⟩ = some (.string e.bd))) := by
    have hV : ((w7.alloc (.cells #[.string e.key,.int .i64 e.st,.int .i64 e.lf,.string e.bd] 65)).drew).heap[w7.heap.size]? = some (.cells #[.string e.key,.int .i64 e.st,.int .i64 e.lf,.string e.bd] 65 (0, 0)) := heap_alloc_new w7 _
    refine (insertEnt_any (w7.alloc (.cells #[.string e.key,.int .i64 e.st,.int .i64 e.lf,.string e.bd] 65)).drew be (.slice m0 M.length m1) M k e w7.heap.size hO3 HT8.out.2 (by have := HML.out; omega) HPL.le hV (fun e => by have := (hO2.lt _ e).2; omega)).mono ?_
    rintro e' w' ⟨v',rfl,ho,ht⟩
    rw [hMX] at ho
    obtain ⟨a3,c3,rfl,_⟩ := ho.at
    have h7 : w'.heap[T]? = ((w7.alloc (.cells #[.string e.key,.int .i64 e.st,.int .i64 e.lf,.string e.bd] 65)).drew).heap[T]? := ht.2 T H8.box.lt (fun e => (hnc T e).1 rfl)
    have e7 : w'.cell? ⟨T, 1,none⟩ = some (.slice m0 M.length m1) := (H8.box.kept h7).cells.2.1
    have ef := (H8.box.kept h7).thaw 1
    exact ⟨_,rfl,by rw [hPP]; exact ⟨a3,c3,rfl,ho,ht,e7,ef⟩,K2 w' ((ht.2 _ (HE7.on hb8).lt (fun e => (hnc _ e).2.1 rfl)).trans (HE7.on hb8))⟩
   have KE : Hid (∀ (W : World) (x : Value),(W.cell? ⟨B, 0,none⟩ = some (.string e.key) ∧ W.cell? ⟨B, 1,none⟩ = some (.int .i64 e.st) ∧ W.cell? ⟨B, 2,none⟩ = some (.int .i64 e.lf) ∧ W.cell? ⟨B, 3,none⟩ = some (.string e.bd)) → ((W.setCell ⟨T, 1,none⟩ x).cell? ⟨B, 0,none⟩ = some (.string e.key) ∧ (W.setCell ⟨T, 1,none⟩ x).cell? ⟨B, 1,none⟩ = some (.int .i64 e.st) ∧ (W.setCell ⟨T, 1,none⟩ x).cell? ⟨B, 2,none⟩ = some (.int .i64 e.lf) ∧ (W.setCell ⟨T, 1,none⟩ x).cell? ⟨B, 3,none⟩ = some (.string e.bd))) := by
    show ∀ (W : World) (x : Value),_ → _
    intro W x h
    have hne : T ≠ B := by have := HN.out.2.1; omega
    obtain ⟨p0,p1,p2,p3⟩ := h
    exact ⟨cell_far4 hne p0,cell_far4 hne p1,cell_far4 hne p2,cell_far4 hne p3⟩
   have HF : Hid (∀ (W9 : World) (y : Value),PP W9 y → ∃ a3' c3',y = .slice a3' MX.length c3' ∧ HallAt (W9.setCell ⟨T, 1,none⟩ (.slice a3' MX.length c3')) lo T ⟨.slice a3' MX.length c3',.slice a1 Q.win.length c1,.slice a2 Q.main.length c2,.slice a3 Q.sk.rows.length c3,.slice f0 R.fes.length f1,.slice c0 R.cls.length c1'⟩ ⟨R.now,MX,Q,R.fes,R.cls,R.hits⟩ ∧ Below lo w (W9.setCell ⟨T, 1,none⟩ (.slice a3' MX.length c3')) ∧ (∀ j,(Value.slice a3' MX.length c3').ownBlock = some j → be ≤ j) ∧ TchB be T w (W9.setCell ⟨T, 1,none⟩ (.slice a3' MX.length c3'))) := by
    show ∀ (W9 : World) (y : Value),_ → _
    intro W9 y hp
    rw [hPP] at hp
    obtain ⟨a3',c3',rfl,ho3,ht3,_,_⟩ := hp
    refine ⟨a3',c3',rfl, ?_, ?_,fun j hj => (ho3.lt j hj).1,HT8.out.1.trans ((TchB.tch ht3 HT8.out.2 (fun j hj => .inr (HOB.out j hj))).trans TchB.set)⟩
    ·have hbx := H8.box.kept (ht3.2 T H8.box.lt (fun e => (hnc T e).1 rfl))
     have hO := H8.own.setE (grown_tch ht3) (ho3.mono HOE.out.1)
     exact ⟨hbx.set1 _,(hO.box hbx (by unfold PxT; decide) (fun j hj => Below.heap_setCell _ _ _ _ (by exact hj))).up,H8.le⟩
    ·exact (Tch.below ((HB6.out.trans (hb7.mono (HH6.out ()).lt)).trans (hb8.mono H7.lt)) ht3 (Nat.le_trans H7.lt hb8.size) (fun j hj => (H8.own.e.lt j hj).1)).setCell H8.le _
   have HPQ : Hid (keepR R e = ⟨R.now,MX,Q,R.fes,R.cls,R.hits⟩) := by
    show _ = _
    rw [keepR_yes HKB.out,HQ.out.1,HQ.out.2, ← hMX, ← HMM.out]
    rw [place_insE (E := offE R.ents oo) (e := e) (k := k) (b := b) (by rw [HMM.out]; exact HPL)]
   clear hd7 K2 H7 H8 HE7 hO3 hO2 hnc hb8 hMX HPL KS6 hd6 cP hb7
   go_upto_region 7 with fail
   refine wp_region_held_drew (S := fun W => W.cell? ⟨B, 0,none⟩ = some (.string e.key) ∧ W.cell? ⟨B, 1,none⟩ = some (.int .i64 e.st) ∧ W.cell? ⟨B, 2,none⟩ = some (.int .i64 e.lf) ∧ W.cell? ⟨B, 3,none⟩ = some (.string e.bd)) (by kernel_rfl) kx0 (fun hHeld => ?_)
   refine wpAnyH_take (i := 0) (oi := _) (v := .pointer (some ⟨T, 0,none⟩)) rfl (by kernel_rfl) (by kernel_rfl) (by kernel_rfl) (fun _ _ _ h => h) (Or.inl ⟨by rfl, ?_⟩) (by assumption) ?_
   ·intro W hSw
    obtain ⟨p0,p1,p2,p3⟩ := hSw
    go_simp
   refine wpAnyH_take (i := 1) (oi := _) (v := .pointer (some ⟨T, 0,none⟩)) rfl (by kernel_rfl) (by kernel_rfl) (by kernel_rfl) (fun _ _ _ h => h) (Or.inl ⟨by rfl, ?_⟩) (by assumption) ?_
   ·intro W hSw
    obtain ⟨p0,p1,p2,p3⟩ := hSw
    go_simp
   refine wpAnyH_take (i := 2) (oi := _) (v := .pointer (some ⟨T, 0,none⟩)) rfl (by kernel_rfl) (by kernel_rfl) (by kernel_rfl) (fun _ _ _ h => h) (Or.inl ⟨by rfl, ?_⟩) (by assumption) ?_
   ·intro W hSw
    obtain ⟨p0,p1,p2,p3⟩ := hSw
    go_simp
   refine wpAnyH_take (i := 3) (oi := _) (v := .pointer (some ⟨T, 0,none⟩)) rfl (by kernel_rfl) (by kernel_rfl) (by kernel_rfl) (fun _ _ _ h => h) (Or.inl ⟨by rfl, ?_⟩) (by assumption) ?_
   ·intro W hSw
    obtain ⟨p0,p1,p2,p3⟩ := hSw
    go_simp
   refine wpAnyH_take (i := 4) (oi := _) (v := .pointer (some ⟨T, 1,none⟩)) rfl (by kernel_rfl) (by kernel_rfl) (by kernel_rfl) (fun _ _ _ h => h) (Or.inl ⟨by rfl, ?_⟩) (by assumption) ?_
   ·intro W hSw
    obtain ⟨p0,p1,p2,p3⟩ := hSw
    go_simp
   refine wpAnyH_take (i := 6) (oi := _) (v := .int .i64 k) rfl (by kernel_rfl) (by kernel_rfl) (by kernel_rfl) (fun _ _ _ h => h) (Or.inl ⟨by rfl, ?_⟩) (by assumption) ?_
   ·intro W hSw
    obtain ⟨p0,p1,p2,p3⟩ := hSw
    go_simp
   refine wpAnyH_take (i := 7) (oi := _) (v := .agg #[.string e.key,.int .i64 e.st,.int .i64 e.lf,.string e.bd]) rfl (by kernel_rfl) (by kernel_rfl) (by kernel_rfl) (fun _ _ _ h => h) (Or.inl ⟨by rfl, ?_⟩) (by assumption) ?_
   ·intro W hSw
    obtain ⟨p0,p1,p2,p3⟩ := hSw
    go_simp
   refine wpAnyH_invM (fun s a W => (W.cell? ⟨B, 0,none⟩ = some (.string e.key) ∧ W.cell? ⟨B, 1,none⟩ = some (.int .i64 e.st) ∧ W.cell? ⟨B, 2,none⟩ = some (.int .i64 e.lf) ∧ W.cell? ⟨B, 3,none⟩ = some (.string e.bd)) ∧ ∃ (b5 b8 b9 b10 b11 b12 b13 : Bool) (y51 y54 y55 y56 y57 y58 : Value),s = #[true,true,true,true,true,b5,true,true,b8,b9,b10,b11,b12,b13] ∧ a = ⟨((.pointer (some ⟨T, 0,none⟩) : Value) :: (.agg #[.string e.key,.int .i64 e.st,.int .i64 e.lf,.string e.bd] : Value) :: undef :: (.pointer (some ⟨B, 0,none⟩) : Value) :: (.pointer (some ⟨N, 0,none⟩) : Value) :: (.string oo : Value) :: (.int .i64 k : Value) :: (.bool b : Value) :: u8 :: u9 :: u10 :: u11 :: u12 :: u13 :: u14 :: u15 :: u16 :: u17 :: u18 :: (.pointer (some ⟨T, 0,none⟩) : Value) :: (.agg #[.slice a1 Q.win.length c1,.slice a2 Q.main.length c2,.slice a3 Q.sk.rows.length c3,.int .i64 Q.sk.added] : Value) :: (.pointer (some ⟨T, 0,none⟩) : Value) :: (.pointer (some ⟨T, 0,none⟩) : Value) :: (.pointer (some ⟨T, 2,none⟩) : Value) :: (.pointer (some ⟨T, 0,none⟩) : Value) :: (.string oo : Value) :: (.tuple #[] : Value) :: (.agg #[.slice a1 Q.win.length c1,.slice a2 Q.main.length c2,.slice a3 Q.sk.rows.length c3,.int .i64 Q.sk.added] : Value) :: (.pointer (some ⟨B, 0,none⟩) : Value) :: (.string e.key : Value) :: (.bool true : Value) :: (.pointer (some ⟨T, 0,none⟩) : Value) :: (.pointer (some ⟨B, 0,none⟩) : Value) :: (.string e.key : Value) :: (.tuple #[] : Value) :: (.tuple #[.int .i64 k,.bool b] : Value) :: (.pointer (some ⟨T, 0,none⟩) : Value) :: (.pointer (some ⟨T, 0,none⟩) : Value) :: (.pointer (some ⟨T, 0,none⟩) : Value) :: (.pointer (some ⟨T, 1,none⟩) : Value) :: (.slice m0 M.length m1 : Value) :: (.pointer (some ⟨B, 0,none⟩) : Value) :: (.string e.key : Value) :: (.tuple #[.int .i64 k,.bool b] : Value) :: (.int .i64 k : Value) :: (.bool b : Value) :: (.pointer (some ⟨T, 0,none⟩) : Value) :: (.pointer (some ⟨T, 0,none⟩) : Value) :: (.pointer (some ⟨T, 0,none⟩) : Value) :: (.pointer (some ⟨T, 0,none⟩) : Value) :: (.pointer (some ⟨T, 1,none⟩) : Value) :: y51 :: (.int .i64 k : Value) :: (.agg #[.string e.key,.int .i64 e.st,.int .i64 e.lf,.string e.bd] : Value) :: y54 :: y55 :: y56 :: y57 :: y58 :: []).toArray, []⟩ ∧ ((b9 = false ∧ b10 = false ∧ b11 = false ∧ b12 = false ∧ b13 = false ∧ (b5 = true → y51 = .slice m0 M.length m1) ∧ (b8 = false → W = w7.drew) ∧ (b8 = true → W = (w7.alloc (.cells #[.string e.key,.int .i64 e.st,.int .i64 e.lf,.string e.bd] 65)).drew ∧ y54 = .slice (some ⟨w7.heap.size, 0,none⟩) 1 1)) ∨ (b5 = true ∧ b8 = true ∧ b9 = true ∧ b13 = false ∧ (b10 = true → y56 = .pointer (some ⟨T, 0,none⟩)) ∧ (b11 = true → y57 = .pointer (some ⟨T, 0,none⟩)) ∧ (b12 = true → y58 = .pointer (some ⟨T, 1,none⟩)) ∧ (b11 = true → b10 = true) ∧ (b12 = true → b11 = true) ∧ PP W y55) ∨ (b5 = true ∧ b8 = true ∧ b9 = true ∧ b10 = true ∧ b11 = true ∧ b12 = true ∧ b13 = true ∧ ∃ W9,PP W9 y55 ∧ W = W9.setCell ⟨T, 1,none⟩ y55))) (by kernel_rfl) ?_ ?_ ?_ ?_ _ _ _ _ ?_ (by decide)
   ·rintro s a W ⟨_,b5,b8,b9,b10,b11,b12,b13,y51,y54,y55,y56,y57,y58,rfl,_⟩
    rfl
   ·rintro s a W ⟨h,_⟩
    exact h
   ·rintro s a W i ⟨hS,b5,b8,b9,b10,b11,b12,b13,y51,y54,y55,y56,y57,y58,rfl,rfl,hJ⟩ hi'
    obtain ⟨h1,o,ho,hall⟩ := mem_ready.1 hi'
    have hlt' : i < 14 := by simpa using (Array.getElem?_eq_some_iff.1 ho).1
    clear hi'
    rcases (by omega : i = 0 ∨ i = 1 ∨ i = 2 ∨ i = 3 ∨ i = 4 ∨ i = 5 ∨ i = 6 ∨ i = 7 ∨ i = 8 ∨ i = 9 ∨ i = 10 ∨ i = 11 ∨ i = 12 ∨ i = 13) with rfl | rfl | rfl | rfl | rfl | rfl | rfl | rfl | rfl | rfl | rfl | rfl | rfl | rfl
    ·simp at h1
    ·simp at h1
    ·simp at h1
    ·simp at h1
    ·simp at h1
    ·have hf : b5 = false := by simpa using h1
     subst hf
     injection ho with ho'
     subst ho'
     simp [Region.binds] at hall
     rcases hJ with ⟨e9,e10,e11,e12,e13,c5,c8,d8⟩ | ⟨e5,e8,e9,e13,f10,f11,f12,g11,g12,hp⟩ | ⟨e5,e8,e9,e10,e11,e12,e13,W9,hp,_⟩
     case inr.inl => cases e5
     case inr.inr => cases e5
     have hc : W.cell? ⟨T, 1,none⟩ = some (.slice m0 M.length m1) := by
      cases b8 with
      | false => rw [c8 rfl]; exact n7
      | true => rw [(d8 rfl).1]; exact n7x
     refine wpOp_value (w' := W) (.slice m0 M.length m1) rfl rfl (by go_simp) ?_
     exact ⟨hS,true,b8,b9,b10,b11,b12,b13,_,y54,y55,y56,y57,y58,rfl,rfl,.inl ⟨e9,e10,e11,e12,e13,fun _ => rfl,c8,d8⟩⟩
    ·simp at h1
    ·simp at h1
    ·have hf : b8 = false := by simpa using h1
     subst hf
     injection ho with ho'
     subst ho'
     simp [Region.binds] at hall
     rcases hJ with ⟨e9,e10,e11,e12,e13,c5,c8,d8⟩ | ⟨e5,e8,e9,e13,f10,f11,f12,g11,g12,hp⟩ | ⟨e5,e8,e9,e10,e11,e12,e13,W9,hp,_⟩
     case inr.inl => cases e8
     case inr.inr => cases e8
     obtain rfl := c8 rfl
     refine wpOp_value (w' := (w7.alloc (.cells #[.string e.key,.int .i64 e.st,.int .i64 e.lf,.string e.bd] 65)).drew) (.slice (some ⟨w7.heap.size, 0,none⟩) 1 1) rfl rfl (by go_simp) ?_
     exact ⟨kx1,b5,true,b9,b10,b11,b12,b13,y51,_,y55,y56,y57,y58,rfl,rfl,.inl ⟨e9,e10,e11,e12,e13,c5,fun h => (by cases h),fun _ => ⟨rfl,rfl⟩⟩⟩
    ·have hf : b9 = false := by simpa using h1
     subst hf
     injection ho with ho'
     subst ho'
     simp [Region.binds] at hall
     rcases hJ with ⟨e9,e10,e11,e12,e13,c5,c8,d8⟩ | ⟨e5,e8,e9,e13,f10,f11,f12,g11,g12,hp⟩ | ⟨e5,e8,e9,e10,e11,e12,e13,W9,hp,_⟩
     case inr.inl => cases e9
     case inr.inr => cases e9
     have h5 : b5 = true := by simp_all
     have h8 : b8 = true := by simp_all
     obtain ⟨rfl,hy54⟩ := d8 h8
     have hy51 := c5 h5
     subst hy54 hy51
     refine wpOp_enter 97 #[.slice m0 M.length m1,.int .i64 (k : Int),.slice (some ⟨w7.heap.size, 0,none⟩) 1 1] rfl rfl (by go_simp) ?_
     refine cI.out.mono ?_
     rintro e' w9 ⟨y,rfl,hp,hS3⟩
     exact ⟨y,rfl,hS3,b5,b8,true,b10,b11,b12,b13,_,_,y,y56,y57,y58,rfl,rfl,.inr (.inl ⟨h5,h8,rfl,e13,fun h => (by rw [e10] at h; cases h),fun h => (by rw [e11] at h; cases h),fun h => (by rw [e12] at h; cases h),fun h => (by rw [e11] at h; cases h),fun h => (by rw [e12] at h; cases h),hp⟩)⟩
    ·have hf : b10 = false := by simpa using h1
     subst hf
     injection ho with ho'
     subst ho'
     simp [Region.binds] at hall
     rcases hJ with ⟨e9,e10,e11,e12,e13,c5,c8,d8⟩ | ⟨e5,e8,e9,e13,f10,f11,f12,g11,g12,hp⟩ | ⟨e5,e8,e9,e10,e11,e12,e13,W9,hp,_⟩
     case inl => simp_all
     case inr.inr => cases e10
     refine wpOp_value (w' := W) (.pointer (some ⟨T, 0,none⟩)) rfl rfl (by go_simp) ?_
     exact ⟨hS,b5,b8,b9,true,b11,b12,b13,y51,y54,y55,_,y57,y58,rfl,rfl,.inr (.inl ⟨e5,e8,e9,e13,fun _ => rfl,f11,f12,fun _ => rfl,g12,hp⟩)⟩
    ·have hf : b11 = false := by simpa using h1
     subst hf
     injection ho with ho'
     subst ho'
     simp [Region.binds] at hall
     rcases hJ with ⟨e9,e10,e11,e12,e13,c5,c8,d8⟩ | ⟨e5,e8,e9,e13,f10,f11,f12,g11,g12,hp⟩ | ⟨e5,e8,e9,e10,e11,e12,e13,W9,hp,_⟩
     case inl => simp_all
     case inr.inr => cases e11
     have h10 : b10 = true := by simp_all
     have hy := f10 h10
     subst hy
     refine wpOp_value (w' := W) (.pointer (some ⟨T, 0,none⟩)) rfl rfl (by go_simp) ?_
     exact ⟨hS,b5,b8,b9,b10,true,b12,b13,y51,y54,y55,_,_,y58,rfl,rfl,.inr (.inl ⟨e5,e8,e9,e13,fun _ => rfl,fun _ => rfl,f12,fun _ => h10,fun _ => rfl,hp⟩)⟩
    ·have hf : b12 = false := by simpa using h1
     subst hf
     injection ho with ho'
     subst ho'
     simp [Region.binds] at hall
     rcases hJ with ⟨e9,e10,e11,e12,e13,c5,c8,d8⟩ | ⟨e5,e8,e9,e13,f10,f11,f12,g11,g12,hp⟩ | ⟨e5,e8,e9,e10,e11,e12,e13,W9,hp,_⟩
     case inl => simp_all
     case inr.inr => cases e12
     have h11 : b11 = true := by simp_all
     have hy := f11 h11
     subst hy
     refine wpOp_value (w' := W) (.pointer (some ⟨T, 1,none⟩)) rfl rfl (by go_simp) ?_
     exact ⟨hS,b5,b8,b9,b10,b11,true,b13,y51,y54,y55,y56,_,_,rfl,rfl,.inr (.inl ⟨e5,e8,e9,e13,f10,fun _ => rfl,fun _ => rfl,g11,fun _ => h11,hp⟩)⟩
    ·have hf : b13 = false := by simpa using h1
     subst hf
     injection ho with ho'
     subst ho'
     simp [Region.binds] at hall
     rcases hJ with ⟨e9,e10,e11,e12,e13,c5,c8,d8⟩ | ⟨e5,e8,e9,e13,f10,f11,f12,g11,g12,hp⟩ | ⟨e5,e8,e9,e10,e11,e12,e13,W9,hp,_⟩
     case inl => simp_all
     case inr.inr => cases e13
     have h12 : b12 = true := by simp_all
     have h11 := g12 h12
     have h10 := g11 h11
     have hy := f12 h12
     subst hy
     have hp' := hp
     rw [hPP] at hp'
     obtain ⟨a3',c3',rfl,ho3,ht3,x7,xt⟩ := hp'
     refine wpOp_skip (w' := W.setCell ⟨T, 1,none⟩ (.slice a3' MX.length c3')) rfl rfl (by go_simp) ?_
     exact ⟨KE.out W _ hS,b5,b8,b9,b10,b11,b12,true,y51,y54,_,y56,y57,_,rfl,rfl,.inr (.inr ⟨e5,e8,e9,h10,h11,h12,rfl,W,hp,rfl⟩)⟩
   ·rintro s a W ⟨_,b5,b8,b9,b10,b11,b12,b13,y51,y54,y55,y56,y57,y58,rfl,rfl,hJ⟩ hall
    have h0 : b13 = true := by simpa using hall 13 (by simp)
    rcases hJ with ⟨e9,e10,e11,e12,e13,c5,c8,d8⟩ | ⟨e5,e8,e9,e13,f10,f11,f12,g11,g12,hp⟩ | ⟨e5,e8,e9,e10,e11,e12,e13,W9,hp,rfl⟩
    case inl => rw [e13] at h0; cases h0
    case inr.inl => rw [e13] at h0; cases h0
    obtain ⟨a3',c3',rfl,hF1,hF2,hF3,hF4⟩ := HF.out W9 y55 hp
    have HG : Hid _ := (fun (_ : Unit) => And.intro hF1 (And.intro hF2 (And.intro hF3 hF4)))
    clear hF1 hF2 hF3 hF4 hp hall
    go_wp2_with fail
    refine bodyPost_end (results_none rfl _ _ _) rfl ⟨rfl, ?_⟩
    rw [HPQ.out]
    exact ⟨_,HG.out ()⟩
   ·exact ⟨kx0,false,false,false,false,false,false,false,_,_,_,_,_,_,rfl,rfl,.inl ⟨rfl,rfl,rfl,rfl,rfl,fun h => (by cases h),fun _ => rfl,fun h => (by cases h)⟩⟩
end Go.Proofs.YtaahjcljanckaaaGreatDoor
