/- Texts that stand in one: SkCopySpec, L13Copy. -/
import Derived.Test.YthfjfccdelbkhaaGreatDoorSkStepJ
import Derived.Test.YthfjfccdelbkhaaGreatDoorSumTabJ
import Derived.Test.YthfjfccdelbkhaaGreatDoorCellPlainJ
import Derived.Test.YthfjfccdelbkhaaGreatDoorPolSpecJ
import Derived.Test.YthfjfccdelbkhaaGreatDoorPolSzTextJ
import Derived.Deep.RegionHeld3
namespace Go.Proofs.YthfjfccdelbkhaaGreatDoor
open Go.RowKit Go.Sort
theorem ownV_of_row {w : World} {base : Nat} {v : Value} {l : List Int} (h : w.ownsRow base 3 1 v l.length (ints l)) : OwnV w base 3 v (ints l) := by unfold OwnV; rw [ints_length]; exact h
set_option maxRecDepth 100000 in
set_option maxHeartbeats 4000000 in
theorem l12Copy_any (w : World) (a : Option Addr) (c : Nat) (S : Sk) (hA : SSAt w a S.rows w.heap.size) (hm : SkSz S) :
  Calls Tryz.prog 85 #[.agg #[.slice a S.rows.length c,.int .i64 S.added]] w fun e w' => ∃ v,e = .returned v ∧ SkOwn w' w.heap.size w'.heap.size v S ∧ Below w.heap.size w w' := by
 obtain ⟨rows,added⟩ := S
 unfold SkSz at hm
 dsimp only at *
 obtain ⟨w0,hw0⟩ : ∃ x,w.alloc (.cells #[.slice a rows.length c,.int .i64 added] 28) = x := ⟨_,rfl⟩
 obtain ⟨w1,hw1⟩ : ∃ x,w0.alloc (.cells #[.slice none 0 0,.int .i64 0] 28) = x := ⟨_,rfl⟩
 obtain ⟨w2,hw2⟩ : ∃ x,w1.alloc (.cells #[.slice none 0 0,.int .i64 added] 28) = x := ⟨_,rfl⟩
 have hb0 : Below w.heap.size w w0 := by rw [← hw0]; exact (Below.refl _ _).alloc (Nat.le_refl _) _
 have hb1 : Below w0.heap.size w0 w1 := by rw [← hw1]; exact (Below.refl _ _).alloc (Nat.le_refl _) _
 have hb2 : Below w1.heap.size w1 w2 := by rw [← hw2]; exact (Below.refl _ _).alloc (Nat.le_refl _) _
 have s0 : w0.heap.size = w.heap.size + 1 := by rw [← hw0]; simp
 have s1 : w1.heap.size = w.heap.size + 1 + 1 := by rw [← hw1]; simp; omega
 have s2 : w2.heap.size = w.heap.size + 1 + 1 + 1 := by rw [← hw2]; simp; omega
 have hb12 : Below w0.heap.size w0 w2 := hb1.trans (hb2.mono hb1.size)
 have hbw : Below w.heap.size w w2 := hb0.trans (hb12.mono hb0.size)
 have hB0 : SkBox w0 w.heap.size (.slice a rows.length c) (.int .i64 added) := by rw [← hw0]; exact SkBox.new _ _ _
 have hB : SkBox w2 w.heap.size (.slice a rows.length c) (.int .i64 added) := hB0.on hb12
 have hR : SkBox w2 (w.heap.size + 1) (.slice none 0 0) (.int .i64 0) := by
  have h : SkBox w1 (w.heap.size + 1) (.slice none 0 0) (.int .i64 0) := by rw [← hw1, ← s0]; exact SkBox.new _ _ _
  exact h.on hb2
 have hT : SkBox w2 (w.heap.size + 1 + 1) (.slice none 0 0) (.int .i64 added) := by rw [← hw2, ← s1]; exact SkBox.new _ _ _
 have HW : Hid (((w.alloc (.cells #[.slice a rows.length c,.int .i64 added] 28)).alloc (.cells #[.slice none 0 0,.int .i64 0] 28)).alloc (.cells #[.slice none 0 0,.int .i64 added] 28) = w2) := by rw [hw0,hw1]; exact hw2
 have bb := (hB0.on hb1).cells
 obtain ⟨b0,b1⟩ := bb
 rw [← hw1, ← hw0] at b0 b1
 clear hw0 hw1 hw2 s0 s1 hb0 hb1 hb2 hb12 hB0
 go_enter Tryz.func85,Tryz.ntmps85
 go_wp2
 rw [HW.out]
 clear b0 b1
 go_loopw [4] (fun i wr => Box (∃ (k : Nat) (v : Value),k ≤ rows.length ∧ i = .int .i64 k ∧ SkBox wr w.heap.size (.slice a rows.length c) (.int .i64 added) ∧ SkBox wr (w.heap.size + 1) (.slice none 0 0) (.int .i64 0) ∧ SkBox wr (w.heap.size + 1 + 1) v (.int .i64 added) ∧ OwnSS wr (w.heap.size + 3) wr.heap.size v (rows.take k) ∧ Below w.heap.size w wr ∧ w.heap.size + 3 ≤ wr.heap.size))
  (fun i _ => rows.length - (intOf i).toNat)
 case atStart => exact ⟨⟨0,_,by omega,rfl,hB,hR,hT,OwnSS.nil _ _ _,hbw,by omega⟩⟩
 case round =>
  obtain ⟨k,v,hk,rfl,hB1,hR1,hT1,hown,hbel,hsz⟩ := hrel.out
  by_cases hlt : k < rows.length
  ·obtain ⟨vs,hv,hvb,hvl,hvr,hvd⟩ := hown
   obtain ⟨g,off,ai,ci,rfl,hg,hc,hI⟩ := (hA.below hbel (Nat.le_refl _)) k hlt
   have hlen := tot_at rows k hlt
   have HTK : Hid (rows.take (k + 1) = rows.take k ++ [rows[k]]) := List.take_succ_eq_append_getElem hlt
   have hgs : g < wr.heap.size := Nat.lt_of_lt_of_le hg hbel.size
   obtain ⟨r,hr⟩ : ∃ r,rows[k] = r := ⟨_,rfl⟩
   rw [hr] at hc hI HTK hlen
   have HSI : Hid ((ai = none → r.length = 0) ∧ ∀ W,Below wr.heap.size wr W → ∀ ad,ai = some ad → ∀ j u,(ints r)[j]? = some u → W.cell? (ad.add j) = some u) := ⟨hI.srcI.1,fun W hW => ((hI.mono hbel.size).on hW).srcI.2⟩
   have KC : ∀ W,Below wr.heap.size wr W → W.cell? ⟨w.heap.size, 0,none⟩ = some (.slice (some ⟨g,off,none⟩) rows.length c) ∧ W.cell? ⟨w.heap.size + 1 + 1, 0,none⟩ = some v ∧ W.cell? ⟨g,off + k,none⟩ = some (.slice ai r.length ci) := fun W h => ⟨(hB1.on h).cells.1,(hT1.on h).cells.1,(h.cell hgs).trans hc⟩
   have HKC : Hid (∀ W,Below wr.heap.size wr W → W.cell? ⟨w.heap.size, 0,none⟩ = some (.slice (some ⟨g,off,none⟩) rows.length c) ∧ W.cell? ⟨w.heap.size + 1 + 1, 0,none⟩ = some v ∧ W.cell? ⟨g,off + k,none⟩ = some (.slice ai r.length ci)) := KC
   obtain ⟨d0,d1,d2⟩ := KC wr (Below.refl _ _)
   have hbE : Below wr.heap.size wr (wr.alloc (.cells #[] 3)) := (Below.refl _ _).alloc (Nat.le_refl _) _
   have hbEd : Below wr.heap.size wr (wr.alloc (.cells #[] 3)).drew := hbE.trans ⟨rfl,rfl,rfl,Nat.le_refl _,fun _ _ => rfl⟩
   obtain ⟨e0,e1,e2⟩ := KC _ hbE
   have hvk : vs.length = k := by rw [hvl,List.length_take]; omega
   have hvk1 : (vs.length + 1) * 24 ≤ 140737488355328 := by omega
   have hvk2 : vs.length < 140737488355328 := by omega
   have HV : Hid (∀ W,Below wr.heap.size wr W → OwnV W (w.heap.size + 3) 107 v vs ∧ w.heap.size + 3 ≤ W.heap.size) := fun W h => ⟨hv.below h (Nat.le_refl _),Nat.le_trans hsz h.size⟩
   have HG : Hid (∀ v' u wx w3,Below wr.heap.size wr wx → OwnV wx wr.heap.size 3 u (ints r) → OwnV w3 (w.heap.size + 3) 107 v' (vs ++ [u]) → wx.grownBy w3 v.ownBlock → w3.cell? ⟨w.heap.size + 1 + 1, 0,none⟩ = some v ∧ w3.frozen? ⟨w.heap.size + 1 + 1, 0,none⟩ = false ∧ Hid (SkBox (w3.setCell ⟨w.heap.size + 1 + 1, 0,none⟩ v') w.heap.size (.slice (some ⟨g,off,none⟩) rows.length c) (.int .i64 added) ∧ SkBox (w3.setCell ⟨w.heap.size + 1 + 1, 0,none⟩ v') (w.heap.size + 1) (.slice none 0 0) (.int .i64 0) ∧ SkBox (w3.setCell ⟨w.heap.size + 1 + 1, 0,none⟩ v') (w.heap.size + 1 + 1) v' (.int .i64 added) ∧ OwnSS (w3.setCell ⟨w.heap.size + 1 + 1, 0,none⟩ v') (w.heap.size + 3) (w3.setCell ⟨w.heap.size + 1 + 1, 0,none⟩ v').heap.size v' (rows.take (k + 1)) ∧ Below w.heap.size w (w3.setCell ⟨w.heap.size + 1 + 1, 0,none⟩ v') ∧ w.heap.size + 3 ≤ (w3.setCell ⟨w.heap.size + 1 + 1, 0,none⟩ v').heap.size)) := by
    intro v' u wx w3 hbx hu ho hg3
    obtain ⟨g1,g2,g3,g4,g5,g6⟩ := gatherSS hT1 (by omega) hsz hbel (by omega) hv hvl hvr hvd hbx hu hg3 ho
    refine ⟨g1,g2,hB1.kept (g5 _ (by omega) (by omega)),hR1.kept (g5 _ (by omega) (by omega)),g3, ?_,g6, ?_⟩
    ·rw [HTK.out]; exact g4
    ·have := hg3.size
     have := hbx.size
     simp
     omega
   have hrl : r.length ≤ 1048576 := by omega
   clear hrel hB hR hT hbw hA hB1 hR1 hT1 hv hvb hvl hvr hvd hbel hI hc hlen hvk KC hr hbE
   have hi1 : (0 : Int) ≤ (k : Int) := by omega
   have hi2 : (k : Int) < (rows.length : Int) := by omega
   go_wp2
   go_region_law (first
    | (refine step_allI rfl (.tmp 17) (.tmp 22) 107 rfl 3 Tryz.underlying107 (.int .i64 0) 1 8 Tryz.infoInt rfl (by omega) (by omega) wr.heap.size rfl (by exact heap_alloc_new _ _) ai r.length ci (ints r) rfl (by rw [ints_length]; omega) HSI.out.1 (HSI.out.2 _ hbEd) (ints_one' r) hrl ?_; rintro g4 c4 w4 o4 b4 n4 k4; have hb4 : Below wr.heap.size wr w4 := hbEd.trans b4; have hu4 := ownV_of_row o4; have hb5 : Below wr.heap.size wr (w4.alloc (.cells #[.slice (some ⟨g4, 0,none⟩) r.length c4] 107)) := hb4.alloc hb4.size _; have hu5 := hu4.alloc (.cells #[.slice (some ⟨g4, 0,none⟩) r.length c4] 107); have f1 := (HKC.out _ hb4).2.1; have f2 := (HKC.out _ hb5).2.1; have HV5 := HV.out _ hb5; clear o4 b4 n4 k4)
    | (refine step_snocO (by rfl) _ _ 26 (by rfl) (w.heap.size + 3) 107 Tryz.underlying26 (.slice none 0 0) 24 Tryz.infoIntS rfl v vs (by rfl) (by exact HV5.1) w4.heap.size (.slice (some ⟨g4, 0,none⟩) r.length c4) (0, 0) (by rfl) (by exact heap_alloc_new w4 _) rfl hvk1 hvk2 (by exact HV5.2) ?_; intro g6 c6 w6 hown6 hgr6; have hk6 := HG.out _ _ _ w6 hb5 hu5 hown6 hgr6; have q6 := hk6.1; have z6 := hk6.2.1; have HK6 := hk6.2.2; clear hk6 hown6 hgr6))
   all_goals (
    clear hb4 hb5 hu4 hu5 f1 f2 HV5 q6 z6 HV HG HSI HKC d0 d1 d2 e0 e1 e2 hbEd
    go_wp2
    refine ⟨?_, ?_⟩
    ·exact ⟨⟨k + 1,_,by omega,by go_num,HK6.out.1,HK6.out.2.1,HK6.out.2.2.1,HK6.out.2.2.2.1,HK6.out.2.2.2.2.1,HK6.out.2.2.2.2.2⟩⟩
    ·simp [intOf]; omega)
  ·have hke : k = rows.length := by omega
   subst hke
   rw [List.take_length] at hown
   obtain ⟨av,cv,rfl,_⟩ := hown.at
   obtain ⟨b0,b1⟩ := hB1.cells
   obtain ⟨t0,t1⟩ := hT1.cells
   obtain ⟨r0,r1⟩ := hR1.cells
   have f0 := hR1.thaw 0
   have f1 := hR1.thaw 1
   have HO : Hid (OwnSS wr (w.heap.size + 3) wr.heap.size (.slice av rows.length cv) rows) := hown
   clear hrel hown hT1 hlt hB hR hT hbw hA hB1
   go_wp2
   obtain ⟨q0,q1⟩ := (hR1.put (.slice av rows.length cv) (.int .i64 added)).cells
   refine bodyPost_ret (v := .agg #[.slice av rows.length cv,.int .i64 added]) (by simp [results,Tryz.results85,go_sem,q0,q1]) rfl ⟨_,rfl,⟨_,rfl, ?_⟩,Below.put2 hbel (by omega) _ _⟩
   refine (HO.out.put2 hR1 _ _).mono (by omega) ?_
   simp
theorem bplusS {a b : World} (h : Below a.heap.size a b) (o : Obj) : Below a.heap.size a (b.alloc o) := h.alloc h.size o
theorem heap_atS {w : World} {k : Nat} (h : w.heap.size = k) (o : Obj) : (w.alloc o).heap[k]? = some o := by subst h; exact heap_alloc_new _ _
theorem heap_oldS {w : World} {k : Nat} {o x : Obj} (h : w.heap[k]? = some x) : (w.alloc o).heap[k]? = some x := by
 rw [Below.heap_alloc w o k (Array.getElem?_eq_some_iff.1 h).1]; exact h
theorem heap_twoS {w : World} {k : Nat} {o : Obj} (h : w.heap.size = k ∨ w.heap.size + 1 = k) : ((w.alloc o).alloc o).heap[k]? = some o := by
 rcases h with rfl | rfl
 ·exact heap_oldS (heap_alloc_new _ _)
 ·exact heap_atS (by simp) _
theorem ballocS {n : Nat} {a b : World} (h : Below n a b) (hn : n ≤ a.heap.size) (o : Obj) : Below n a (b.alloc o) := h.alloc (Nat.le_trans hn h.size) o
set_option maxRecDepth 100000 in
set_option maxHeartbeats 8000000 in
theorem l13Copy_any (w : World) (aw am ak : Option Addr) (cw cm ck : Nat) (P : Pol) (hA : PolAt w aw am ak P w.heap.size) (hsz : PolSz P) :
  Calls Tryz.prog 59 #[.agg #[.slice aw P.win.length cw,.slice am P.main.length cm,.slice ak P.sk.rows.length ck,.int .i64 P.sk.added]] w fun e w' => ∃ v,e = .returned v ∧ POwn w' w.heap.size w'.heap.size v P ∧ Below w.heap.size w w' := by
 obtain ⟨l1,l2,l3⟩ := hsz.parts
 obtain ⟨w0,hw0⟩ : ∃ x,w.alloc (.cells #[.slice aw P.win.length cw,.slice am P.main.length cm,.slice ak P.sk.rows.length ck,.int .i64 P.sk.added] 30) = x := ⟨_,rfl⟩
 obtain ⟨w1,hw1⟩ : ∃ x,w0.alloc (.cells #[.slice none 0 0,.slice none 0 0,.slice none 0 0,.int .i64 0] 30) = x := ⟨_,rfl⟩
 have hb0 : Below w.heap.size w w0 := by rw [← hw0]; exact (Below.refl _ _).alloc (Nat.le_refl _) _
 have hb01 : Below w0.heap.size w0 w1 := by rw [← hw1]; exact (Below.refl _ _).alloc (Nat.le_refl _) _
 have s0 : w0.heap.size = w.heap.size + 1 := by rw [← hw0]; simp
 have s1 : w1.heap.size = w.heap.size + 2 := by rw [← hw1]; simp; omega
 have hb1 : Below w.heap.size w w1 := hb0.trans (hb01.mono hb0.size)
 have hB : PBox w1 w.heap.size (.slice aw P.win.length cw) (.slice am P.main.length cm) (.slice ak P.sk.rows.length ck) (.int .i64 P.sk.added) := by
  have h : PBox w0 w.heap.size (.slice aw P.win.length cw) (.slice am P.main.length cm) (.slice ak P.sk.rows.length ck) (.int .i64 P.sk.added) := by rw [← hw0]; exact PBox.new _ _ _ _ _
  exact h.on hb01
 have hR : PBox w1 (w.heap.size + 1) (.slice none 0 0) (.slice none 0 0) (.slice none 0 0) (.int .i64 0) := by rw [← hw1, ← s0]; exact PBox.new _ _ _ _ _
 have hA1 := hA.on hb1
 have HW : Hid ((w.alloc (.cells #[.slice aw P.win.length cw,.slice am P.main.length cm,.slice ak P.sk.rows.length ck,.int .i64 P.sk.added] 30)).alloc (.cells #[.slice none 0 0,.slice none 0 0,.slice none 0 0,.int .i64 0] 30) = w1) := by rw [hw0]; exact hw1
 have KS : ∀ W,Below (w.heap.size + 1) w1 W → W.cell? ⟨w.heap.size, 0,none⟩ = some (.slice aw P.win.length cw) ∧ W.cell? ⟨w.heap.size, 1,none⟩ = some (.slice am P.main.length cm) ∧ W.cell? ⟨w.heap.size, 2,none⟩ = some (.slice ak P.sk.rows.length ck) ∧ W.cell? ⟨w.heap.size, 3,none⟩ = some (.int .i64 P.sk.added) := fun W h => by
  obtain ⟨x0,x1,x2,x3⟩ := hB.cells
  exact ⟨(h.cell (by simp)).trans x0,(h.cell (by simp)).trans x1,(h.cell (by simp)).trans x2,(h.cell (by simp)).trans x3⟩
 have HSW : Hid ((aw = none → P.win.length = 0) ∧ ∀ W,Below w1.heap.size w1 W → ∀ ad,aw = some ad → ∀ j u,(strs P.win)[j]? = some u → W.cell? (ad.add j) = some u) := ⟨hA1.1.srcS.1,fun W hW => (hA1.1.on hW).srcS.2⟩
 have HSM : Hid ((am = none → P.main.length = 0) ∧ ∀ W,Below w1.heap.size w1 W → ∀ ad,am = some ad → ∀ j u,(strs P.main)[j]? = some u → W.cell? (ad.add j) = some u) := ⟨hA1.2.1.srcS.1,fun W hW => (hA1.2.1.on hW).srcS.2⟩
 have HC3 : Hid (∀ W,Below w1.heap.size w1 W → Calls Tryz.prog 85 #[.agg #[.slice ak P.sk.rows.length ck,.int .i64 P.sk.added]] W fun e w' => ∃ a2 k2,e = .returned (.agg #[.slice a2 P.sk.rows.length k2,.int .i64 P.sk.added]) ∧ OwnSS w' W.heap.size w'.heap.size (.slice a2 P.sk.rows.length k2) P.sk.rows ∧ Below W.heap.size W w') := fun W h => by
  refine (l12Copy_any W ak ck P.sk (hA1.on h).2.2 l3).mono ?_
  rintro e w' ⟨v,rfl,⟨u,rfl,ho⟩,hb⟩
  obtain ⟨a2,k2,rfl,_⟩ := ho.at
  exact ⟨a2,k2,rfl,ho,hb⟩
 have hdf : Below w1.heap.size w1 w1.drew := ⟨rfl,rfl,rfl,Nat.le_refl _,fun _ _ => rfl⟩
 have hdr : Below (w.heap.size + 1) w1 w1.drew := hdf.mono (by omega)
 have hn1 : w.heap.size + 1 ≤ w1.heap.size := by omega
 have HRB : Hid (∀ W,Below w1.heap.size w1 W → PBox W (w.heap.size + 1) (.slice none 0 0) (.slice none 0 0) (.slice none 0 0) (.int .i64 0)) := fun W h => hR.on h
 have HB1 : Hid (Below w.heap.size w w1 ∧ w1.heap.size = w.heap.size + 2) := ⟨hb1,s1⟩
 clear hw0 hw1 hb0 hb01 s0 hA hA1 hB hR hb1 s1 hsz l3
 go_enter Tryz.func59,Tryz.ntmps59
 go_wp2_with fail
 rw [HW.out]
 clear HW
 go_region_held3 (fun W => W.cell? ⟨w.heap.size, 0,none⟩ = some (.slice aw P.win.length cw) ∧ W.cell? ⟨w.heap.size, 1,none⟩ = some (.slice am P.main.length cm) ∧ W.cell? ⟨w.heap.size, 2,none⟩ = some (.slice ak P.sk.rows.length ck) ∧ W.cell? ⟨w.heap.size, 3,none⟩ = some (.int .i64 P.sk.added)) (first | exact KS _ (by first | exact hdr | exact fC.mono hn1 | exact fB.mono hn1 | exact fA.mono hn1 | exact ballocS hdr hn1 _ | exact ballocS (fA.mono hn1) hn1 _ | exact ballocS (ballocS hdr hn1 _) hn1 _ | exact ((((fC.mono hn1).setCell (Nat.le_refl _) _).setCell (Nat.le_refl _) _).setCell (Nat.le_refl _) _).setCell (Nat.le_refl _) _))
  (first
   | (refine step_allI rfl (.tmp 3) (.tmp 5) 25 rfl 9 Tryz.underlying25 (.string ⟨#[]⟩) 1 16 Tryz.infoSK rfl (by omega) (by omega) _ rfl (by first | exact heap_twoS (by first | exact .inl rfl | exact .inr rfl) | exact heap_alloc_new _ _) aw P.win.length cw (strs P.win) rfl (by rw [strs_length]; omega) HSW.out.1 (HSW.out.2 _ (by first | exact hdf | assumption | exact fA | exact fB | exact bplusS hdf _ | exact bplusS fA _ | exact bplusS fB _ | exact bplusS (bplusS hdf _) _)) (strs_one _) l1 ?_; rintro gA cA wA oA bA nA kA; have fA : Below w1.heap.size w1 wA := Below.trans (by first | exact hdf | assumption | exact fA | exact fB | exact bplusS hdf _ | exact bplusS fA _ | exact bplusS fB _ | exact bplusS (bplusS hdf _) _) (bA.mono (by first | exact fA.size | exact Nat.le_refl _ | omega)))
   | (refine step_allI rfl (.tmp 7) (.tmp 9) 25 rfl 9 Tryz.underlying25 (.string ⟨#[]⟩) 1 16 Tryz.infoSK rfl (by omega) (by omega) _ rfl (by first | exact heap_alloc_new _ _ | exact (kA _ (by first | omega | (simp; done) | (simp; omega)) (by first | omega | (simp; done))).trans (heap_twoS (by first | exact .inl rfl | exact .inr rfl))) am P.main.length cm (strs P.main) rfl (by rw [strs_length]; omega) HSM.out.1 (HSM.out.2 _ (by first | exact hdf | assumption | exact fA | exact fB | exact bplusS hdf _ | exact bplusS fA _ | exact bplusS fB _ | exact bplusS (bplusS hdf _) _)) (strs_one _) l2 ?_; rintro gB cB wB oB bB nB kB; have fB : Below w1.heap.size w1 wB := Below.trans (by first | exact hdf | assumption | exact fA | exact fB | exact bplusS hdf _ | exact bplusS fA _ | exact bplusS fB _ | exact bplusS (bplusS hdf _) _) (bB.mono (by first | exact fA.size | exact Nat.le_refl _ | omega)))
   | (go_at_call 85; with_reducible refine (HC3.out _ fB).mono ?_; rintro e wC ⟨a4,k4,rfl,oC,bC⟩; have fC : Below w1.heap.size w1 wC := fB.trans (bC.mono fB.size); have hR4 := HRB.out _ fC; obtain ⟨r0,r1,r2,r3⟩ := hR4.cells; have t0 := hR4.thaw 0; have t1 := hR4.thaw 1; have t2 := hR4.thaw 2; have t3 := hR4.thaw 3))
 all_goals (
  have lA := (World.ownsRow.lt oA gA rfl)
  have lB := (World.ownsRow.lt oB gB rfl)
  have hgg : gA ≠ gB ∧ wB.heap[gA]? = wA.heap[gA]? := by
   simp at nA nB kB
   refine ⟨by omega, ?_⟩
   first
    | exact kB gA (by omega) (by omega)
    | exact (kB gA (by omega) (by omega)).trans (Below.heap_alloc _ _ _ (by omega))
  have gA1 : w1.heap.size ≤ gA := by
   have := fA.size
   omega
  have gB1 : w1.heap.size ≤ gB := by
   have := fA.size
   omega
  have hOA : OwnV wB w1.heap.size 9 (.slice (some ⟨gA, 0,none⟩) P.win.length cA) (strs P.win) := by
   have h : OwnV wA w1.heap.size 9 (.slice (some ⟨gA, 0,none⟩) P.win.length cA) (strs P.win) := OwnV.mono (ownV_of_rowS oA) (by simp; try omega)
   exact h.kept fun k hk => by simp [Value.ownBlock] at hk; subst hk; exact hgg.2
  have hOB : OwnV wB w1.heap.size 9 (.slice (some ⟨gB, 0,none⟩) P.main.length cB) (strs P.main) := OwnV.mono (ownV_of_rowS oB) (by have := fA.size; simp at this ⊢; try omega)
  obtain ⟨hb1,s1⟩ := HB1.out
  have hPO : POwn wC w.heap.size wC.heap.size (.agg #[.slice (some ⟨gA, 0,none⟩) P.win.length cA,.slice (some ⟨gB, 0,none⟩) P.main.length cB,.slice a4 P.sk.rows.length k4,.int .i64 P.sk.added]) P :=
   POwn.mk3 (hOA.below bC (Nat.le_refl _)) (hOB.below bC (Nat.le_refl _)) oC (by omega) (by omega) (by have := fB.size; omega) (fun k hk => by simp [Value.ownBlock] at hk ⊢; subst hk; exact fun e => hgg.1 e.symm)
  have hR4 := HRB.out _ fC
  have HOA : Hid _ := hPO.put4 hR4 (.slice (some ⟨gA, 0,none⟩) P.win.length cA) (.slice (some ⟨gB, 0,none⟩) P.main.length cB) (.slice a4 P.sk.rows.length k4) (.int .i64 P.sk.added)
  have HBF : Hid _ := Below.put4 (hb1.trans (fC.mono (by omega))) (T := w.heap.size + 1) (by omega) (.slice (some ⟨gA, 0,none⟩) P.win.length cA) (.slice (some ⟨gB, 0,none⟩) P.main.length cB) (.slice a4 P.sk.rows.length k4) (.int .i64 P.sk.added)
  obtain ⟨q0,q1,q2,q3⟩ := (hR4.put (.slice (some ⟨gA, 0,none⟩) P.win.length cA) (.slice (some ⟨gB, 0,none⟩) P.main.length cB) (.slice a4 P.sk.rows.length k4) (.int .i64 P.sk.added)).cells
  clear oA oB bA bB nA nB kA kB fA fB lA lB hgg gA1 gB1 hPO hOA hOB
  try go_wp2_with fail
  refine bodyPost_ret (v := .agg #[.slice (some ⟨gA, 0,none⟩) P.win.length cA,.slice (some ⟨gB, 0,none⟩) P.main.length cB,.slice a4 P.sk.rows.length k4,.int .i64 P.sk.added]) (by simp [results,Tryz.results59,go_sem,q0,q1,q2,q3]) rfl ⟨_,rfl, ?_,HBF.out⟩
  refine POwn.mono HOA.out (Nat.le_refl _) ?_
  simp)
end Go.Proofs.YthfjfccdelbkhaaGreatDoor
