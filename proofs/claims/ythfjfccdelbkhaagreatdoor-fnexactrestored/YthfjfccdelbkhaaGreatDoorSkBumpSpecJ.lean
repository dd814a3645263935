/- Texts that stand in one: SkBumpSpec, SkGuessSpec. -/
import Derived.Test.YthfjfccdelbkhaaGreatDoorSkCopySpecJ
import Derived.Test.YthfjfccdelbkhaaGreatDoorSkOkSpecJ
import Derived.Test.YthfjfccdelbkhaaGreatDoorSumSpecJ
import Derived.StillTailTactics
import Derived.Lib.QuietBelow
import Derived.BigQuiet
namespace Go.Proofs.YthfjfccdelbkhaaGreatDoor
open Go.RowKit Go.Sort
theorem bumpR_top {key : ByteArray} {i : Nat} {r : List Int} (hl : r.length = 16) (h : r.getD (placeS i key) 0 = 15) : bumpR key i r = r := by
 unfold bumpR
 rw [h]
 apply List.ext_getElem?
 intro j
 have hp := placeS_lt (i : Int) key
 by_cases hj : placeS i key = j
 ·subst hj
  rw [List.getElem?_set_self (by omega),List.getElem?_eq_getElem (by omega)]
  rw [List.getD_eq_getElem?_getD,List.getElem?_eq_getElem (by omega)] at h
  simp at h
  rw [h]
  rfl
 ·rw [List.getElem?_set_ne hj]
theorem list_set_self {rows : List (List Int)} {k : Nat} {r : List Int} (h : rows[k]? = some r) : rows.set k r = rows := by
 apply List.ext_getElem?
 intro j
 by_cases hj : k = j
 ·subst hj
  rw [List.getElem?_set_self (List.getElem?_eq_some_iff.1 h).1,h]
 ·rw [List.getElem?_set_ne hj]
theorem getElem_of_some {rows : List (List Int)} {k : Nat} {r : List Int} (h : rows[k]? = some r) : ∃ hk : k < rows.length,rows[k] = r := List.getElem?_eq_some_iff.1 h
theorem OwnSS.cellOf {w : World} {lo hi : Nat} {a : Option Addr} {n c : Nat} {LL : List (List Int)} (h : OwnSS w lo hi (.slice a n c) LL) {i p : Nat} {r : List Int} (hr : LL[i]? = some r) (hp : p < r.length) :
  ∃ g g2 cap2,a = some ⟨g, 0,none⟩ ∧ w.cell? ⟨g,i,none⟩ = some (.slice (some ⟨g2, 0,none⟩) r.length cap2) ∧ w.cell? ⟨g2,p,none⟩ = some (.int .i64 (r.getD p 0)) ∧ w.frozen? ⟨g2,p,none⟩ = false ∧ lo ≤ g2 ∧ (∀ z,OwnSS (w.setCell ⟨g2,p,none⟩ (.int .i64 z)) lo hi (.slice a n c) (LL.set i (r.set p z))) ∧ (∀ T x y,SkBox w T x y → T ≠ g2) := by
 obtain ⟨hi',rfl⟩ := getElem_of_some hr
 obtain ⟨g,cap,u,hv,hlo,hgs,hcell,ho,hlt,hput⟩ := h.row i hi'
 simp only [Value.slice.injEq] at hv
 obtain ⟨rfl,_,_⟩ := hv
 obtain ⟨a2,cap2,e,hc⟩ := ho.shape
 rw [ints_length] at e
 obtain ⟨g2,ha,hcell2,hfr,hlo2,_⟩ := hc p (by rw [ints_length]; exact hp)
 rw [ints_at hp] at hcell2
 subst ha
 subst e
 have e3 : LL[i][p] = LL[i].getD p 0 := by simp [List.getD_eq_getElem?_getD,hp]
 refine ⟨g,g2,cap2,rfl,hcell,by rw [hcell2,e3],hfr,hlo2,fun z => ?_,fun T x y hB e => ?_⟩
 ·have hs := ho.stored (by rw [ints_length]) p (.int .i64 z)
  have e2 : (ints LL[i]).set p (.int .i64 z) = ints (LL[i].set p z) := by simp [ints,List.map_set]
  rw [e2] at hs
  exact hput _ _ hs.2 hs.1
 ·subst e
  rcases ho.2 with ⟨e4,_⟩ | ⟨g4,cap4,cur4,e4,_,hg4,_⟩
  ·simp at e4
  ·simp at e4
   obtain ⟨rfl,_⟩ := e4
   have := hB.symm.trans hg4
   simp at this
set_option maxRecDepth 100000 in
set_option maxHeartbeats 8000000 in
theorem specSketchBump_any (w : World) (a : Option Addr) (c : Nat) (S : Sk) (key : ByteArray) (hA : SSAt w a S.rows w.heap.size) (hm : SkSz S) (hk : key.size ≤ 1048576) :
  Calls Tryz.prog 61 #[.agg #[.slice a S.rows.length c,.int .i64 S.added],.string key] w fun e w' => ∃ v,e = .returned v ∧ SkOwn w' w.heap.size w'.heap.size v (bumpS S key) ∧ Below w.heap.size w w' := by
 obtain ⟨w0,hw0⟩ : ∃ x,w.alloc (.cells #[.slice a S.rows.length c,.int .i64 S.added] 28) = x := ⟨_,rfl⟩
 obtain ⟨w1,hw1⟩ : ∃ x,w0.alloc (.cells #[.slice none 0 0,.int .i64 0] 28) = x := ⟨_,rfl⟩
 have hb0 : Below w.heap.size w w0 := by rw [← hw0]; exact (Below.refl _ _).alloc (Nat.le_refl _) _
 have hb1 : Below w0.heap.size w0 w1 := by rw [← hw1]; exact (Below.refl _ _).alloc (Nat.le_refl _) _
 have s0 : w0.heap.size = w.heap.size + 1 := by rw [← hw0]; simp
 have s1 : w1.heap.size = w.heap.size + 2 := by rw [← hw1]; simp; omega
 have hbw1 : Below w.heap.size w w1 := hb0.trans (hb1.mono hb0.size)
 have hB1 : SkBox w1 w.heap.size (.slice a S.rows.length c) (.int .i64 S.added) := by
  have h : SkBox w0 w.heap.size (.slice a S.rows.length c) (.int .i64 S.added) := by rw [← hw0]; exact SkBox.new _ _ _
  exact h.on hb1
 have hR1 : SkBox w1 (w.heap.size + 1) (.slice none 0 0) (.int .i64 0) := by rw [← hw1, ← s0]; exact SkBox.new _ _ _
 have HW : Hid ((w.alloc (.cells #[.slice a S.rows.length c,.int .i64 S.added] 28)).alloc (.cells #[.slice none 0 0,.int .i64 0] 28) = w1) := by rw [hw0]; exact hw1
 have hA1 := hA.on hbw1
 have hm1 : S.rows.length ≤ 1048576 := by unfold SkSz at hm; omega
 have c0 := l12Copy_any w1 a c S hA1 hm
 obtain ⟨b0,b1⟩ := hB1.cells
 rw [← HW.out] at b0 b1
 obtain ⟨T1,hT1⟩ : ∃ T1,w.heap.size + 1 = T1 := ⟨_,rfl⟩
 have hs1 : T1 < w1.heap.size := by omega
 have hT1l : w.heap.size < T1 := by omega
 clear hw0 hw1 s0 s1 hb0 hb1
 go_enter Tryz.func61,Tryz.ntmps61
 go_wp2_with fail
 rw [HW.out] at b0 b1 ⊢
 rw [hT1] at hR1
 refine c0.mono ?_
 rintro e w2 ⟨v2,rfl,ho2,hb2⟩
 clear c0 b0 b1
 obtain ⟨a2,c2,rfl,_⟩ := ho2.at
 obtain ⟨v1,ev,ho⟩ := ho2
 simp only [Value.agg.injEq,Array.mk.injEq,List.cons.injEq,and_true] at ev
 subst ev
 have hbw2 : Below w.heap.size w w2 := hbw1.trans (hb2.mono hbw1.size)
 obtain ⟨w3,hw3⟩ : ∃ x,w2.alloc (.cells #[.slice a2 S.rows.length c2,.int .i64 S.added] 28) = x := ⟨_,rfl⟩
 have hb3 : Below w2.heap.size w2 w3 := by rw [← hw3]; exact (Below.refl _ _).alloc (Nat.le_refl _) _
 have hbw3 : Below w.heap.size w w3 := hbw2.trans (hb3.mono hbw2.size)
 obtain ⟨V,hV⟩ : ∃ V,w2.heap.size = V := ⟨_,rfl⟩
 have hT3 : SkBox w3 V (.slice a2 S.rows.length c2) (.int .i64 S.added) := by rw [← hw3, ← hV]; exact SkBox.new _ _ _
 have hB3 := (hB1.on hb2).on hb3
 have hR3 := (hR1.on hb2).on hb3
 have hA3 := (hA1.on hb2).on hb3
 have ho3 := ho.below hb3 (Nat.le_refl _)
 have hV1 : T1 < V := by have := hb2.size; omega
 have HW3 : Hid (w2.alloc (.cells #[.slice a2 S.rows.length c2,.int .i64 S.added] 28) = w3) := hw3
 have c1 := specSketchOk_any w3 a c S hA3 hm1
 obtain ⟨b0,b1⟩ := hB3.cells
 rw [← HW3.out] at b0 b1
 have hV2 : w1.heap.size ≤ V := by rw [← hV]; exact hb2.size
 rw [hV] at ho3
 have hbx := ((hB1.on hb2).cells)
 obtain ⟨x0,x1⟩ := hbx
 clear hw3 ho hB1 hR1 hA1 hA hb2 hbw1 hbw2
 go_wp2_with fail
 rw [HW3.out] at b0 b1 ⊢
 refine c1.mono ?_
 rintro e w4 ⟨rfl,hb4⟩
 clear c1 b0 b1 x0 x1
 have hT4 := hT3.on hb4
 have hR4 := hR3.on hb4
 have ho4 := ho3.below hb4 (Nat.le_refl _)
 have hbw4 : Below w.heap.size w w4 := hbw3.trans (hb4.mono hbw3.size)
 have hVs : V < w4.heap.size := hT4.lt
 clear hT3 hR3 ho3 hbw3 hb4 hb3 hA3 hB3 HW3 HW
 cases hok : okK S with
 | false =>
  have HB : Hid (bumpS S key = S) := by show _ = _; unfold bumpS; rw [hok]; rfl
  obtain ⟨t0,t1⟩ := hT4.cells
  obtain ⟨r0,r1⟩ := hR4.cells
  have f0 := hR4.thaw 0
  have f1 := hR4.thaw 1
  have HO : Hid (OwnSS w4 w1.heap.size V (.slice a2 S.rows.length c2) S.rows) := ho4
  clear ho4 hok
  go_wp2_with fail
  obtain ⟨q0,q1⟩ := (hR4.put (.slice a2 S.rows.length c2) (.int .i64 S.added)).cells
  refine bodyPost_ret (v := .agg #[.slice a2 S.rows.length c2,.int .i64 S.added]) (by simp [results,Tryz.results61,go_sem,q0,q1]) rfl ⟨_,rfl, ?_,Below.put2 hbw4 (by omega) _ _⟩
  rw [HB.out]
  exact ⟨_,rfl,(HO.out.put2 hR4 _ _).mono (by omega) (by simp; omega)⟩
 | true =>
  obtain ⟨h3,hall,ha0,ha1⟩ : S.rows.length = 3 ∧ AllOk S.rows ∧ 0 ≤ S.added ∧ S.added ≤ 63 := by
   obtain ⟨r0,r1,r2,hrows,o0,o1,o2,h0,h1⟩ := okK_parts hok
   refine ⟨by rw [hrows]; rfl, ?_,h0,h1⟩
   rw [hrows]
   intro r hr
   simp only [List.mem_cons,List.not_mem_nil,or_false] at hr
   rcases hr with rfl | rfl | rfl
   ·exact o0
   ·exact o1
   ·exact o2
  have HB : Hid (bumpS S key = if S.added = 63 then ⟨halfTo (bumpTo key S.rows 3) 3, 0⟩ else ⟨bumpTo key S.rows 3,S.added + 1⟩) := by show _ = _; unfold bumpS; rw [if_pos hok]
  obtain ⟨rows,added⟩ := S
  dsimp only at *
  rw [h3] at hT4 ho4
  have H3 : Hid (rows.length = 3) := h3
  clear hok hm hm1
  go_wp2_with fail
  clear h3
  go_loopw [6, 7] (fun i _ wr => Box (∃ (k : Nat),k ≤ 3 ∧ i = .int .i64 k ∧ SkBox wr V (.slice a2 3 c2) (.int .i64 added) ∧ SkBox wr T1 (.slice none 0 0) (.int .i64 0) ∧ OwnSS wr w1.heap.size V (.slice a2 3 c2) (bumpTo key rows k) ∧ Below w.heap.size w wr ∧ V < wr.heap.size))
   (fun i _ _ => 3 - (intOf i).toNat)
  case atStart => exact ⟨⟨0,by omega,rfl,hT4,hR4,by rw [bumpTo_zero]; exact ho4,hbw4,hVs⟩⟩
  case round =>
   obtain ⟨k,hk3,rfl,hT1',hR1,hO1,hbel,hVs1⟩ := hrel.out
   obtain ⟨t0,t1⟩ := hT1'.cells
   by_cases hlt : k < 3
   ·have hkr : k < rows.length := by have := H3.out; omega
    obtain ⟨hbk,hbs⟩ := bumpTo_succ key rows k rows[k] (List.getElem?_eq_getElem hkr)
    have hokr := hall rows[k] (List.getElem_mem hkr)
    have hl16 := rowOk_len hokr
    have hp := placeS_lt (k : Int) key
    have hz := rowOk_at hokr (placeS (k : Int) key) hp
    have cP := specSketchPlace_any (k : Int) key wr hk
    have HTOP : Hid (rows[k].getD (placeS (k : Int) key) 0 = 15 → bumpTo key rows (k + 1) = bumpTo key rows k) := by
     intro h
     rw [hbs,bumpR_top hl16 h]
     exact list_set_self hbk
    have HADD : Hid (rows[k].getD (placeS (k : Int) key) 0 < 15 → bumpTo key rows (k + 1) = (bumpTo key rows k).set k (rows[k].set (placeS (k : Int) key) (rows[k].getD (placeS (k : Int) key) 0 + 1))) := by
     intro h
     rw [hbs]
     unfold bumpR
     rw [show min (rows[k].getD (placeS (k : Int) key) 0 + 1) 15 = rows[k].getD (placeS (k : Int) key) 0 + 1 by omega]
    obtain ⟨r,hr⟩ : ∃ r,rows[k] = r := ⟨_,rfl⟩
    rw [hr] at hbk hl16 hz HTOP HADD
    have HN : Hid (∀ w5,Below wr.heap.size wr w5 → SkBox w5 V (.slice a2 3 c2) (.int .i64 added) ∧ SkBox w5 T1 (.slice none 0 0) (.int .i64 0) ∧ OwnSS w5 w1.heap.size V (.slice a2 3 c2) (bumpTo key rows k) ∧ Below w.heap.size w w5 ∧ V < w5.heap.size) := fun w5 h => ⟨hT1'.on h,hR1.on h,hO1.below h (Nat.le_refl _),hbel.trans (h.mono hbel.size),Nat.lt_of_lt_of_le hVs1 h.size⟩
    have HBK : Hid ((bumpTo key rows k)[k]? = some r) := hbk
    have HLN : Hid (placeS (k : Int) key < r.length) := by show _ < _; omega
    have HL16 : Hid (r.length = 16) := hl16
    clear hrel hT4 hR4 ho4 hbw4 hT1' hR1 hO1 hbel hVs1 hbk hbs hokr hr t0 t1 hl16 hVs
    have hi1 : (0 : Int) ≤ (k : Int) := by omega
    have hi2 : (k : Int) < 3 := by omega
    obtain ⟨t0,t1⟩ := (HN.out wr (Below.refl _ _)).1.cells
    go_wp2_with fail
    refine cP.mono ?_
    rintro e w5 ⟨rfl,hb5⟩
    obtain ⟨hT5,hR5,hO5,hbw5,hV5⟩ := HN.out w5 hb5
    obtain ⟨g,g2,cap2,rfl,hc1,hc2,hf2,hlo2,hst,hne⟩ := hO5.cellOf HBK.out HLN.out
    have hg2 := hst (r.getD (placeS (k : Int) key) 0 + 1)
    have hTn := hne V _ _ hT5
    have hRn := hne T1 _ _ hR5
    have HF : Hid (r.getD (placeS (k : Int) key) 0 < 15 → SkBox (w5.setCell ⟨g2,placeS (k : Int) key,none⟩ (.int .i64 (r.getD (placeS (k : Int) key) 0 + 1))) V (.slice (some ⟨g, 0,none⟩) 3 c2) (.int .i64 added) ∧ SkBox (w5.setCell ⟨g2,placeS (k : Int) key,none⟩ (.int .i64 (r.getD (placeS (k : Int) key) 0 + 1))) T1 (.slice none 0 0) (.int .i64 0) ∧ OwnSS (w5.setCell ⟨g2,placeS (k : Int) key,none⟩ (.int .i64 (r.getD (placeS (k : Int) key) 0 + 1))) w1.heap.size V (.slice (some ⟨g, 0,none⟩) 3 c2) (bumpTo key rows (k + 1)) ∧ Below w.heap.size w (w5.setCell ⟨g2,placeS (k : Int) key,none⟩ (.int .i64 (r.getD (placeS (k : Int) key) 0 + 1))) ∧ V < (w5.setCell ⟨g2,placeS (k : Int) key,none⟩ (.int .i64 (r.getD (placeS (k : Int) key) 0 + 1))).heap.size) := by
     intro h
     refine ⟨hT5.far _ _ hTn,hR5.far _ _ hRn, ?_,hbw5.setCell (show w.heap.size ≤ g2 by omega) _,by simpa using hV5⟩
     rw [HADD.out h]
     exact hg2
    have HE : Hid (r.getD (placeS (k : Int) key) 0 = 15 → OwnSS w5 w1.heap.size V (.slice (some ⟨g, 0,none⟩) 3 c2) (bumpTo key rows (k + 1))) := by
     intro h
     rw [HTOP.out h]
     exact hO5
    have hrl := HL16.out
    obtain ⟨t0',t1'⟩ := hT5.cells
    clear cP HN hst hg2 hTn hRn hne HTOP HADD t0 t1 hb5 HLN HBK hO5
    generalize r.getD (placeS (k : Int) key) 0 = z at hz hc2 HF HE
    generalize placeS (k : Int) key = p at hp hc2 hf2 HF
    have hp1 : (0 : Int) ≤ (p : Int) := by omega
    have hp2 : (p : Int) < 16 := by omega
    rw [hrl] at hc1
    clear hrl
    by_cases hz15 : z < 15
    ·have HX := HF.out hz15
     have HX' : Hid _ := HX
     clear HF HE HX hT5 hR5 hbw5 hV5
     go_wp2
     go_roundw
     case rel =>
      try ((repeat apply Exists.intro); refine ⟨?_,rfl⟩)
      exact ⟨⟨k + 1,by omega,by go_num,HX'.out.1,HX'.out.2.1,HX'.out.2.2.1,HX'.out.2.2.2.1,HX'.out.2.2.2.2⟩⟩
     case measure => simp [intOf]; omega
    ·have HX := HE.out (by omega)
     clear HF HE
     go_wp2
     go_roundw
     case rel =>
      try ((repeat apply Exists.intro); refine ⟨?_,rfl⟩)
      exact ⟨⟨k + 1,by omega,by go_num,hT5,hR5,HX,hbw5,hV5⟩⟩
     case measure => simp [intOf]; omega
   ·obtain rfl : k = 3 := by omega
    have hallb := bumpTo_ok (key := key) hall 3
    have hlb : (bumpTo key rows 3).length = 3 := by rw [bumpTo_length]; exact H3.out
    obtain ⟨new,hnew⟩ : ∃ new,bumpTo key rows 3 = new := ⟨_,rfl⟩
    rw [hnew] at hallb hlb HB hO1
    have hT2 := hT1'.set1 (.int .i64 (added + 1))
    have hR2 := hR1.far 1 (.int .i64 (added + 1)) (show T1 ≠ V by omega)
    have hO2 := hO1.far hT1' 1 (.int .i64 (added + 1))
    have hbw2 := hbel.setCell (p := ⟨V, 1,none⟩) (show w.heap.size ≤ V by omega) (.int .i64 (added + 1))
    have tf1 := hT1'.thaw 1
    obtain ⟨y0,y1⟩ := hT2.cells
    have yf1 := hT2.thaw 1
    by_cases h63 : added = 63
    ·have HB2 : Hid (bumpS ⟨rows,added⟩ key = ⟨halfTo new 3, 0⟩) := by show _ = _; rw [HB.out,if_pos h63]
     subst h63
     have hT6 := hT2.set1 (.int .i64 0)
     have hR6 := hR2.far 1 (.int .i64 0) (show T1 ≠ V by omega)
     have hO6 := hO2.far hT2 1 (.int .i64 0)
     have hbw6 := hbw2.setCell (p := ⟨V, 1,none⟩) (show w.heap.size ≤ V by omega) (.int .i64 0)
     have hVs6 : V < ((wr.setCell ⟨V, 1,none⟩ (.int .i64 (63 + 1))).setCell ⟨V, 1,none⟩ (.int .i64 0)).heap.size := by simpa using hVs1
     rw [show (63 : Int) + 1 = 64 from rfl] at *
     clear hrel hT4 hR4 ho4 hbw4 hT1' hR1 hO1 hbel hT2 hR2 hO2 hbw2 HB hVs hVs1
     go_wp2
     obtain ⟨w6,hw6⟩ : ∃ x,(wr.setCell ⟨V, 1,none⟩ (.int .i64 64)).setCell ⟨V, 1,none⟩ (.int .i64 0) = x := ⟨_,rfl⟩
     rw [hw6] at hT6 hR6 hO6 hbw6 hVs6 ⊢
     clear hw6 t0 t1 tf1 y0 y1 yf1
     go_loopw [8, 9] (fun i _ wr => Box (∃ (k : Nat),k ≤ 3 ∧ i = .int .i64 k ∧ SkBox wr V (.slice a2 3 c2) (.int .i64 0) ∧ SkBox wr T1 (.slice none 0 0) (.int .i64 0) ∧ OwnSS wr w1.heap.size V (.slice a2 3 c2) (halfTo new k) ∧ Below w.heap.size w wr ∧ V < wr.heap.size))
      (fun i _ _ => 3 - (intOf i).toNat)
     case atStart => exact ⟨⟨0,by omega,rfl,hT6,hR6,by rw [halfTo_zero]; exact hO6,hbw6,hVs6⟩⟩
     case round =>
      obtain ⟨k,hk3,rfl,hT1',hR1,hO1,hbel,hVs1⟩ := hrel.out
      obtain ⟨t0,t1⟩ := hT1'.cells
      by_cases hlt : k < 3
      ·have hkr : k < new.length := by omega
       obtain ⟨hbk,hbs⟩ := halfTo_succ new k new[k] (List.getElem?_eq_getElem hkr)
       have hokr := hallb new[k] (List.getElem_mem hkr)
       obtain ⟨r,hr⟩ : ∃ r,new[k] = r := ⟨_,rfl⟩
       rw [hr] at hbk hbs hokr
       have hl16 := rowOk_len hokr
       obtain ⟨hs,hhs⟩ : ∃ hs,halfTo new k = hs := ⟨_,rfl⟩
       rw [hhs] at hbk hbs hO1
       have hks : k < hs.length := (List.getElem?_eq_some_iff.1 hbk).1
       have HST : Hid (SkBox wr V (.slice a2 3 c2) (.int .i64 0) ∧ SkBox wr T1 (.slice none 0 0) (.int .i64 0) ∧ OwnSS wr w1.heap.size V (.slice a2 3 c2) (hs.set k (halfP r 0)) ∧ Below w.heap.size w wr ∧ V < wr.heap.size) := ⟨hT1',hR1,by rw [halfP_zero,list_set_self hbk]; exact hO1,hbel,hVs1⟩
       have HZ : Hid (∀ q,q < 16 → 0 ≤ r.getD q 0 ∧ r.getD q 0 ≤ 15) := fun q hq => rowOk_at hokr q hq
       have HN : Hid (∀ q,q < 16 → (hs.set k (halfP r q))[k]? = some (halfP r q) ∧ q < (halfP r q).length ∧ (halfP r q).length = 16 ∧ (halfP r q).getD q 0 = r.getD q 0 ∧ (hs.set k (halfP r q)).set k ((halfP r q).set q (r.getD q 0 / 2)) = hs.set k (halfP r (q + 1))) := by
        intro q hq
        refine ⟨List.getElem?_set_self hks,by rw [halfP_len]; omega,by rw [halfP_len]; exact hl16,halfP_at r q, ?_⟩
        rw [List.set_set,halfP_succ r q (by omega)]
       have HE : Hid (hs.set k (halfP r 16) = halfTo new (k + 1)) := by show _ = _; rw [halfP_all r 16 (by omega), ← hbs]
       have HC : Hid (∀ q,q ≤ 16 → (hs.set k (halfP r q))[k]? = some (halfP r q) ∧ (halfP r q).length = 16) := fun q _ => ⟨List.getElem?_set_self hks,by rw [halfP_len]; exact hl16⟩
       clear hrel hT6 hR6 hO6 hbw6 hVs6 hT1' hR1 hO1 hbel hVs1 hbk hbs hokr hr hl16 hhs t0 t1 hks
       have hi1 : (0 : Int) ≤ (k : Int) := by omega
       have hi2 : (k : Int) < 3 := by omega
       obtain ⟨t0,t1⟩ := HST.out.1.cells
       go_wp2
       clear t0 t1
       go_loopw [9] (fun j wq => Box (∃ (q : Nat),q ≤ 16 ∧ j = .int .i64 q ∧ SkBox wq V (.slice a2 3 c2) (.int .i64 0) ∧ SkBox wq T1 (.slice none 0 0) (.int .i64 0) ∧ OwnSS wq w1.heap.size V (.slice a2 3 c2) (hs.set k (halfP r q)) ∧ Below w.heap.size w wq ∧ V < wq.heap.size))
        (fun j _ => 16 - (intOf j).toNat)
       case atStart => exact ⟨⟨0,by omega,rfl,HST.out.1,HST.out.2.1,HST.out.2.2.1,HST.out.2.2.2.1,HST.out.2.2.2.2⟩⟩
       case round =>
        obtain ⟨q,hq16,rfl,hT5,hR5,hO5,hbw5,hV5⟩ := hrel.out
        obtain ⟨t0,t1⟩ := hT5.cells
        have hrow := hO5.row k (List.getElem?_eq_some_iff.1 (HC.out q hq16).1).1
        by_cases hlq : q < 16
        ·obtain ⟨n1,n2,n3,n4,n5⟩ := HN.out q hlq
         obtain ⟨g,g2,cap2,rfl,hc1,hc2,hf2,hlo2,hst,hne⟩ := hO5.cellOf n1 n2
         have hz := HZ.out q hlq
         rw [n4] at hc2
         rw [n3] at hc1
         have hg2 := hst (r.getD q 0 / 2)
         rw [n5] at hg2
         have HX : Hid (SkBox (wr.setCell ⟨g2,q,none⟩ (.int .i64 (r.getD q 0 / 2))) V (.slice (some ⟨g, 0,none⟩) 3 c2) (.int .i64 0) ∧ SkBox (wr.setCell ⟨g2,q,none⟩ (.int .i64 (r.getD q 0 / 2))) T1 (.slice none 0 0) (.int .i64 0) ∧ OwnSS (wr.setCell ⟨g2,q,none⟩ (.int .i64 (r.getD q 0 / 2))) w1.heap.size V (.slice (some ⟨g, 0,none⟩) 3 c2) (hs.set k (halfP r (q + 1))) ∧ Below w.heap.size w (wr.setCell ⟨g2,q,none⟩ (.int .i64 (r.getD q 0 / 2))) ∧ V < (wr.setCell ⟨g2,q,none⟩ (.int .i64 (r.getD q 0 / 2))).heap.size) := ⟨hT5.far _ _ (hne V _ _ hT5),hR5.far _ _ (hne T1 _ _ hR5),hg2,hbw5.setCell (show w.heap.size ≤ g2 by omega) _,by simpa using hV5⟩
         generalize r.getD q 0 = z at hc2 HX hz
         have hdv : z.tdiv 2 = z / 2 := Int.tdiv_eq_ediv_of_nonneg hz.1
         have hj1 : (0 : Int) ≤ (q : Int) := by omega
         have hj2 : (q : Int) < 16 := by omega
         clear hrel hT5 hR5 hO5 hbw5 hV5 hst hne hg2 n1 n2 n3 n4 n5 HN HZ HE HST HC hrow
         go_wp2
         go_still_tail 16,(by kernel_rfl)
         go_wp2
         refine ⟨?_, ?_⟩
         ·try ((repeat apply Exists.intro); refine ⟨?_,rfl⟩)
          exact ⟨⟨q + 1,by omega,by go_num,HX.out.1,HX.out.2.1,HX.out.2.2.1,HX.out.2.2.2.1.trans ⟨rfl,rfl,rfl,Nat.le_refl _,fun _ _ => rfl⟩,HX.out.2.2.2.2⟩⟩
         ·simp [intOf]; omega
        ·obtain rfl : q = 16 := by omega
         obtain ⟨n1,n3⟩ := HC.out 16 (by omega)
         obtain ⟨g,g2,cap2,rfl,hc1,hc2,hf2,hlo2,hst,hne⟩ := hO5.cellOf (p := 0) n1 (by omega)
         rw [n3] at hc1
         rw [HE.out] at hO5
         clear hrel n1 n3 HN HZ HE HST HC hrow hst hne hc2 hf2
         go_wp2
         refine ⟨⟨⟨k + 1,by omega,by go_num,hT5,hR5,hO5,hbw5,hV5⟩⟩, ?_⟩
         simp [intOf]
         omega
      ·obtain rfl : k = 3 := by omega
       obtain ⟨r0,r1⟩ := hR1.cells
       have f0 := hR1.thaw 0
       have f1 := hR1.thaw 1
       have HO : Hid (OwnSS wr w1.heap.size V (.slice a2 3 c2) (halfTo new 3)) := hO1
       clear hrel hT6 hR6 hO6 hbw6 hVs6 hO1 hT1'
       go_wp2
       obtain ⟨q0,q1⟩ := (hR1.put (.slice a2 3 c2) (.int .i64 0)).cells
       refine bodyPost_ret (v := .agg #[.slice a2 3 c2,.int .i64 0]) (by simp [results,Tryz.results61,go_sem,q0,q1]) rfl ⟨_,rfl, ?_,Below.put2 hbel (by omega) _ _⟩
       rw [HB2.out]
       exact ⟨_,rfl,(HO.out.put2 hR1 _ _).mono (by omega) (by simp; omega)⟩
    ·have HB2 : Hid (bumpS ⟨rows,added⟩ key = ⟨new,added + 1⟩) := by show _ = _; rw [HB.out,if_neg h63]
     have h64 : ¬ added + 1 = 64 := by omega
     have hla : added ≤ 1000 := by omega
     obtain ⟨r0,r1⟩ := hR2.cells
     have f0 := hR2.thaw 0
     have f1 := hR2.thaw 1
     have HO : Hid (OwnSS (wr.setCell ⟨V, 1,none⟩ (.int .i64 (added + 1))) w1.heap.size V (.slice a2 3 c2) new) := hO2
     have hsz2 : V < (wr.setCell ⟨V, 1,none⟩ (.int .i64 (added + 1))).heap.size := by simpa using hVs1
     clear hrel hT4 hR4 ho4 hbw4 hT1' hR1 hO1 hbel hO2 HB h63 hVs hVs1
     go_wp2
     obtain ⟨q0,q1⟩ := (hR2.put (.slice a2 3 c2) (.int .i64 (added + 1))).cells
     refine bodyPost_ret (v := .agg #[.slice a2 3 c2,.int .i64 (added + 1)]) (by simp [results,Tryz.results61,go_sem,q0,q1]) rfl ⟨_,rfl, ?_,Below.put2 hbw2 (by omega) _ _⟩
     rw [HB2.out]
     exact ⟨_,rfl,(HO.out.put2 hR2 _ _).mono (by omega) (by simp; simp at hsz2; omega)⟩
theorem guessTo_next (key : ByteArray) (rows : List (List Int)) (k : Nat) : guessTo key rows (k + 1) = min (lookR key rows k) (guessTo key rows k) := by
 unfold guessTo
 rw [List.range_succ,List.foldl_append]
 rfl
set_option maxRecDepth 100000 in
set_option maxHeartbeats 4000000 in
theorem specSketchGuess_any (w : World) (a : Option Addr) (c : Nat) (S : Sk) (key : ByteArray) (hA : SSAt w a S.rows w.heap.size) (hm : S.rows.length ≤ 1048576) (hk : key.size ≤ 1048576) :
  Calls Tryz.prog 64 #[.agg #[.slice a S.rows.length c,.int .i64 S.added],.string key] w fun e w' => e = .returned (.int .i64 (guessS S key)) ∧ Below w.heap.size w w' := by
 obtain ⟨w0,hw0⟩ : ∃ x,w.alloc (.cells #[.slice a S.rows.length c,.int .i64 S.added] 28) = x := ⟨_,rfl⟩
 have hb0 : Below w.heap.size w w0 := by rw [← hw0]; exact (Below.refl _ _).alloc (Nat.le_refl _) _
 have hB : SkBox w0 w.heap.size (.slice a S.rows.length c) (.int .i64 S.added) := by rw [← hw0]; exact SkBox.new _ _ _
 have HW : Hid (w.alloc (.cells #[.slice a S.rows.length c,.int .i64 S.added] 28) = w0) := hw0
 have c0 := specSketchOk_any w0 a c S (hA.on hb0) hm
 obtain ⟨b0,b1⟩ := hB.cells
 rw [← HW.out] at b0 b1
 clear hw0
 cases hok : okK S with
 | false =>
  rw [hok] at c0
  have HG : Hid (guessS S key = 0) := by show _ = _; unfold guessS; rw [hok]; rfl
  clear hok
  go_enter Tryz.func64,Tryz.ntmps64
  go_wp2_with fail
  rw [HW.out] at b0 b1 ⊢
  refine c0.mono ?_
  rintro e w1 ⟨rfl,hb1⟩
  go_wp2_with fail
  go_ret
  exact ⟨by rw [HG.out]; rfl,hb0.trans (hb1.mono hb0.size)⟩
 | true =>
  rw [hok] at c0
  obtain ⟨r0,r1,r2,hrows,o0,o1,o2,ha0,ha1⟩ := okK_parts hok
  have HZ : Hid (∀ j (hj : j < S.rows.length),rowOk S.rows[j] = true) := by
   intro j hj
   unfold okK at hok
   rw [Bool.and_eq_true,List.all_eq_true] at hok
   exact hok.2 _ (List.getElem_mem hj)
  have H3 : Hid (S.rows.length = 3) := by show _ = _; rw [hrows]; rfl
  have HG : Hid (guessS S key = guessTo key S.rows 3) := by show _ = _; unfold guessS; rw [if_pos hok]
  obtain ⟨rows,added⟩ := S
  dsimp only at *
  have hA0 := hA.on hb0
  clear hok hrows o0 o1 o2 hA ha0 ha1
  go_enter Tryz.func64,Tryz.ntmps64
  go_wp2_with fail
  rw [HW.out] at b0 b1 ⊢
  refine c0.mono ?_
  rintro e w1 ⟨rfl,hb1⟩
  clear c0 b0 b1
  have hbw1 := hb0.trans (hb1.mono hb0.size)
  have hA1 := hA0.on hb1
  have hB1 := hB.on hb1
  clear hB hA0
  go_wp2_with fail
  go_loopw [5, 6, 7] (fun n i _ wr => Box (∃ (k : Nat),k ≤ rows.length ∧ i = .int .i64 k ∧ n = .int .i64 (guessTo key rows k) ∧ Below w1.heap.size w1 wr))
   (fun _ i _ _ => rows.length - (intOf i).toNat)
  case atStart => exact ⟨⟨0,by omega,rfl,rfl,Below.refl _ _⟩⟩
  case round =>
   obtain ⟨k,hk3,rfl,rfl,hbel⟩ := hrel.out
   have hB2 := hB1.on hbel
   obtain ⟨b0,b1⟩ := hB2.cells
   by_cases hlt : k < rows.length
   ·obtain ⟨g,off,ai,ci,rfl,hg,hc,hI⟩ := hA1.on hbel k hlt
    have hrk := HZ.out k hlt
    have hp := placeS_lt (k : Int) key
    have HL : Hid (rows[k].getD (placeS (k : Int) key) 0 = lookR key rows k) := by
     show _ = _
     unfold lookR
     have e : rows.getD k [] = rows[k] := by rw [List.getD_eq_getElem?_getD,List.getElem?_eq_getElem hlt]; rfl
     rw [e]
    have hln := rowOk_len hrk
    obtain ⟨g2,off2,rfl,hg2,hce⟩ := hI (placeS (k : Int) key) (by omega)
    have e2 : rows[k][placeS (k : Int) key]'(by omega) = rows[k].getD (placeS (k : Int) key) 0 := by simp [List.getD_eq_getElem?_getD,hln,hp]
    rw [e2,HL.out] at hce
    have HS : Hid (guessTo key rows (k + 1) = min (lookR key rows k) (guessTo key rows k)) := guessTo_next key rows k
    have cP : ∀ d os,Calls Tryz.prog 87 #[.int .i64 (k : Int),.string key] (grow (redrawn wr d) os) fun e w'' => e = .returned (.int .i64 (placeS (k : Int) key : Nat)) ∧ ∃ p : Regrown,w'' = grow (redrawn wr p.d) p.os := fun d os => Calls.regrown_of (by have := specSketchPlace_any (k : Int) key (grow (redrawn wr d) os) hk; simpa using this)
    rw [hln] at hc
    clear e2 HL
    generalize lookR key rows k = z at hce HS
    generalize placeS (k : Int) key = p at cP hp hce
    obtain ⟨gk,hgk⟩ : ∃ gk,guessTo key rows k = gk := ⟨_,rfl⟩
    rw [hgk] at HS ⊢
    have k0 := cell_regrown b0
    have k1 := cell_regrown hc
    have k2 := cell_regrown hce
    clear hrel hA1 hB1 hB2 hln hrk hI hgk hc hce b1
    have hi1 : (0 : Int) ≤ (k : Int) := by omega
    have hi2 : (k : Int) < (rows.length : Int) := by omega
    have hp1 : (0 : Int) ≤ (p : Int) := by omega
    have hp2 : (p : Int) < 16 := by omega
    by_cases hzg : z < gk
    ·go_wp2
     refine wp_region_quiet_below (by kernel_rfl) (by kernel_rfl) ?_
     repeat (first | go_big_quiet_step (exact cP _ _) | quiet_step (exact cP _ _))
     refine wpQuiet_nil ?_
     intro _ hw'
     obtain ⟨⟨dq,osq⟩,hw''⟩ := hw'
     subst hw''
     go_wp2
     go_roundw
     case rel =>
      try ((repeat apply Exists.intro); refine ⟨?_,rfl⟩)
      exact ⟨⟨k + 1,by omega,by go_num,by rw [HS.out,show min z gk = z by omega],hbel.trans ((below_regrown wr dq osq).mono hbel.size)⟩⟩
     case measure => simp [intOf]; omega
    ·go_wp2
     refine wp_region_quiet_below (by kernel_rfl) (by kernel_rfl) ?_
     repeat (first | go_big_quiet_step (exact cP _ _) | quiet_step (exact cP _ _))
     refine wpQuiet_nil ?_
     intro _ hw'
     obtain ⟨⟨dq,osq⟩,hw''⟩ := hw'
     subst hw''
     go_wp2
     go_roundw
     case rel =>
      try ((repeat apply Exists.intro); refine ⟨?_,rfl⟩)
      exact ⟨⟨k + 1,by omega,by go_num,by rw [HS.out,show min z gk = gk by omega],hbel.trans ((below_regrown wr dq osq).mono hbel.size)⟩⟩
     case measure => simp [intOf]; omega
   ·have hke : k = 3 := by have := H3.out; omega
    subst hke
    go_wp2
    go_ret
    exact ⟨by rw [HG.out]; rfl,hbw1.trans (hbel.mono hbw1.size)⟩
end Go.Proofs.YthfjfccdelbkhaaGreatDoor
