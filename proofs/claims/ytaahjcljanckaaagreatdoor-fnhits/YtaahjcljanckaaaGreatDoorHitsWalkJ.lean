/- Texts that stand in one: HitsWalk, CodeOf. -/
import Derived.Test.YtaahjcljanckaaaGreatDoorCloseIJ
import Derived.Deep.Cut
import Derived.Deep.RegionHeld3
import Derived.Deep.DeepCutAuto
import Derived.WalkKit
import Derived.ProofKit
import Derived.OpenShut
import Derived.ChangeOld
import Derived.Below
namespace Go.Proofs.YtaahjcljanckaaaGreatDoor
open Go.RowKit Go.Sort
theorem places_of {w : World} {base : Nat} {v : Value} {l : List Int} (h : OwnV w base 3 v (ints l)) (hl : l.length = 12) (hz : ∀ z ∈ l, 0 ≤ z ∧ z < 10000) :
  ∃ g off k x0 x1 x2,v = .slice (some ⟨g,off,none⟩) 12 k ∧ g < w.heap.size ∧ w.cell? ⟨g,off,none⟩ = some (.int .i64 x0) ∧ w.cell? ⟨g,off + 1,none⟩ = some (.int .i64 x1) ∧ w.cell? ⟨g,off + 2,none⟩ = some (.int .i64 x2) ∧ (0 ≤ x0 ∧ x0 < 10000) ∧ (0 ≤ x1 ∧ x1 < 10000) ∧ (0 ≤ x2 ∧ x2 < 10000) := by
 obtain ⟨a,k,rfl,hI⟩ := h.ints
 obtain ⟨g,off,rfl,hg,h0⟩ := hI 0 (by omega)
 obtain ⟨g',off',e,_,h1⟩ := hI 1 (by omega)
 obtain ⟨g2,off2,e2,_,h2⟩ := hI 2 (by omega)
 simp only [Option.some.injEq,Addr.mk.injEq,and_true] at e e2
 obtain ⟨rfl,rfl⟩ := e
 obtain ⟨rfl,rfl⟩ := e2
 rw [hl]
 exact ⟨_,_,_,_,_,_,rfl,hg,h0,h1,h2,hz _ (List.getElem_mem (by omega)),hz _ (List.getElem_mem (by omega)),hz _ (List.getElem_mem (by omega))⟩
theorem hit_end {t n life : Int} {key bd : ByteArray} (h : HitL t n life key bd) : ∃ P6 x,askR (hR4 (t + n) t life key bd) 2 key = (P6, 0) ∧ okX P6 = true ∧ cliAtX P6.cls 2 = (x,true) ∧ (n < life → x.st = 2 ∧ x.got = bd ∧ x.ag = n ∧ P6.fes.length = 1 ∧ P6.hits = 1) ∧ (¬ n < life → x.st = 1 ∧ x.got = ⟨#[]⟩ ∧ P6.fes.length = 2 ∧ P6.hits = 0 ∧ P6.ents.length = 0) := by
 by_cases hf : n < life
 ·exact ⟨_,_,hit_6 h hf,hR6_ok h,rfl,fun _ => ⟨rfl,rfl,rfl,rfl,rfl⟩,fun h => absurd hf h⟩
 ·exact ⟨_,_,hit_7 h hf,hR7_ok h,rfl,fun h => absurd h hf,fun _ => ⟨rfl,rfl,rfl,rfl,rfl⟩⟩
set_option maxRecDepth 100000 in
set_option maxHeartbeats 8000000 in
theorem hits_walk (ca : Option Addr) (n cap : Nat) (w : World) (hcode : CodeAt w ca n w.heap.size) (hlen : n ≤ maxLen) (ht : Tab w) :
  Calls Tryz.prog 3 #[.slice ca n cap] w fun e w' => e = .returned (.bool true) ∧ Below w.heap.size w w' := by
 unfold maxLen at hlen
 have cb := big_any ca n cap w (by omega)
 by_cases hn : n ≤ 1048576
 case neg =>
  rw [show decide (1048576 < n) = true by simp; omega] at cb
  go_enter Tryz.func3,Tryz.ntmps3
  go_wp2_with fail
  refine cb.mono ?_
  rintro e w' ⟨rfl,rfl⟩
  go_wp2_with fail
  go_ret
  exact ⟨rfl,Below.refl _ _⟩
 rw [show decide (1048576 < n) = false by simp; omega] at cb
 have HTB : Hid (∀ W,Below w.heap.size w W → Tab W) := fun W h => ht.below h (Nat.le_refl _)
 have cP := drawPlaces_any w ca n cap hcode hn
 clear ht hcode
 go_enter Tryz.func3,Tryz.ntmps3
 go_wp2_with fail
 refine cb.mono ?_
 rintro e w' ⟨rfl,rfl⟩
 clear cb
 go_wp2_with fail
 refine cP.mono ?_
 rintro e w1 ⟨v1,l,rfl,hl12,hlz,ho1,hb1⟩
 obtain ⟨g,off,kq,x0,x1,x2,rfl,hg,hc0,hc1,hc2,hx0,hx1,hx2⟩ := places_of ho1 hl12 hlz
 obtain ⟨a0,ha0⟩ : ∃ a,x0 % 500 = a := ⟨_,rfl⟩
 obtain ⟨a1,ha1⟩ : ∃ a,x1 % 1000 = a := ⟨_,rfl⟩
 obtain ⟨a2,ha2⟩ : ∃ a,x2 % 700 = a := ⟨_,rfl⟩
 have tm0 : x0.tmod 500 = a0 := by rw [Int.tmod_eq_emod_of_nonneg (by omega)]; exact ha0
 have tm1 : x1.tmod 1000 = a1 := by rw [Int.tmod_eq_emod_of_nonneg (by omega)]; exact ha1
 have tm2 : x2.tmod 700 = a2 := by rw [Int.tmod_eq_emod_of_nonneg (by omega)]; exact ha2
 obtain ⟨lf,hlf⟩ : ∃ a, 1 + a0 = a := ⟨_,rfl⟩
 have hwr : IntKind.i64.wrap (1 + a0) = lf := by rw [IntKind.wrap_i64]; omega
 have hA : HitL (1 + a1) a2 lf ⟨#[47, 107]⟩ ⟨#[98, 111, 100, 121]⟩ := ⟨by omega,by omega,by omega,by decide,by decide⟩
 have HLT : Hid ((0 ≤ a0 ∧ a0 < 500) ∧ (0 ≤ a1 ∧ a1 < 1000) ∧ (0 ≤ a2 ∧ a2 < 700)) := ⟨by omega,by omega,by omega⟩
 obtain ⟨P6,xc,E6,E6k,EC,EF,EG⟩ := hit_end hA
 obtain ⟨P0,e0⟩ : ∃ P,newR = P := ⟨_,rfl⟩
 obtain ⟨P1,e1⟩ : ∃ P,hR1 (1 + a1) = P := ⟨_,rfl⟩
 obtain ⟨P2,e2⟩ : ∃ P,hR2 (1 + a1) ⟨#[47, 107]⟩ = P := ⟨_,rfl⟩
 obtain ⟨P3,e3⟩ : ∃ P,hR3 (1 + a1) ⟨#[47, 107]⟩ ⟨#[98, 111, 100, 121]⟩ = P := ⟨_,rfl⟩
 obtain ⟨P4,e4⟩ : ∃ P,hR4 (1 + a1) (1 + a1) lf ⟨#[47, 107]⟩ ⟨#[98, 111, 100, 121]⟩ = P := ⟨_,rfl⟩
 obtain ⟨P5,e5⟩ : ∃ P,hR4 (1 + a1 + a2) (1 + a1) lf ⟨#[47, 107]⟩ ⟨#[98, 111, 100, 121]⟩ = P := ⟨_,rfl⟩
 have S0 : PxSz P0 ∧ PxM P0 := by rw [← e0]; exact ⟨okX_sz (R := hR1 1) (hR1_ok (by omega)),okX_m (R := hR1 1) (hR1_ok (by omega)) (fun c hc => by cases hc)⟩
 have S1 : PxSz P1 := by rw [← e1]; exact okX_sz (hR1_ok hA.t)
 have S2 : PxSz P2 := by rw [← e2]; exact okX_sz (hR2_ok hA)
 have S3 : PxSz P3 := by rw [← e3]; exact okX_sz (hR3_ok hA)
 have S4 : PxSz P4 ∧ PxM P4 := by rw [← e4]; exact ⟨okX_sz (hR4_ok hA (by have := hA.t; omega)),okX_m (hR4_ok hA (by have := hA.t; omega)) (fun c hc => by rw [show c = ⟨1,⟨#[47, 107]⟩, 1, 0, 2,⟨#[98, 111, 100, 121]⟩, 0⟩ from List.mem_singleton.1 hc]; show (0 : Int) ≤ _; omega)⟩
 have S5 : PxSz P5 := by rw [← e5]; exact okX_sz (hR4_ok hA (by have := hA.t; have := hA.n; omega))
 have S6 : PxSz P6 := okX_sz E6k
 have Q1 : passR P0 a1 = P1 := by rw [← e0, ← e1]; exact hit_1 HLT.out.2.1
 have Q2 : askR P1 1 ⟨#[47, 107]⟩ = (P2, 0) := by rw [← e1,hit_2 hA,e2]
 have Q3 : partR P2 0 ⟨#[98, 111, 100, 121]⟩ = (P3,true) := by rw [← e2,hit_3 hA,e3]
 have Q4 : closeR P3 0 lf = (P4,true) := by rw [← e3,hit_4 hA,e4]
 have Q5 : passR P4 a2 = P5 := by rw [← e4,hit_5 hA,e5]
 rw [e5] at E6
 have HS : Hid ((PxSz P0 ∧ PxM P0) ∧ PxSz P1 ∧ PxSz P2 ∧ PxSz P3 ∧ (PxSz P4 ∧ PxM P4) ∧ PxSz P5 ∧ PxSz P6) := ⟨S0,S1,S2,S3,S4,S5,S6⟩
 have HQ : Hid (newR = P0 ∧ passR P0 a1 = P1 ∧ askR P1 1 ⟨#[47, 107]⟩ = (P2, 0) ∧ partR P2 0 ⟨#[98, 111, 100, 121]⟩ = (P3,true) ∧ closeR P3 0 lf = (P4,true) ∧ passR P4 a2 = P5 ∧ askR P5 2 ⟨#[47, 107]⟩ = (P6, 0)) := ⟨e0,Q1,Q2,Q3,Q4,Q5,E6⟩
 have HE : Hid (okX P6 = true ∧ cliAtX P6.cls 2 = (xc,true)) := ⟨E6k,EC⟩
 have HX : Hid ((a2 < lf → xc.st = 2 ∧ xc.got = ⟨#[98, 111, 100, 121]⟩ ∧ xc.ag = a2 ∧ P6.fes.length = 1 ∧ P6.hits = 1) ∧ (¬ a2 < lf → xc.st = 1 ∧ xc.got = ⟨#[]⟩ ∧ P6.fes.length = 2 ∧ P6.hits = 0 ∧ P6.ents.length = 0)) := ⟨EF,EG⟩
 have HB1 : Hid (Below w.heap.size w w1) := hb1
 have HTW : Hid (∀ W,Below w1.heap.size w1 W → Tab W) := fun W h => HTB.out W (hb1.trans (h.mono hb1.size))
 have KQ : ∀ W,Below w1.heap.size w1 W → W.cell? ⟨g,off + 1,none⟩ = some (.int .i64 x1) := fun W h => (h.cell hg).trans hc1
 have HK2 : Hid (∀ W,Below w1.heap.size w1 W → W.cell? ⟨g,off + 2,none⟩ = some (.int .i64 x2)) := fun W h => (h.cell hg).trans hc2
 have hdr : Below w1.heap.size w1 w1.drew := (Below.refl _ _).drew
 have hdz : Below w1.heap.size w1 (w1.alloc (.cells #[.int .i64 0,.slice none 0 0,.slice none 0 0,.slice none 0 0,.slice none 0 0,.int .i64 0,.slice none 0 0,.slice none 0 0,.int .i64 0] 36)).drew := ((Below.refl _ _).alloc (Nat.le_refl _) _).drew
 have HN0 : Hid (NB (w1.alloc (.cells #[.int .i64 0,.slice none 0 0,.slice none 0 0,.slice none 0 0,.slice none 0 0,.int .i64 0,.slice none 0 0,.slice none 0 0,.int .i64 0] 36)).drew w1.heap.size 36 (.int .i64 0) (.slice none 0 0) (.slice none 0 0) (.slice none 0 0) (.slice none 0 0) (.int .i64 0) (.slice none 0 0) (.slice none 0 0) (.int .i64 0)) := NB.new w1 36 (.int .i64 0) (.slice none 0 0) (.slice none 0 0) (.slice none 0 0) (.slice none 0 0) (.int .i64 0) (.slice none 0 0) (.slice none 0 0) (.int .i64 0)
 have CN : Hid (∀ W,Calls Tryz.prog 7 #[] W fun e w' => ∃ Y : Pc,e = .returned (.agg #[.int .i64 P0.now,Y.e,Y.w,Y.m,Y.k,.int .i64 P0.pol.sk.added,Y.f,Y.c,.int .i64 P0.hits]) ∧ PxOwn w' W.heap.size w'.heap.size Y P0 ∧ Below W.heap.size W w') := fun W => newP1_any W P0 HQ.out.1
 clear cP hl12 hlz ho1 hb1 hc2 ha0 ha1 ha2 hlf hA hx0 hx1 hx2 e0 e1 e2 e3 e4 e5 E6 E6k EC EF EG S0 S1 S2 S3 S4 S5 S6 Q1 Q2 Q3 Q4 Q5 hn hlen
 go_upto_region 5 with fail
 go_cut [5] (fun p wc => ∃ (N : Nat) (e0 : Option Addr) (e1 : Nat) (p0 : Option Addr) (p1 : Nat) (m0 : Option Addr) (m1 : Nat) (k0 : Option Addr) (k1 : Nat) (f0 : Option Addr) (f1 : Nat) (c0 : Option Addr) (c1 : Nat),p = .pointer (some ⟨N, 0,none⟩) ∧ PVar wc w1.heap.size N ⟨.slice e0 P1.ents.length e1,.slice p0 P1.pol.win.length p1,.slice m0 P1.pol.main.length m1,.slice k0 P1.pol.sk.rows.length k1,.slice f0 P1.fes.length f1,.slice c0 P1.cls.length c1⟩ P1 ∧ Below w1.heap.size w1 wc)
 case first =>
  go_region_held3 (fun W => W.cell? ⟨g,off + 1,none⟩ = some (.int .i64 x1)) (first | with_reducible exact KQ _ hdr | with_reducible exact KQ _ hdz | with_reducible exact KQ _ fP | with_reducible exact KQ _ fN | with_reducible exact hK2 | with_reducible exact hK3 | with_reducible exact hK4 | with_reducible exact hK5 | with_reducible exact hK6 | fail "keep")
   (first
    | (go_at_call 7; first
     | (with_reducible refine (CN.out w1.drew).mono ?_; rintro e wN ⟨Y,rfl,oN,bN⟩; obtain ⟨ex0,ex1,px0,px1,mx0,mx1,kx0,kx1,fx0,fx1,cx0,cx1,rfl⟩ := oN.slices; have fN : Below w1.heap.size w1 wN := hdr.trans (bN.mono hdr.size); have hK2 := KQ (wN.alloc (.cells #[.int .i64 0,.slice none 0 0,.slice none 0 0,.slice none 0 0,.slice none 0 0,.int .i64 0,.slice none 0 0,.slice none 0 0,.int .i64 0] 36)) (fN.alloc fN.size _); have fNZ : Below w1.heap.size w1 (wN.alloc (.cells #[.int .i64 0,.slice none 0 0,.slice none 0 0,.slice none 0 0,.slice none 0 0,.int .i64 0,.slice none 0 0,.slice none 0 0,.int .i64 0] 36)) := fN.alloc fN.size _; have cPa := passP0_any oN HS.out.1.1 HS.out.1.2 a1 HQ.out.2.1; have cPb := passP0_any (oN.below ((Below.refl _ _).alloc (Nat.le_refl _) (.cells #[.int .i64 0,.slice none 0 0,.slice none 0 0,.slice none 0 0,.slice none 0 0,.int .i64 0,.slice none 0 0,.slice none 0 0,.int .i64 0] 36)) (Nat.le_refl _)).up HS.out.1.1 HS.out.1.2 a1 HQ.out.2.1; have hNb := NB.new wN 36 (.int .i64 0) (.slice none 0 0) (.slice none 0 0) (.slice none 0 0) (.slice none 0 0) (.int .i64 0) (.slice none 0 0) (.slice none 0 0) (.int .i64 0))
     | (with_reducible refine (CN.out (w1.alloc (.cells #[.int .i64 0,.slice none 0 0,.slice none 0 0,.slice none 0 0,.slice none 0 0,.int .i64 0,.slice none 0 0,.slice none 0 0,.int .i64 0] 36)).drew).mono ?_; rintro e wN ⟨Y,rfl,oN,bN⟩; obtain ⟨ex0,ex1,px0,px1,mx0,mx1,kx0,kx1,fx0,fx1,cx0,cx1,rfl⟩ := oN.slices; have fN : Below w1.heap.size w1 wN := hdz.trans (bN.mono hdz.size); have cPc := passP0_any oN HS.out.1.1 HS.out.1.2 a1 HQ.out.2.1; have hNc := HN0.out.on bN))
    | (go_at_call 6; first
     | (with_reducible refine cPa.mono ?_; rintro e wP ⟨Y,rfl,oP,bP⟩; obtain ⟨ey0,ey1,py0,py1,my0,my1,ky0,ky1,fy0,fy1,cy0,cy1,rfl⟩ := oP.slices; have fP : Below w1.heap.size w1 wP := fN.trans (bP.mono fN.size); have hK3 := KQ (wP.alloc (.cells #[.int .i64 0,.slice none 0 0,.slice none 0 0,.slice none 0 0,.slice none 0 0,.int .i64 0,.slice none 0 0,.slice none 0 0,.int .i64 0] 36)) (fP.alloc fP.size _); have fPV : Below w1.heap.size w1 (wP.alloc (.cells #[.int .i64 P1.now,.slice ey0 P1.ents.length ey1,.slice py0 P1.pol.win.length py1,.slice my0 P1.pol.main.length my1,.slice ky0 P1.pol.sk.rows.length ky1,.int .i64 P1.pol.sk.added,.slice fy0 P1.fes.length fy1,.slice cy0 P1.cls.length cy1,.int .i64 P1.hits] 36)) := fP.alloc fP.size _; have hK4 := KQ _ fPV; have FA := And.intro (PVar.new (oP.mono fN.size (Nat.le_refl _)) fP.size) fPV)
     | (with_reducible refine cPb.mono ?_; rintro e wP ⟨Y,rfl,oP,bP⟩; obtain ⟨ey0,ey1,py0,py1,my0,my1,ky0,ky1,fy0,fy1,cy0,cy1,rfl⟩ := oP.slices; have fP : Below w1.heap.size w1 wP := fNZ.trans (bP.mono fNZ.size); have hN := hNb.on bP; obtain ⟨r0,r1,r2,r3,r4,r5,r6,r7,r8⟩ := hN.cells; have t0 := hN.thaw 0; have t1 := hN.thaw 1; have t2 := hN.thaw 2; have t3 := hN.thaw 3; have t4 := hN.thaw 4; have t5 := hN.thaw 5; have t6 := hN.thaw 6; have t7 := hN.thaw 7; have t8 := hN.thaw 8; have fPV : Below w1.heap.size w1 (((((((((wP.setCell ⟨wN.heap.size, 0,none⟩ (.int .i64 P1.now)).setCell ⟨wN.heap.size, 1,none⟩ (.slice ey0 P1.ents.length ey1)).setCell ⟨wN.heap.size, 2,none⟩ (.slice py0 P1.pol.win.length py1)).setCell ⟨wN.heap.size, 3,none⟩ (.slice my0 P1.pol.main.length my1)).setCell ⟨wN.heap.size, 4,none⟩ (.slice ky0 P1.pol.sk.rows.length ky1)).setCell ⟨wN.heap.size, 5,none⟩ (.int .i64 P1.pol.sk.added)).setCell ⟨wN.heap.size, 6,none⟩ (.slice fy0 P1.fes.length fy1)).setCell ⟨wN.heap.size, 7,none⟩ (.slice cy0 P1.cls.length cy1)).setCell ⟨wN.heap.size, 8,none⟩ (.int .i64 P1.hits)) := Below.put9 fP fN.size _ _ _ _ _ _ _ _ _; have hK5 := KQ _ fPV; have FB := And.intro (PVar.fill hN oP fNZ.size fN.size) fPV)
     | (with_reducible refine cPc.mono ?_; rintro e wP ⟨Y,rfl,oP,bP⟩; obtain ⟨ey0,ey1,py0,py1,my0,my1,ky0,ky1,fy0,fy1,cy0,cy1,rfl⟩ := oP.slices; have fP : Below w1.heap.size w1 wP := fN.trans (bP.mono fN.size); have hN := hNc.on bP; obtain ⟨r0,r1,r2,r3,r4,r5,r6,r7,r8⟩ := hN.cells; have t0 := hN.thaw 0; have t1 := hN.thaw 1; have t2 := hN.thaw 2; have t3 := hN.thaw 3; have t4 := hN.thaw 4; have t5 := hN.thaw 5; have t6 := hN.thaw 6; have t7 := hN.thaw 7; have t8 := hN.thaw 8; have fPV : Below w1.heap.size w1 (((((((((wP.setCell ⟨w1.heap.size, 0,none⟩ (.int .i64 P1.now)).setCell ⟨w1.heap.size, 1,none⟩ (.slice ey0 P1.ents.length ey1)).setCell ⟨w1.heap.size, 2,none⟩ (.slice py0 P1.pol.win.length py1)).setCell ⟨w1.heap.size, 3,none⟩ (.slice my0 P1.pol.main.length my1)).setCell ⟨w1.heap.size, 4,none⟩ (.slice ky0 P1.pol.sk.rows.length ky1)).setCell ⟨w1.heap.size, 5,none⟩ (.int .i64 P1.pol.sk.added)).setCell ⟨w1.heap.size, 6,none⟩ (.slice fy0 P1.fes.length fy1)).setCell ⟨w1.heap.size, 7,none⟩ (.slice cy0 P1.cls.length cy1)).setCell ⟨w1.heap.size, 8,none⟩ (.int .i64 P1.hits)) := Below.put9 fP (Nat.le_refl _) _ _ _ _ _ _ _ _ _; have hK6 := KQ _ fPV; have FB := And.intro (PVar.fill hN oP fN.size (Nat.le_refl _)) fPV)))
  all_goals go_wp2_with fail
  all_goals go_meet
  all_goals first
   | exact ⟨_,_,_,_,_,_,_,_,_,_,_,_,_,rfl,FA.1,FA.2⟩
   | exact ⟨_,_,_,_,_,_,_,_,_,_,_,_,_,rfl,FB.1,FB.2⟩
 case rest =>
  obtain ⟨T,e00,e01,p00,p01,m00,m01,k00,k01,f00,f01,c00,c01,rfl,hV,hbw⟩ := hcut
  have HB : Hid (Below w1.heap.size w1 wc) := hbw
  clear KQ hdr hdz HN0 CN hbw hc0 hc1
  have cN := askP1_any hV HS.out.2.1 1 ⟨#[47, 107]⟩ (by decide) (HTW.out wc HB.out) 0 HQ.out.2.2.1
  obtain ⟨b0,b1,b2,b3,b4,b5,b6,b7,b8⟩ := hV.box.cells
  have HV : Hid (PVar wc w1.heap.size T ⟨.slice e00 P1.ents.length e01,.slice p00 P1.pol.win.length p01,.slice m00 P1.pol.main.length m01,.slice k00 P1.pol.sk.rows.length k01,.slice f00 P1.fes.length f01,.slice c00 P1.cls.length c01⟩ P1) := hV
  go_wp2_with fail
  clear hV
  refine cN.mono ?_
  rintro e v2 ⟨Y,rfl,ho,hb⟩
  obtain ⟨e20,e21,p20,p21,m20,m21,k20,k21,f20,f21,c20,c21,rfl⟩ := ho.slices
  try dsimp only at ho
  have hV' := HV.out
  have hX := hV'.box.on hb
  clear cN b0 b1 b2 b3 b4 b5 b6 b7 b8
  obtain ⟨u0,u1,u2,u3,u4,u5,u6,u7,u8⟩ := hX.cells
  have t0 := hX.thaw 0
  have t1 := hX.thaw 1
  have t2 := hX.thaw 2
  have t3 := hX.thaw 3
  have t4 := hX.thaw 4
  have t5 := hX.thaw 5
  have t6 := hX.thaw 6
  have t7 := hX.thaw 7
  have t8 := hX.thaw 8
  obtain ⟨z2,hz⟩ : ∃ x,putPx v2 T ⟨.slice e20 P2.ents.length e21,.slice p20 P2.pol.win.length p21,.slice m20 P2.pol.main.length m21,.slice k20 P2.pol.sk.rows.length k21,.slice f20 P2.fes.length f21,.slice c20 P2.cls.length c21⟩ P2 = x := ⟨_,rfl⟩
  have hV : PVar z2 w1.heap.size T ⟨.slice e20 P2.ents.length e21,.slice p20 P2.pol.win.length p21,.slice m20 P2.pol.main.length m21,.slice k20 P2.pol.sk.rows.length k21,.slice f20 P2.fes.length f21,.slice c20 P2.cls.length c21⟩ P2 := by rw [← hz]; exact hV'.step hb ho
  have HBn : Hid (Below w1.heap.size w1 z2) := by show Below _ _ _; rw [← hz]; exact below_putPx (HB.out.trans (hb.mono HB.out.size)) hV'.le ⟨.slice e20 P2.ents.length e21,.slice p20 P2.pol.win.length p21,.slice m20 P2.pol.main.length m21,.slice k20 P2.pol.sk.rows.length k21,.slice f20 P2.fes.length f21,.slice c20 P2.cls.length c21⟩ P2
  unfold putPx at hz
  dsimp only at hz
  have HZ : Hid ((((((((((v2.setCell ⟨T, 0,none⟩ (.int .i64 P2.now)).setCell ⟨T, 1,none⟩ (.slice e20 P2.ents.length e21)).setCell ⟨T, 2,none⟩ (.slice p20 P2.pol.win.length p21)).setCell ⟨T, 3,none⟩ (.slice m20 P2.pol.main.length m21)).setCell ⟨T, 4,none⟩ (.slice k20 P2.pol.sk.rows.length k21)).setCell ⟨T, 5,none⟩ (.int .i64 P2.pol.sk.added)).setCell ⟨T, 6,none⟩ (.slice f20 P2.fes.length f21)).setCell ⟨T, 7,none⟩ (.slice c20 P2.cls.length c21)).setCell ⟨T, 8,none⟩ (.int .i64 P2.hits)) = z2) := hz
  clear hz ho hb hX hV' HV HB
  have HB := HBn
  clear HBn
  have cN := partP1_any hV HS.out.2.2.1 0 ⟨#[98, 111, 100, 121]⟩ (by decide) true HQ.out.2.2.2.1
  obtain ⟨b0,b1,b2,b3,b4,b5,b6,b7,b8⟩ := hV.box.cells
  rw [← HZ.out] at b0 b1 b2 b3 b4 b5 b6 b7 b8
  have HV : Hid (PVar z2 w1.heap.size T ⟨.slice e20 P2.ents.length e21,.slice p20 P2.pol.win.length p21,.slice m20 P2.pol.main.length m21,.slice k20 P2.pol.sk.rows.length k21,.slice f20 P2.fes.length f21,.slice c20 P2.cls.length c21⟩ P2) := hV
  go_wp2_with fail
  rw [HZ.out]
  clear hV HZ u0 u1 u2 u3 u4 u5 u6 u7 u8 t0 t1 t2 t3 t4 t5 t6 t7 t8
  refine cN.mono ?_
  rintro e v3 ⟨Y,rfl,ho,hb⟩
  obtain ⟨e30,e31,p30,p31,m30,m31,k30,k31,f30,f31,c30,c31,rfl⟩ := ho.slices
  try dsimp only at ho
  have hV' := HV.out
  have hX := hV'.box.on hb
  clear cN b0 b1 b2 b3 b4 b5 b6 b7 b8
  obtain ⟨u0,u1,u2,u3,u4,u5,u6,u7,u8⟩ := hX.cells
  have t0 := hX.thaw 0
  have t1 := hX.thaw 1
  have t2 := hX.thaw 2
  have t3 := hX.thaw 3
  have t4 := hX.thaw 4
  have t5 := hX.thaw 5
  have t6 := hX.thaw 6
  have t7 := hX.thaw 7
  have t8 := hX.thaw 8
  obtain ⟨z3,hz⟩ : ∃ x,putPx v3 T ⟨.slice e30 P3.ents.length e31,.slice p30 P3.pol.win.length p31,.slice m30 P3.pol.main.length m31,.slice k30 P3.pol.sk.rows.length k31,.slice f30 P3.fes.length f31,.slice c30 P3.cls.length c31⟩ P3 = x := ⟨_,rfl⟩
  have hV : PVar z3 w1.heap.size T ⟨.slice e30 P3.ents.length e31,.slice p30 P3.pol.win.length p31,.slice m30 P3.pol.main.length m31,.slice k30 P3.pol.sk.rows.length k31,.slice f30 P3.fes.length f31,.slice c30 P3.cls.length c31⟩ P3 := by rw [← hz]; exact hV'.step hb ho
  have HBn : Hid (Below w1.heap.size w1 z3) := by show Below _ _ _; rw [← hz]; exact below_putPx (HB.out.trans (hb.mono HB.out.size)) hV'.le ⟨.slice e30 P3.ents.length e31,.slice p30 P3.pol.win.length p31,.slice m30 P3.pol.main.length m31,.slice k30 P3.pol.sk.rows.length k31,.slice f30 P3.fes.length f31,.slice c30 P3.cls.length c31⟩ P3
  unfold putPx at hz
  dsimp only at hz
  have HZ : Hid ((((((((((v3.setCell ⟨T, 0,none⟩ (.int .i64 P3.now)).setCell ⟨T, 1,none⟩ (.slice e30 P3.ents.length e31)).setCell ⟨T, 2,none⟩ (.slice p30 P3.pol.win.length p31)).setCell ⟨T, 3,none⟩ (.slice m30 P3.pol.main.length m31)).setCell ⟨T, 4,none⟩ (.slice k30 P3.pol.sk.rows.length k31)).setCell ⟨T, 5,none⟩ (.int .i64 P3.pol.sk.added)).setCell ⟨T, 6,none⟩ (.slice f30 P3.fes.length f31)).setCell ⟨T, 7,none⟩ (.slice c30 P3.cls.length c31)).setCell ⟨T, 8,none⟩ (.int .i64 P3.hits)) = z3) := hz
  clear hz ho hb hX hV' HV HB
  have HB := HBn
  clear HBn
  have cN := closeP1_any hV HS.out.2.2.2.1 0 lf (HTW.out z3 HB.out) true HQ.out.2.2.2.2.1
  obtain ⟨b0,b1,b2,b3,b4,b5,b6,b7,b8⟩ := hV.box.cells
  rw [← HZ.out] at b0 b1 b2 b3 b4 b5 b6 b7 b8
  have HV : Hid (PVar z3 w1.heap.size T ⟨.slice e30 P3.ents.length e31,.slice p30 P3.pol.win.length p31,.slice m30 P3.pol.main.length m31,.slice k30 P3.pol.sk.rows.length k31,.slice f30 P3.fes.length f31,.slice c30 P3.cls.length c31⟩ P3) := hV
  go_wp2_with fail
  rw [HZ.out]
  clear hV HZ u0 u1 u2 u3 u4 u5 u6 u7 u8 t0 t1 t2 t3 t4 t5 t6 t7 t8
  refine cN.mono ?_
  rintro e v4 ⟨Y,rfl,ho,hb⟩
  obtain ⟨e40,e41,p40,p41,m40,m41,k40,k41,f40,f41,c40,c41,rfl⟩ := ho.slices
  try dsimp only at ho
  have hV' := HV.out
  have hX := hV'.box.on hb
  clear cN b0 b1 b2 b3 b4 b5 b6 b7 b8
  obtain ⟨u0,u1,u2,u3,u4,u5,u6,u7,u8⟩ := hX.cells
  have t0 := hX.thaw 0
  have t1 := hX.thaw 1
  have t2 := hX.thaw 2
  have t3 := hX.thaw 3
  have t4 := hX.thaw 4
  have t5 := hX.thaw 5
  have t6 := hX.thaw 6
  have t7 := hX.thaw 7
  have t8 := hX.thaw 8
  obtain ⟨z4,hz⟩ : ∃ x,putPx v4 T ⟨.slice e40 P4.ents.length e41,.slice p40 P4.pol.win.length p41,.slice m40 P4.pol.main.length m41,.slice k40 P4.pol.sk.rows.length k41,.slice f40 P4.fes.length f41,.slice c40 P4.cls.length c41⟩ P4 = x := ⟨_,rfl⟩
  have hV : PVar z4 w1.heap.size T ⟨.slice e40 P4.ents.length e41,.slice p40 P4.pol.win.length p41,.slice m40 P4.pol.main.length m41,.slice k40 P4.pol.sk.rows.length k41,.slice f40 P4.fes.length f41,.slice c40 P4.cls.length c41⟩ P4 := by rw [← hz]; exact hV'.step hb ho
  have HBn : Hid (Below w1.heap.size w1 z4) := by show Below _ _ _; rw [← hz]; exact below_putPx (HB.out.trans (hb.mono HB.out.size)) hV'.le ⟨.slice e40 P4.ents.length e41,.slice p40 P4.pol.win.length p41,.slice m40 P4.pol.main.length m41,.slice k40 P4.pol.sk.rows.length k41,.slice f40 P4.fes.length f41,.slice c40 P4.cls.length c41⟩ P4
  unfold putPx at hz
  dsimp only at hz
  have HZ : Hid ((((((((((v4.setCell ⟨T, 0,none⟩ (.int .i64 P4.now)).setCell ⟨T, 1,none⟩ (.slice e40 P4.ents.length e41)).setCell ⟨T, 2,none⟩ (.slice p40 P4.pol.win.length p41)).setCell ⟨T, 3,none⟩ (.slice m40 P4.pol.main.length m41)).setCell ⟨T, 4,none⟩ (.slice k40 P4.pol.sk.rows.length k41)).setCell ⟨T, 5,none⟩ (.int .i64 P4.pol.sk.added)).setCell ⟨T, 6,none⟩ (.slice f40 P4.fes.length f41)).setCell ⟨T, 7,none⟩ (.slice c40 P4.cls.length c41)).setCell ⟨T, 8,none⟩ (.int .i64 P4.hits)) = z4) := hz
  clear hz ho hb hX hV' HV HB
  have HB := HBn
  clear HBn
  have cN := passP1_any hV HS.out.2.2.2.2.1.1 HS.out.2.2.2.2.1.2 a2 HQ.out.2.2.2.2.2.1
  obtain ⟨b0,b1,b2,b3,b4,b5,b6,b7,b8⟩ := hV.box.cells
  have q2 := HK2.out z4 HB.out
  rw [← HZ.out] at b0 b1 b2 b3 b4 b5 b6 b7 b8 q2
  have HV : Hid (PVar z4 w1.heap.size T ⟨.slice e40 P4.ents.length e41,.slice p40 P4.pol.win.length p41,.slice m40 P4.pol.main.length m41,.slice k40 P4.pol.sk.rows.length k41,.slice f40 P4.fes.length f41,.slice c40 P4.cls.length c41⟩ P4) := hV
  go_wp2_with fail
  rw [HZ.out]
  clear hV HZ u0 u1 u2 u3 u4 u5 u6 u7 u8 t0 t1 t2 t3 t4 t5 t6 t7 t8
  refine cN.mono ?_
  rintro e v5 ⟨Y,rfl,ho,hb⟩
  obtain ⟨e50,e51,p50,p51,m50,m51,k50,k51,f50,f51,c50,c51,rfl⟩ := ho.slices
  try dsimp only at ho
  have hV' := HV.out
  have hX := hV'.box.on hb
  clear cN b0 b1 b2 b3 b4 b5 b6 b7 b8
  obtain ⟨u0,u1,u2,u3,u4,u5,u6,u7,u8⟩ := hX.cells
  have t0 := hX.thaw 0
  have t1 := hX.thaw 1
  have t2 := hX.thaw 2
  have t3 := hX.thaw 3
  have t4 := hX.thaw 4
  have t5 := hX.thaw 5
  have t6 := hX.thaw 6
  have t7 := hX.thaw 7
  have t8 := hX.thaw 8
  obtain ⟨z5,hz⟩ : ∃ x,putPx v5 T ⟨.slice e50 P5.ents.length e51,.slice p50 P5.pol.win.length p51,.slice m50 P5.pol.main.length m51,.slice k50 P5.pol.sk.rows.length k51,.slice f50 P5.fes.length f51,.slice c50 P5.cls.length c51⟩ P5 = x := ⟨_,rfl⟩
  have hV : PVar z5 w1.heap.size T ⟨.slice e50 P5.ents.length e51,.slice p50 P5.pol.win.length p51,.slice m50 P5.pol.main.length m51,.slice k50 P5.pol.sk.rows.length k51,.slice f50 P5.fes.length f51,.slice c50 P5.cls.length c51⟩ P5 := by rw [← hz]; exact hV'.step hb ho
  have HBn : Hid (Below w1.heap.size w1 z5) := by show Below _ _ _; rw [← hz]; exact below_putPx (HB.out.trans (hb.mono HB.out.size)) hV'.le ⟨.slice e50 P5.ents.length e51,.slice p50 P5.pol.win.length p51,.slice m50 P5.pol.main.length m51,.slice k50 P5.pol.sk.rows.length k51,.slice f50 P5.fes.length f51,.slice c50 P5.cls.length c51⟩ P5
  unfold putPx at hz
  dsimp only at hz
  have HZ : Hid ((((((((((v5.setCell ⟨T, 0,none⟩ (.int .i64 P5.now)).setCell ⟨T, 1,none⟩ (.slice e50 P5.ents.length e51)).setCell ⟨T, 2,none⟩ (.slice p50 P5.pol.win.length p51)).setCell ⟨T, 3,none⟩ (.slice m50 P5.pol.main.length m51)).setCell ⟨T, 4,none⟩ (.slice k50 P5.pol.sk.rows.length k51)).setCell ⟨T, 5,none⟩ (.int .i64 P5.pol.sk.added)).setCell ⟨T, 6,none⟩ (.slice f50 P5.fes.length f51)).setCell ⟨T, 7,none⟩ (.slice c50 P5.cls.length c51)).setCell ⟨T, 8,none⟩ (.int .i64 P5.hits)) = z5) := hz
  clear hz ho hb hX hV' HV HB
  have HB := HBn
  clear HBn
  have cN := askP1_any hV HS.out.2.2.2.2.2.1 2 ⟨#[47, 107]⟩ (by decide) (HTW.out z5 HB.out) 0 HQ.out.2.2.2.2.2.2
  obtain ⟨b0,b1,b2,b3,b4,b5,b6,b7,b8⟩ := hV.box.cells
  rw [← HZ.out] at b0 b1 b2 b3 b4 b5 b6 b7 b8
  have HV : Hid (PVar z5 w1.heap.size T ⟨.slice e50 P5.ents.length e51,.slice p50 P5.pol.win.length p51,.slice m50 P5.pol.main.length m51,.slice k50 P5.pol.sk.rows.length k51,.slice f50 P5.fes.length f51,.slice c50 P5.cls.length c51⟩ P5) := hV
  go_wp2_with fail
  rw [HZ.out]
  clear hV HZ u0 u1 u2 u3 u4 u5 u6 u7 u8 t0 t1 t2 t3 t4 t5 t6 t7 t8
  refine cN.mono ?_
  rintro e v6 ⟨Y,rfl,ho,hb⟩
  obtain ⟨e60,e61,p60,p61,m60,m61,k60,k61,f60,f61,c60,c61,rfl⟩ := ho.slices
  try dsimp only at ho
  have hV' := HV.out
  have hX := hV'.box.on hb
  clear cN b0 b1 b2 b3 b4 b5 b6 b7 b8
  obtain ⟨u0,u1,u2,u3,u4,u5,u6,u7,u8⟩ := hX.cells
  have t0 := hX.thaw 0
  have t1 := hX.thaw 1
  have t2 := hX.thaw 2
  have t3 := hX.thaw 3
  have t4 := hX.thaw 4
  have t5 := hX.thaw 5
  have t6 := hX.thaw 6
  have t7 := hX.thaw 7
  have t8 := hX.thaw 8
  obtain ⟨z6,hz⟩ : ∃ x,putPx v6 T ⟨.slice e60 P6.ents.length e61,.slice p60 P6.pol.win.length p61,.slice m60 P6.pol.main.length m61,.slice k60 P6.pol.sk.rows.length k61,.slice f60 P6.fes.length f61,.slice c60 P6.cls.length c61⟩ P6 = x := ⟨_,rfl⟩
  have hV : PVar z6 w1.heap.size T ⟨.slice e60 P6.ents.length e61,.slice p60 P6.pol.win.length p61,.slice m60 P6.pol.main.length m61,.slice k60 P6.pol.sk.rows.length k61,.slice f60 P6.fes.length f61,.slice c60 P6.cls.length c61⟩ P6 := by rw [← hz]; exact hV'.step hb ho
  have HBn : Hid (Below w1.heap.size w1 z6) := by show Below _ _ _; rw [← hz]; exact below_putPx (HB.out.trans (hb.mono HB.out.size)) hV'.le ⟨.slice e60 P6.ents.length e61,.slice p60 P6.pol.win.length p61,.slice m60 P6.pol.main.length m61,.slice k60 P6.pol.sk.rows.length k61,.slice f60 P6.fes.length f61,.slice c60 P6.cls.length c61⟩ P6
  unfold putPx at hz
  dsimp only at hz
  have HZ : Hid ((((((((((v6.setCell ⟨T, 0,none⟩ (.int .i64 P6.now)).setCell ⟨T, 1,none⟩ (.slice e60 P6.ents.length e61)).setCell ⟨T, 2,none⟩ (.slice p60 P6.pol.win.length p61)).setCell ⟨T, 3,none⟩ (.slice m60 P6.pol.main.length m61)).setCell ⟨T, 4,none⟩ (.slice k60 P6.pol.sk.rows.length k61)).setCell ⟨T, 5,none⟩ (.int .i64 P6.pol.sk.added)).setCell ⟨T, 6,none⟩ (.slice f60 P6.fes.length f61)).setCell ⟨T, 7,none⟩ (.slice c60 P6.cls.length c61)).setCell ⟨T, 8,none⟩ (.int .i64 P6.hits)) = z6) := hz
  clear hz ho hb hX hV' HV HB
  have HB := HBn
  clear HBn
  have cN := client_any z6 _ P6 2 hV.own.at HS.out.2.2.2.2.2.2.parts.2.2.2
  rw [HE.out.2] at cN
  try dsimp only at cN
  obtain ⟨b0,b1,b2,b3,b4,b5,b6,b7,b8⟩ := hV.box.cells
  rw [← HZ.out] at b0 b1 b2 b3 b4 b5 b6 b7 b8
  have HV : Hid (PVar z6 w1.heap.size T ⟨.slice e60 P6.ents.length e61,.slice p60 P6.pol.win.length p61,.slice m60 P6.pol.main.length m61,.slice k60 P6.pol.sk.rows.length k61,.slice f60 P6.fes.length f61,.slice c60 P6.cls.length c61⟩ P6) := hV
  go_wp2_with fail
  rw [HZ.out]
  clear hV HZ u0 u1 u2 u3 u4 u5 u6 u7 u8 t0 t1 t2 t3 t4 t5 t6 t7 t8
  refine cN.mono ?_
  rintro e v7 ⟨x,rfl,hx,hb⟩
  have hx' := hx.symm
  subst hx'
  clear cN b0 b1 b2 b3 b4 b5 b6 b7 b8
  obtain ⟨T2,hT2⟩ : ∃ n,v7.heap.size = n := ⟨_,rfl⟩
  obtain ⟨z7,hz⟩ : ∃ x,v7.alloc (.cells #[.int .i64 xc.id,.string xc.key,.int .i64 xc.fe,.int .i64 xc.fr,.int .i64 xc.st,.string xc.got,.int .i64 xc.ag] 45) = x := ⟨_,rfl⟩
  have hb7 : Below v7.heap.size v7 z7 := by rw [← hz]; exact (Below.refl _ _).alloc (Nat.le_refl _) _
  have hC : CliB z7 T2 45 xc := by rw [← hz, ← hT2]; exact CliB.new v7 _ xc
  have hV := HV.out.on (hb.trans (hb7.mono hb.size))
  have HBn : Hid (Below w1.heap.size w1 z7) := (HB.out.trans (hb.mono HB.out.size)).trans (hb7.mono (HB.out.trans (hb.mono HB.out.size)).size)
  have HZ : Hid (v7.alloc (.cells #[.int .i64 xc.id,.string xc.key,.int .i64 xc.fe,.int .i64 xc.fr,.int .i64 xc.st,.string xc.got,.int .i64 xc.ag] 45) = z7) := hz
  have HCl : Hid (CliB z7 T2 45 xc) := hC
  clear HV HB hb hb7 hz hC
  have cN := okP1_any hV HS.out.2.2.2.2.2.2 true HE.out.1
  obtain ⟨b0,b1,b2,b3,b4,b5,b6,b7,b8⟩ := hV.box.cells
  rw [← HZ.out] at b0 b1 b2 b3 b4 b5 b6 b7 b8
  have HV : Hid (PVar z7 w1.heap.size T ⟨.slice e60 P6.ents.length e61,.slice p60 P6.pol.win.length p61,.slice m60 P6.pol.main.length m61,.slice k60 P6.pol.sk.rows.length k61,.slice f60 P6.fes.length f61,.slice c60 P6.cls.length c61⟩ P6) := hV
  go_wp2_with fail
  rw [HZ.out]
  try rw [hT2]
  refine cN.mono ?_
  rintro e v8 ⟨rfl,hb⟩
  clear cN b0 b1 b2 b3 b4 b5 b6 b7 b8 hV
  obtain ⟨b0,b1,b2,b3,b4,b5,b6,b7,b8⟩ := (HV.out.on hb).box.cells
  obtain ⟨y0,y1,y2,y3,y4,y5,y6⟩ := (HCl.out.on hb).cells
  have HF : Hid (Below w.heap.size w v8) := HB1.out.trans ((HBn.out.trans (hb.mono HBn.out.size)).mono HB1.out.size)
  clear HV HCl HBn hb HZ
  by_cases hf : a2 < lf
  ·have hf3 : decide (a2 < lf) = true := by simpa using hf
   obtain ⟨g1,g2,g3,g4,g5⟩ := HX.out.1 (by omega)
   rw [g1] at y4
   rw [g2] at y5
   rw [g3] at y6
   rw [g4] at b6
   rw [g5] at b8
   clear g1 g2 g3 g4 g5
   go_wp2_with fail
   go_ret
   exact ⟨rfl,HF.out⟩
  ·have hf2 : lf ≤ a2 := by omega
   have hf3 : decide (a2 < lf) = false := by simpa using hf2
   obtain ⟨g1,g2,g3,g4,g5⟩ := HX.out.2 (by omega)
   rw [g1] at y4
   rw [g2] at y5
   rw [g3] at b6
   rw [g4] at b8
   rw [g5] at b1
   clear g1 g2 g3 g4 g5
   go_wp2_with fail
   go_ret
   exact ⟨rfl,HF.out⟩
end Go.Proofs.YtaahjcljanckaaaGreatDoor
namespace Go.Proofs.YtaahjcljanckaaaGreatDoor
open Go.ChangeShapes Go.WideShapes Go.ChangeAt Go.RowKit
theorem code_of {H : Type} {enc : TypeId × Value → H} {W : World} {a : Option Addr} {len cap fuel : Nat} {x : DataW H × List MemPlace} (hf : DataW.trod enc Tryz.prog W 0 (fun _ => true) true fuel 22 [.slice a len cap] = some x) : CodeAt W a len W.heap.size ∧ len ≤ maxLen := by
 rcases open_ints Tryz.underlying22 Tryz.underlying5 (by kernel_rfl) hf with ⟨hcs,_⟩ | ⟨y,l,c,zs,hcs,_,hl,hm,hz,_,hcell,hwz⟩
 ·simp at hcs
  obtain ⟨rfl,rfl,rfl⟩ := hcs
  exact ⟨fun j hj => by omega,by simp [maxLen]⟩
 ·simp at hcs
  obtain ⟨rfl,rfl,rfl⟩ := hcs
  have hz' : zs.length = cap := by simpa using hz
  refine ⟨fun j hj => ?_,by omega⟩
  have h1 := hcell j (by omega)
  have h00 := hcell 0 (by omega)
  obtain ⟨b,off,spot⟩ := y
  have hspot : spot = none := by simpa [Addr.add] using World.cell?_spot h00
  subst hspot
  have h2 : W.cell? ⟨b,off + j,none⟩ = some (.int .u8 (zs.getD j 0)) := by
   by_cases hj0 : j = 0
   ·subst hj0; simpa [Addr.add] using h1
   ·simpa [Addr.add,hj0] using h1
  have hmem : zs.getD j 0 ∈ zs := by
   have e : zs.getD j 0 = zs[j]'(by omega) := by simp [List.getD,List.getElem?_eq_getElem (show j < zs.length by omega)]
   rw [e]
   exact List.getElem_mem _
  have h3 := bounds_u8 (hwz (zs.getD j 0) hmem)
  exact ⟨b,off,_,rfl,World.block_lt_of_cell? W ⟨b,off + j,none⟩ h2,h2,h3.1,h3.2⟩
end Go.Proofs.YtaahjcljanckaaaGreatDoor
