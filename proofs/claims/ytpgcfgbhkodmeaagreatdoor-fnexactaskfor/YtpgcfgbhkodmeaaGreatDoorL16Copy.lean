/- The other text copies a proxy: its lists and its policy come up in whatever order. Written by mkprx2.py. -/
import Derived.Test.YtpgcfgbhkodmeaaGreatDoorPrxBaseJ
import Derived.Test.YtpgcfgbhkodmeaaGreatDoorPrxMarkJ
import Derived.Test.YtpgcfgbhkodmeaaGreatDoorCliLawJ
import Derived.Test.YtpgcfgbhkodmeaaGreatDoorL13CopyJ
import Derived.Test.YtpgcfgbhkodmeaaGreatDoorInsCliJ
namespace Go.Proofs.YtpgcfgbhkodmeaaGreatDoor
open Go.RowKit Go.Sort
theorem NAt.srcN {w : World} {a0 : Option Addr} {l : List En} {B : Nat} (hI : NAt w a0 l B) : (a0 = none → l.length = 0) ∧ ∀ ad,a0 = some ad → ∀ j u,(enl l)[j]? = some u → w.cell? (ad.add j) = some u := by
 refine ⟨fun e => ?_,fun ad e => ?_⟩
 ·cases l with
  | nil => rfl
  | cons x r => obtain ⟨g,off,ha,_⟩ := hI 0 (by simp); rw [e] at ha; cases ha
 ·subst e
  exact hI.src
def Kp (o : Option TypeId) (w w' : World) : Prop := ∀ (k : Nat) (cs : Array Value) (e : TypeId),w.heap[k]? = some (.cells cs e (0, 0)) → o ≠ some e → w'.heap[k]? = w.heap[k]?
theorem Kp.of_below {w w' : World} (h : Below w.heap.size w w') : Kp none w w' := fun k _ _ hk _ => h.block k (Array.getElem?_eq_some_iff.1 hk).1
theorem Kp.of_one {w w' : World} {t : TypeId} {G : Nat} (hG : w.heap[G]? = some (.cells #[] t (0, 0))) (h : ∀ k,k < w.heap.size → k ≠ G → w'.heap[k]? = w.heap[k]?) : Kp (some t) w w' := fun k cs e hk hne => h k (Array.getElem?_eq_some_iff.1 hk).1 (fun e' => by
 subst e'
 rw [hG] at hk
 simp only [Option.some.injEq,Obj.cells.injEq] at hk
 exact hne (by rw [hk.2.1]))
theorem Kp.at {w w' : World} {o : Option TypeId} (h : Kp o w w') {k : Nat} {cs : Array Value} {e : TypeId} (hc : w.heap[k]? = some (.cells cs e (0, 0))) (hne : o ≠ some e) : w'.heap[k]? = w.heap[k]? := by
 unfold Kp at h
 exact h k cs e hc hne
def Emp (w : World) (t : TypeId) (x : Value) (lo : Nat) : Prop := ∃ g,x = .slice (some ⟨g, 0,none⟩) 0 0 ∧ w.heap[g]? = some (.cells #[] t (0, 0)) ∧ lo ≤ g
theorem Emp.kp {w w' : World} {t : TypeId} {x : Value} {lo : Nat} {o : Option TypeId} (h : Emp w t x lo) (hk : Kp o w w') (hne : o ≠ some t) : Emp w' t x lo := by
 obtain ⟨g,rfl,hg,hl⟩ := h
 exact ⟨g,rfl,(hk.at hg hne).trans hg,hl⟩
theorem OwnN.kp {w w' : World} {b : Nat} {t : TypeId} {v : Value} {L : List En} {o : Option TypeId} (h : OwnN w b t v L) (hk : Kp o w w') (hne : o ≠ some t) : OwnN w' b t v L := h.kept fun k hb => by
 obtain ⟨cs,hc⟩ := h.type k hb
 exact hk.at hc hne
theorem OwnFet.kp {w w' : World} {b : Nat} {t : TypeId} {v : Value} {L : List Fet} {o : Option TypeId} (h : OwnFet w b t v L) (hk : Kp o w w') (hne : o ≠ some t) : OwnFet w' b t v L := h.kept fun k hb => by
 obtain ⟨cs,hc⟩ := h.type k hb
 exact hk.at hc hne
theorem OwnCli.kp {w w' : World} {b : Nat} {t : TypeId} {v : Value} {L : List Cli} {o : Option TypeId} (h : OwnCli w b t v L) (hk : Kp o w w') (hne : o ≠ some t) : OwnCli w' b t v L := h.kept fun k hb => by
 obtain ⟨cs,hc⟩ := h.type k hb
 exact hk.at hc hne
theorem POwn.kp {w w' : World} {lo hi : Nat} {v : Value} {P : Pol} {o : Option TypeId} (h : POwn w lo hi v P) (hk : Kp o w w') (h9 : o ≠ some 9) (hs : o ≠ some 36) (h3 : o ≠ some 3) : POwn w' lo hi v P := h.keptT fun k _ _ hlt hty => by
 obtain ⟨c,hc⟩ : ∃ c,w.heap[k]? = some c := ⟨w.heap[k],Array.getElem?_eq_getElem hlt⟩
 obtain ⟨cs,e,rfl,he⟩ := hty c hc
 refine hk.at hc (fun h => ?_)
 rcases he with rfl | rfl | rfl
 ·exact h9 h
 ·exact hs h
 ·exact h3 h
structure JC (w1 : World) (R : Prx) (b2 b5 b8 b9 b12 b13 b16 b19 : Bool) (x5 x8 x11 x12 x15 x16 x19 x22 : Value) (w : World) : Prop where
 bel : Below w1.heap.size w1 w
 o5 : b5 = true → b2 = true
 o12 : b12 = true → b9 = true
 o16 : b16 = true → b13 = true
 e1 : b2 = true → b5 = false → Emp w 69 x5 w1.heap.size
 e2 : b5 = true → OwnN w w1.heap.size 69 x8 R.ents
 f1 : b9 = true → b12 = false → Emp w 94 x12 w1.heap.size
 f2 : b12 = true → OwnFet w w1.heap.size 94 x15 R.fes
 c1 : b13 = true → b16 = false → Emp w 87 x16 w1.heap.size
 c2 : b16 = true → OwnCli w w1.heap.size 87 x19 R.cls
 p : b8 = true → POwn w w1.heap.size w.heap.size x11 R.pol
 q : b19 = true → ∃ y1 y2 y3,x11 = .agg #[y1,y2,y3,.int .i64 R.pol.sk.added] ∧ x22 = .agg #[.int .i64 R.now,x8,y1,y2,y3,.int .i64 R.pol.sk.added,x15,x19,.int .i64 R.hits] ∧ (b5 = true ∧ b8 = true ∧ b12 = true ∧ b16 = true)
theorem JC.on {w1 : World} {R : Prx} {b2 b5 b8 b9 b12 b13 b16 b19 : Bool} {x5 x8 x11 x12 x15 x16 x19 x22 : Value} {w w' : World} (h : JC w1 R b2 b5 b8 b9 b12 b13 b16 b19 x5 x8 x11 x12 x15 x16 x19 x22 w) (hk : Kp none w w') (hb : Below w1.heap.size w1 w') (hs : w.heap.size ≤ w'.heap.size) : JC w1 R b2 b5 b8 b9 b12 b13 b16 b19 x5 x8 x11 x12 x15 x16 x19 x22 w' :=
 ⟨hb,h.o5,h.o12,h.o16,fun a b => (h.e1 a b).kp hk (by simp),fun a => (h.e2 a).kp hk (by simp),fun a b => (h.f1 a b).kp hk (by simp),fun a => (h.f2 a).kp hk (by simp),fun a b => (h.c1 a b).kp hk (by simp),fun a => (h.c2 a).kp hk (by simp),fun a => ((h.p a).kp hk (by simp) (by simp) (by simp)).mono (Nat.le_refl _) hs,h.q⟩
theorem put9_cell (W : World) (A : Nat) (z0 z1 z2 z3 z4 z5 z6 z7 z8 : Value) (k : Nat) : (((((((((W.setCell ⟨A + 1, 0,none⟩ z0).setCell ⟨A + 1, 1,none⟩ z1).setCell ⟨A + 1, 2,none⟩ z2).setCell ⟨A + 1, 3,none⟩ z3).setCell ⟨A + 1, 4,none⟩ z4).setCell ⟨A + 1, 5,none⟩ z5).setCell ⟨A + 1, 6,none⟩ z6).setCell ⟨A + 1, 7,none⟩ z7).setCell ⟨A + 1, 8,none⟩ z8).cell? ⟨A,k,none⟩ = W.cell? ⟨A,k,none⟩ := by
 unfold World.cell?
 rw [put9_other W (A + 1) z0 z1 z2 z3 z4 z5 z6 z7 z8 A (by omega)]
theorem l13Copy_v (w : World) (x y z : Value) (P : Pol) (h : PlV w x y z P w.heap.size) (hsz : PolSz P) :
  Calls Tryz.prog 106 #[.agg #[x,y,z,.int .i64 P.sk.added]] w fun e w' => ∃ aw cw am cm ak ck,e = .returned (.agg #[.slice aw P.win.length cw,.slice am P.main.length cm,.slice ak P.sk.rows.length ck,.int .i64 P.sk.added]) ∧ POwn w' w.heap.size w'.heap.size (.agg #[.slice aw P.win.length cw,.slice am P.main.length cm,.slice ak P.sk.rows.length ck,.int .i64 P.sk.added]) P ∧ Below w.heap.size w w' := by
 obtain ⟨aw,cw,am,cm,ak,ck,rfl,rfl,rfl,hA⟩ := h.at
 refine (l13Copy_any w aw am ak cw cm ck P hA hsz).mono ?_
 rintro e w' ⟨v,rfl,ho,hb⟩
 obtain ⟨b1,d1,b2,d2,b3,d3,rfl,_⟩ := ho.at
 exact ⟨b1,d1,b2,d2,b3,d3,rfl,ho,hb⟩
set_option maxRecDepth 100000 in
set_option maxHeartbeats 16000000 in
theorem l16Copy_any (w : World) (X : Pc) (R : Prx) (hA : PxAt w X R w.heap.size) (hsz : PxSz R) :
  Calls Tryz.prog 43 #[.agg #[.int .i64 R.now,X.e,X.w,X.m,X.k,.int .i64 R.pol.sk.added,X.f,X.c,.int .i64 R.hits]] w fun e w' => ∃ Y : Pc,e = .returned (.agg #[.int .i64 R.now,Y.e,Y.w,Y.m,Y.k,.int .i64 R.pol.sk.added,Y.f,Y.c,.int .i64 R.hits]) ∧ PxOwn w' w.heap.size w'.heap.size Y R ∧ Below w.heap.size w w' := by
 obtain ⟨l1,l2,l3,l4⟩ := hsz.parts
 obtain ⟨xe,xw,xm,xk,xf,xc⟩ := X
 obtain ⟨⟨ae,ce,rfl,hE⟩,hW1,hM1,hK1,⟨af,cf,rfl,hF⟩,⟨ac,cc,rfl,hC⟩⟩ := hA
 dsimp only at *
 have hP : PlV w xw xm xk R.pol w.heap.size := ⟨hW1,hM1,hK1⟩
 obtain ⟨A,hAA⟩ : ∃ A,w.heap.size = A := ⟨_,rfl⟩
 obtain ⟨w0,hw0⟩ : ∃ x,w.alloc (.cells #[.int .i64 R.now,.slice ae R.ents.length ce,xw,xm,xk,.int .i64 R.pol.sk.added,.slice af R.fes.length cf,.slice ac R.cls.length cc,.int .i64 R.hits] 48) = x := ⟨_,rfl⟩
 obtain ⟨w1,hw1⟩ : ∃ x,w0.alloc (.cells #[.int .i64 0,.slice none 0 0,.slice none 0 0,.slice none 0 0,.slice none 0 0,.int .i64 0,.slice none 0 0,.slice none 0 0,.int .i64 0] 48) = x := ⟨_,rfl⟩
 have hb0 : Below w.heap.size w w0 := by rw [← hw0]; exact (Below.refl _ _).alloc (Nat.le_refl _) _
 have hb01 : Below w0.heap.size w0 w1 := by rw [← hw1]; exact (Below.refl _ _).alloc (Nat.le_refl _) _
 have s0 : w0.heap.size = A + 1 := by rw [← hw0, ← hAA]; simp
 have s1 : w1.heap.size = A + 2 := by rw [← hw1]; simp; omega
 have hb1 : Below w.heap.size w w1 := hb0.trans (hb01.mono hb0.size)
 have hB : NB w1 A 48 (.int .i64 R.now) (.slice ae R.ents.length ce) xw xm xk (.int .i64 R.pol.sk.added) (.slice af R.fes.length cf) (.slice ac R.cls.length cc) (.int .i64 R.hits) := by
  have h : NB w0 A 48 (.int .i64 R.now) (.slice ae R.ents.length ce) xw xm xk (.int .i64 R.pol.sk.added) (.slice af R.fes.length cf) (.slice ac R.cls.length cc) (.int .i64 R.hits) := by rw [← hw0, ← hAA]; exact NB.new _ _ _ _ _ _ _ _ _ _ _
  exact h.on hb01
 have hR : NB w1 (A + 1) 48 (.int .i64 0) (.slice none 0 0) (.slice none 0 0) (.slice none 0 0) (.slice none 0 0) (.int .i64 0) (.slice none 0 0) (.slice none 0 0) (.int .i64 0) := by rw [← hw1, ← s0]; exact NB.new _ _ _ _ _ _ _ _ _ _ _
 have HW : Hid ((w.alloc (.cells #[.int .i64 R.now,.slice ae R.ents.length ce,xw,xm,xk,.int .i64 R.pol.sk.added,.slice af R.fes.length cf,.slice ac R.cls.length cc,.int .i64 R.hits] 48)).alloc (.cells #[.int .i64 0,.slice none 0 0,.slice none 0 0,.slice none 0 0,.slice none 0 0,.int .i64 0,.slice none 0 0,.slice none 0 0,.int .i64 0] 48) = w1) := by rw [hw0]; exact hw1
 have hE1 := hE.on hb1
 have hF1 := hF.on hb1
 have hC1 := hC.on hb1
 have hP1 := hP.on hb1
 have hdf : Below w1.heap.size w1 w1.drew := ⟨rfl,rfl,rfl,Nat.le_refl _,fun _ _ => rfl⟩
 have HSE : Hid ((ae = none → R.ents.length = 0) ∧ ∀ W,Below w1.heap.size w1 W → ∀ ad,ae = some ad → ∀ j u,(enl R.ents)[j]? = some u → W.cell? (ad.add j) = some u) := ⟨hE.srcN.1,fun W hW => (hE1.on hW).srcN.2⟩
 have HSF : Hid ((af = none → R.fes.length = 0) ∧ ∀ W,Below w1.heap.size w1 W → ∀ ad,af = some ad → ∀ j u,(ftl R.fes)[j]? = some u → W.cell? (ad.add j) = some u) := ⟨hF.src.1,fun W hW => (hF1.on hW).src.2⟩
 have HSC : Hid ((ac = none → R.cls.length = 0) ∧ ∀ W,Below w1.heap.size w1 W → ∀ ad,ac = some ad → ∀ j u,(cltl R.cls)[j]? = some u → W.cell? (ad.add j) = some u) := ⟨hC.src.1,fun W hW => (hC1.on hW).src.2⟩
 have HS : Hid (∀ (W W' : World),(W.cell? ⟨A, 0,none⟩ = some (.int .i64 R.now) ∧ W.cell? ⟨A, 1,none⟩ = some (.slice ae R.ents.length ce) ∧ W.cell? ⟨A, 2,none⟩ = some xw ∧ W.cell? ⟨A, 3,none⟩ = some xm ∧ W.cell? ⟨A, 4,none⟩ = some xk ∧ W.cell? ⟨A, 5,none⟩ = some (.int .i64 R.pol.sk.added) ∧ W.cell? ⟨A, 6,none⟩ = some (.slice af R.fes.length cf) ∧ W.cell? ⟨A, 7,none⟩ = some (.slice ac R.cls.length cc) ∧ W.cell? ⟨A, 8,none⟩ = some (.int .i64 R.hits)) → Below W.heap.size W W' → W'.cell? ⟨A, 0,none⟩ = some (.int .i64 R.now) ∧ W'.cell? ⟨A, 1,none⟩ = some (.slice ae R.ents.length ce) ∧ W'.cell? ⟨A, 2,none⟩ = some xw ∧ W'.cell? ⟨A, 3,none⟩ = some xm ∧ W'.cell? ⟨A, 4,none⟩ = some xk ∧ W'.cell? ⟨A, 5,none⟩ = some (.int .i64 R.pol.sk.added) ∧ W'.cell? ⟨A, 6,none⟩ = some (.slice af R.fes.length cf) ∧ W'.cell? ⟨A, 7,none⟩ = some (.slice ac R.cls.length cc) ∧ W'.cell? ⟨A, 8,none⟩ = some (.int .i64 R.hits)) := fun W W' h hb => ⟨(hb.cell (World.block_lt_of_cell? W _ h.1)).trans h.1,(hb.cell (World.block_lt_of_cell? W _ h.2.1)).trans h.2.1,(hb.cell (World.block_lt_of_cell? W _ h.2.2.1)).trans h.2.2.1,(hb.cell (World.block_lt_of_cell? W _ h.2.2.2.1)).trans h.2.2.2.1,(hb.cell (World.block_lt_of_cell? W _ h.2.2.2.2.1)).trans h.2.2.2.2.1,(hb.cell (World.block_lt_of_cell? W _ h.2.2.2.2.2.1)).trans h.2.2.2.2.2.1,(hb.cell (World.block_lt_of_cell? W _ h.2.2.2.2.2.2.1)).trans h.2.2.2.2.2.2.1,(hb.cell (World.block_lt_of_cell? W _ h.2.2.2.2.2.2.2.1)).trans h.2.2.2.2.2.2.2.1,(hb.cell (World.block_lt_of_cell? W _ h.2.2.2.2.2.2.2.2)).trans h.2.2.2.2.2.2.2.2⟩
 have HS1 : Hid (∀ (W W' : World),(W.cell? ⟨A, 0,none⟩ = some (.int .i64 R.now) ∧ W.cell? ⟨A, 1,none⟩ = some (.slice ae R.ents.length ce) ∧ W.cell? ⟨A, 2,none⟩ = some xw ∧ W.cell? ⟨A, 3,none⟩ = some xm ∧ W.cell? ⟨A, 4,none⟩ = some xk ∧ W.cell? ⟨A, 5,none⟩ = some (.int .i64 R.pol.sk.added) ∧ W.cell? ⟨A, 6,none⟩ = some (.slice af R.fes.length cf) ∧ W.cell? ⟨A, 7,none⟩ = some (.slice ac R.cls.length cc) ∧ W.cell? ⟨A, 8,none⟩ = some (.int .i64 R.hits)) → Below w1.heap.size w1 W → Below w1.heap.size w1 W' → W'.cell? ⟨A, 0,none⟩ = some (.int .i64 R.now) ∧ W'.cell? ⟨A, 1,none⟩ = some (.slice ae R.ents.length ce) ∧ W'.cell? ⟨A, 2,none⟩ = some xw ∧ W'.cell? ⟨A, 3,none⟩ = some xm ∧ W'.cell? ⟨A, 4,none⟩ = some xk ∧ W'.cell? ⟨A, 5,none⟩ = some (.int .i64 R.pol.sk.added) ∧ W'.cell? ⟨A, 6,none⟩ = some (.slice af R.fes.length cf) ∧ W'.cell? ⟨A, 7,none⟩ = some (.slice ac R.cls.length cc) ∧ W'.cell? ⟨A, 8,none⟩ = some (.int .i64 R.hits)) := fun W W' _ _ hb => (hB.on hb).cells
 have HS9 : Hid (∀ (W : World) (z0 z1 z2 z3 z4 z5 z6 z7 z8 : Value),(W.cell? ⟨A, 0,none⟩ = some (.int .i64 R.now) ∧ W.cell? ⟨A, 1,none⟩ = some (.slice ae R.ents.length ce) ∧ W.cell? ⟨A, 2,none⟩ = some xw ∧ W.cell? ⟨A, 3,none⟩ = some xm ∧ W.cell? ⟨A, 4,none⟩ = some xk ∧ W.cell? ⟨A, 5,none⟩ = some (.int .i64 R.pol.sk.added) ∧ W.cell? ⟨A, 6,none⟩ = some (.slice af R.fes.length cf) ∧ W.cell? ⟨A, 7,none⟩ = some (.slice ac R.cls.length cc) ∧ W.cell? ⟨A, 8,none⟩ = some (.int .i64 R.hits)) → (((((((((W.setCell ⟨A + 1, 0,none⟩ z0).setCell ⟨A + 1, 1,none⟩ z1).setCell ⟨A + 1, 2,none⟩ z2).setCell ⟨A + 1, 3,none⟩ z3).setCell ⟨A + 1, 4,none⟩ z4).setCell ⟨A + 1, 5,none⟩ z5).setCell ⟨A + 1, 6,none⟩ z6).setCell ⟨A + 1, 7,none⟩ z7).setCell ⟨A + 1, 8,none⟩ z8).cell? ⟨A, 0,none⟩ = some (.int .i64 R.now) ∧ (((((((((W.setCell ⟨A + 1, 0,none⟩ z0).setCell ⟨A + 1, 1,none⟩ z1).setCell ⟨A + 1, 2,none⟩ z2).setCell ⟨A + 1, 3,none⟩ z3).setCell ⟨A + 1, 4,none⟩ z4).setCell ⟨A + 1, 5,none⟩ z5).setCell ⟨A + 1, 6,none⟩ z6).setCell ⟨A + 1, 7,none⟩ z7).setCell ⟨A + 1, 8,none⟩ z8).cell? ⟨A, 1,none⟩ = some (.slice ae R.ents.length ce) ∧ (((((((((W.setCell ⟨A + 1, 0,none⟩ z0).setCell ⟨A + 1, 1,none⟩ z1).setCell ⟨A + 1, 2,none⟩ z2).setCell ⟨A + 1, 3,none⟩ z3).setCell ⟨A + 1, 4,none⟩ z4).setCell ⟨A + 1, 5,none⟩ z5).setCell ⟨A + 1, 6,none⟩ z6).setCell ⟨A + 1, 7,none⟩ z7).setCell ⟨A + 1, 8,none⟩ z8).cell? ⟨A, 2,none⟩ = some xw ∧ (((((((((W.setCell ⟨A + 1, 0,none⟩ z0).setCell ⟨A + 1, 1,none⟩ z1).setCell ⟨A + 1, 2,none⟩ z2).setCell ⟨A + 1, 3,none⟩ z3).setCell ⟨A + 1, 4,none⟩ z4).setCell ⟨A + 1, 5,none⟩ z5).setCell ⟨A + 1, 6,none⟩ z6).setCell ⟨A + 1, 7,none⟩ z7).setCell ⟨A + 1, 8,none⟩ z8).cell? ⟨A, 3,none⟩ = some xm ∧ (((((((((W.setCell ⟨A + 1, 0,none⟩ z0).setCell ⟨A + 1, 1,none⟩ z1).setCell ⟨A + 1, 2,none⟩ z2).setCell ⟨A + 1, 3,none⟩ z3).setCell ⟨A + 1, 4,none⟩ z4).setCell ⟨A + 1, 5,none⟩ z5).setCell ⟨A + 1, 6,none⟩ z6).setCell ⟨A + 1, 7,none⟩ z7).setCell ⟨A + 1, 8,none⟩ z8).cell? ⟨A, 4,none⟩ = some xk ∧ (((((((((W.setCell ⟨A + 1, 0,none⟩ z0).setCell ⟨A + 1, 1,none⟩ z1).setCell ⟨A + 1, 2,none⟩ z2).setCell ⟨A + 1, 3,none⟩ z3).setCell ⟨A + 1, 4,none⟩ z4).setCell ⟨A + 1, 5,none⟩ z5).setCell ⟨A + 1, 6,none⟩ z6).setCell ⟨A + 1, 7,none⟩ z7).setCell ⟨A + 1, 8,none⟩ z8).cell? ⟨A, 5,none⟩ = some (.int .i64 R.pol.sk.added) ∧ (((((((((W.setCell ⟨A + 1, 0,none⟩ z0).setCell ⟨A + 1, 1,none⟩ z1).setCell ⟨A + 1, 2,none⟩ z2).setCell ⟨A + 1, 3,none⟩ z3).setCell ⟨A + 1, 4,none⟩ z4).setCell ⟨A + 1, 5,none⟩ z5).setCell ⟨A + 1, 6,none⟩ z6).setCell ⟨A + 1, 7,none⟩ z7).setCell ⟨A + 1, 8,none⟩ z8).cell? ⟨A, 6,none⟩ = some (.slice af R.fes.length cf) ∧ (((((((((W.setCell ⟨A + 1, 0,none⟩ z0).setCell ⟨A + 1, 1,none⟩ z1).setCell ⟨A + 1, 2,none⟩ z2).setCell ⟨A + 1, 3,none⟩ z3).setCell ⟨A + 1, 4,none⟩ z4).setCell ⟨A + 1, 5,none⟩ z5).setCell ⟨A + 1, 6,none⟩ z6).setCell ⟨A + 1, 7,none⟩ z7).setCell ⟨A + 1, 8,none⟩ z8).cell? ⟨A, 7,none⟩ = some (.slice ac R.cls.length cc) ∧ (((((((((W.setCell ⟨A + 1, 0,none⟩ z0).setCell ⟨A + 1, 1,none⟩ z1).setCell ⟨A + 1, 2,none⟩ z2).setCell ⟨A + 1, 3,none⟩ z3).setCell ⟨A + 1, 4,none⟩ z4).setCell ⟨A + 1, 5,none⟩ z5).setCell ⟨A + 1, 6,none⟩ z6).setCell ⟨A + 1, 7,none⟩ z7).setCell ⟨A + 1, 8,none⟩ z8).cell? ⟨A, 8,none⟩ = some (.int .i64 R.hits)) := fun W z0 z1 z2 z3 z4 z5 z6 z7 z8 h => ⟨(put9_cell W A z0 z1 z2 z3 z4 z5 z6 z7 z8 0).trans h.1,(put9_cell W A z0 z1 z2 z3 z4 z5 z6 z7 z8 1).trans h.2.1,(put9_cell W A z0 z1 z2 z3 z4 z5 z6 z7 z8 2).trans h.2.2.1,(put9_cell W A z0 z1 z2 z3 z4 z5 z6 z7 z8 3).trans h.2.2.2.1,(put9_cell W A z0 z1 z2 z3 z4 z5 z6 z7 z8 4).trans h.2.2.2.2.1,(put9_cell W A z0 z1 z2 z3 z4 z5 z6 z7 z8 5).trans h.2.2.2.2.2.1,(put9_cell W A z0 z1 z2 z3 z4 z5 z6 z7 z8 6).trans h.2.2.2.2.2.2.1,(put9_cell W A z0 z1 z2 z3 z4 z5 z6 z7 z8 7).trans h.2.2.2.2.2.2.2.1,(put9_cell W A z0 z1 z2 z3 z4 z5 z6 z7 z8 8).trans h.2.2.2.2.2.2.2.2⟩
 clear hw0 hw1 hb0 hb01 s0 hE hF hC hW1 hM1 hK1 hP hsz
 have HAA : Hid (w.heap.size = A) := hAA
 go_enter Tryz.func43,Tryz.ntmps43
 go_wp2_with fail
 rw [HW.out]
 clear HW
 refine wp_region_held_drew (S := fun W => W.cell? ⟨A, 0,none⟩ = some (.int .i64 R.now) ∧ W.cell? ⟨A, 1,none⟩ = some (.slice ae R.ents.length ce) ∧ W.cell? ⟨A, 2,none⟩ = some xw ∧ W.cell? ⟨A, 3,none⟩ = some xm ∧ W.cell? ⟨A, 4,none⟩ = some xk ∧ W.cell? ⟨A, 5,none⟩ = some (.int .i64 R.pol.sk.added) ∧ W.cell? ⟨A, 6,none⟩ = some (.slice af R.fes.length cf) ∧ W.cell? ⟨A, 7,none⟩ = some (.slice ac R.cls.length cc) ∧ W.cell? ⟨A, 8,none⟩ = some (.int .i64 R.hits)) (by kernel_rfl) ((hB.on hdf).cells) (fun hHeld => ?_)
 refine wpAnyH_take (i := 0) (oi := _) (v := (.pointer (some ⟨A, 0,none⟩))) rfl (by kernel_rfl) (by kernel_rfl) (by kernel_rfl) (fun _ _ _ h => h) (Or.inl ⟨by rfl, ?_⟩) (by assumption) ?_
 ·intro W hSw
  obtain ⟨k0,k1,k2,k3,k4,k5,k6,k7,k8⟩ := hSw
  go_simp
 refine wpAnyH_take (i := 1) (oi := _) (v := (.int .i64 R.now)) rfl (by kernel_rfl) (by kernel_rfl) (by kernel_rfl) (fun _ _ _ h => h) (Or.inl ⟨by rfl, ?_⟩) (by assumption) ?_
 ·intro W hSw
  obtain ⟨k0,k1,k2,k3,k4,k5,k6,k7,k8⟩ := hSw
  go_simp
 refine wpAnyH_take (i := 3) (oi := _) (v := (.pointer (some ⟨A, 1,none⟩))) rfl (by kernel_rfl) (by kernel_rfl) (by kernel_rfl) (fun _ _ _ h => h) (Or.inl ⟨by rfl, ?_⟩) (by assumption) ?_
 ·intro W hSw
  obtain ⟨k0,k1,k2,k3,k4,k5,k6,k7,k8⟩ := hSw
  go_simp
 refine wpAnyH_take (i := 4) (oi := _) (v := (.slice ae R.ents.length ce)) rfl (by kernel_rfl) (by kernel_rfl) (by kernel_rfl) (fun _ _ _ h => h) (Or.inl ⟨by rfl, ?_⟩) (by assumption) ?_
 ·intro W hSw
  obtain ⟨k0,k1,k2,k3,k4,k5,k6,k7,k8⟩ := hSw
  go_simp
 refine wpAnyH_take (i := 6) (oi := _) (v := (.pointer (some ⟨A, 2,none⟩))) rfl (by kernel_rfl) (by kernel_rfl) (by kernel_rfl) (fun _ _ _ h => h) (Or.inl ⟨by rfl, ?_⟩) (by assumption) ?_
 ·intro W hSw
  obtain ⟨k0,k1,k2,k3,k4,k5,k6,k7,k8⟩ := hSw
  go_simp
 refine wpAnyH_take (i := 7) (oi := _) (v := (.agg #[xw,xm,xk,.int .i64 R.pol.sk.added])) rfl (by kernel_rfl) (by kernel_rfl) (by kernel_rfl) (fun _ _ _ h => h) (Or.inl ⟨by rfl, ?_⟩) (by assumption) ?_
 ·intro W hSw
  obtain ⟨k0,k1,k2,k3,k4,k5,k6,k7,k8⟩ := hSw
  go_simp
 refine wpAnyH_take (i := 10) (oi := _) (v := (.pointer (some ⟨A, 6,none⟩))) rfl (by kernel_rfl) (by kernel_rfl) (by kernel_rfl) (fun _ _ _ h => h) (Or.inl ⟨by rfl, ?_⟩) (by assumption) ?_
 ·intro W hSw
  obtain ⟨k0,k1,k2,k3,k4,k5,k6,k7,k8⟩ := hSw
  go_simp
 refine wpAnyH_take (i := 11) (oi := _) (v := (.slice af R.fes.length cf)) rfl (by kernel_rfl) (by kernel_rfl) (by kernel_rfl) (fun _ _ _ h => h) (Or.inl ⟨by rfl, ?_⟩) (by assumption) ?_
 ·intro W hSw
  obtain ⟨k0,k1,k2,k3,k4,k5,k6,k7,k8⟩ := hSw
  go_simp
 refine wpAnyH_take (i := 14) (oi := _) (v := (.pointer (some ⟨A, 7,none⟩))) rfl (by kernel_rfl) (by kernel_rfl) (by kernel_rfl) (fun _ _ _ h => h) (Or.inl ⟨by rfl, ?_⟩) (by assumption) ?_
 ·intro W hSw
  obtain ⟨k0,k1,k2,k3,k4,k5,k6,k7,k8⟩ := hSw
  go_simp
 refine wpAnyH_take (i := 15) (oi := _) (v := (.slice ac R.cls.length cc)) rfl (by kernel_rfl) (by kernel_rfl) (by kernel_rfl) (fun _ _ _ h => h) (Or.inl ⟨by rfl, ?_⟩) (by assumption) ?_
 ·intro W hSw
  obtain ⟨k0,k1,k2,k3,k4,k5,k6,k7,k8⟩ := hSw
  go_simp
 refine wpAnyH_take (i := 17) (oi := _) (v := (.pointer (some ⟨A, 8,none⟩))) rfl (by kernel_rfl) (by kernel_rfl) (by kernel_rfl) (fun _ _ _ h => h) (Or.inl ⟨by rfl, ?_⟩) (by assumption) ?_
 ·intro W hSw
  obtain ⟨k0,k1,k2,k3,k4,k5,k6,k7,k8⟩ := hSw
  go_simp
 refine wpAnyH_take (i := 18) (oi := _) (v := (.int .i64 R.hits)) rfl (by kernel_rfl) (by kernel_rfl) (by kernel_rfl) (fun _ _ _ h => h) (Or.inl ⟨by rfl, ?_⟩) (by assumption) ?_
 ·intro W hSw
  obtain ⟨k0,k1,k2,k3,k4,k5,k6,k7,k8⟩ := hSw
  go_simp
 refine wpAnyH_inv (fun s a W => (W.cell? ⟨A, 0,none⟩ = some (.int .i64 R.now) ∧ W.cell? ⟨A, 1,none⟩ = some (.slice ae R.ents.length ce) ∧ W.cell? ⟨A, 2,none⟩ = some xw ∧ W.cell? ⟨A, 3,none⟩ = some xm ∧ W.cell? ⟨A, 4,none⟩ = some xk ∧ W.cell? ⟨A, 5,none⟩ = some (.int .i64 R.pol.sk.added) ∧ W.cell? ⟨A, 6,none⟩ = some (.slice af R.fes.length cf) ∧ W.cell? ⟨A, 7,none⟩ = some (.slice ac R.cls.length cc) ∧ W.cell? ⟨A, 8,none⟩ = some (.int .i64 R.hits)) ∧ ∃ (b2 b5 b8 b9 b12 b13 b16 b19 b20 : Bool) (x5 x8 x11 x12 x15 x16 x19 x22 : Value),s = #[true,true,b2,true,true,b5,true,true,b8,b9,true,true,b12,b13,true,true,b16,true,true,b19,b20] ∧ a = ⟨#[.agg #[.int .i64 R.now,.slice ae R.ents.length ce,xw,xm,xk,.int .i64 R.pol.sk.added,.slice af R.fes.length cf,.slice ac R.cls.length cc,.int .i64 R.hits],.pointer (some ⟨A, 0,none⟩),.pointer (some ⟨A + 1, 0,none⟩),.pointer (some ⟨A, 0,none⟩),.int .i64 R.now,x5,.pointer (some ⟨A, 1,none⟩),.slice ae R.ents.length ce,x8,.pointer (some ⟨A, 2,none⟩),.agg #[xw,xm,xk,.int .i64 R.pol.sk.added],x11,x12,.pointer (some ⟨A, 6,none⟩),.slice af R.fes.length cf,x15,x16,.pointer (some ⟨A, 7,none⟩),.slice ac R.cls.length cc,x19,.pointer (some ⟨A, 8,none⟩),.int .i64 R.hits,x22], []⟩ ∧ ((b20 = false ∧ JC w1 R b2 b5 b8 b9 b12 b13 b16 b19 x5 x8 x11 x12 x15 x16 x19 x22 W) ∨ (b20 = true ∧ ∃ W2 y1 y2 y3,(b19 = true ∧ x11 = .agg #[y1,y2,y3,.int .i64 R.pol.sk.added]) ∧ JC w1 R b2 b5 b8 b9 b12 b13 b16 b19 x5 x8 x11 x12 x15 x16 x19 x22 W2 ∧ W = (((((((((W2.setCell ⟨A + 1, 0,none⟩ (.int .i64 R.now)).setCell ⟨A + 1, 1,none⟩ x8).setCell ⟨A + 1, 2,none⟩ y1).setCell ⟨A + 1, 3,none⟩ y2).setCell ⟨A + 1, 4,none⟩ y3).setCell ⟨A + 1, 5,none⟩ (.int .i64 R.pol.sk.added)).setCell ⟨A + 1, 6,none⟩ x15).setCell ⟨A + 1, 7,none⟩ x19).setCell ⟨A + 1, 8,none⟩ (.int .i64 R.hits))))) (by kernel_rfl) ?_ ?_ ?_ ?_ _ _ _ _ ?_ (by decide)
 ·rintro s a W ⟨_,b2,b5,b8,b9,b12,b13,b16,b19,b20,x5,x8,x11,x12,x15,x16,x19,x22,rfl,_⟩
  rfl
 ·rintro s a W ⟨h,_⟩
  exact h
 ·rintro s a W i ⟨hS,b2,b5,b8,b9,b12,b13,b16,b19,b20,x5,x8,x11,x12,x15,x16,x19,x22,rfl,rfl,hJ⟩ hi
  obtain ⟨h1,o,ho,hall⟩ := mem_ready.1 hi
  have hlt : i < 21 := by simpa using (Array.getElem?_eq_some_iff.1 ho).1
  clear hi
  rcases (by omega : i = 0 ∨ i = 1 ∨ i = 2 ∨ i = 3 ∨ i = 4 ∨ i = 5 ∨ i = 6 ∨ i = 7 ∨ i = 8 ∨ i = 9 ∨ i = 10 ∨ i = 11 ∨ i = 12 ∨ i = 13 ∨ i = 14 ∨ i = 15 ∨ i = 16 ∨ i = 17 ∨ i = 18 ∨ i = 19 ∨ i = 20) with rfl | rfl | rfl | rfl | rfl | rfl | rfl | rfl | rfl | rfl | rfl | rfl | rfl | rfl | rfl | rfl | rfl | rfl | rfl | rfl | rfl
  ·simp at h1
  ·simp at h1
  ·have hf : b2 = false := by simpa using h1
   subst hf
   injection ho with ho'
   subst ho'
   simp [Region.binds] at hall
   rcases hJ with ⟨hb20,J⟩ | ⟨hb20,W2,y1,y2,y3,⟨h19,_⟩,J,_⟩
   case inr =>
    exfalso
    obtain ⟨_,_,_,_,_,p5,p8,p12,p16⟩ := J.q h19
    have q2 := J.o5 p5
    have q9 := J.o12 p12
    have q13 := J.o16 p16
    simp at p5 p8 p12 p16 q2 q9 q13 h19
   refine wpOp_value (w' := W.alloc (.cells #[] 69)) (.slice (some ⟨W.heap.size, 0,none⟩) 0 0) rfl rfl (by go_simp) ?_
   have hbl : Below W.heap.size W (W.alloc (.cells #[] 69)) := (Below.refl _ _).alloc (Nat.le_refl _) _
   have hS' := HS.out W _ hS hbl
   have JO := J.on (Kp.of_below hbl) (J.bel.trans (hbl.mono J.bel.size)) hbl.size
   have J' : JC w1 R true b5 b8 b9 b12 b13 b16 b19 (.slice (some ⟨W.heap.size, 0,none⟩) 0 0) x8 x11 x12 x15 x16 x19 x22 (W.alloc (.cells #[] 69)) := { JO with o5 := fun _ => rfl,e1 := fun _ _ => ⟨W.heap.size,rfl,heap_alloc_new _ _,J.bel.size⟩ }
   exact ⟨hS',true,b5,b8,b9,b12,b13,b16,b19,b20,_,x8,x11,x12,x15,x16,x19,x22,rfl,rfl,.inl ⟨hb20,J'⟩⟩
  ·simp at h1
  ·simp at h1
  ·have hf : b5 = false := by simpa using h1
   subst hf
   injection ho with ho'
   subst ho'
   simp [Region.binds] at hall
   rcases hJ with ⟨hb20,J⟩ | ⟨hb20,W2,y1,y2,y3,⟨h19,_⟩,J,_⟩
   case inr =>
    exfalso
    obtain ⟨_,_,_,_,_,p5,p8,p12,p16⟩ := J.q h19
    have q2 := J.o5 p5
    have q9 := J.o12 p12
    have q13 := J.o16 p16
    simp at p5 p8 p12 p16 q2 q9 q13 h19
   have hd : b2 = true := by first | exact hall | exact hall.1
   obtain ⟨G,rfl,hG,hlo⟩ := J.e1 hd rfl
   refine wpOp_if rfl rfl ?_
   refine step_allX rfl (.tmp 5) (.tmp 7) 41 rfl 69 Tryz.underlying41 (.agg #[.string ⟨#[]⟩,.int .i64 0,.int .i64 0,.string ⟨#[]⟩]) 4 48 Tryz.infoEn rfl (by omega) (by omega) G rfl hG ae R.ents.length ce (enl R.ents) rfl (by rw [enl_length]) HSE.out.1 (HSE.out.2 _ J.bel) (enl_one _) l1 ?_
   intro g c W' ho' hb' hg' hk'
   have hkp : Kp (some 69) W W' := Kp.of_one hG hk'
   have hbw : Below w1.heap.size W W' := hb'.mono hlo
   have hsz' : W.heap.size ≤ W'.heap.size := hb'.size
   have hS' := HS1.out W W' hS J.bel (J.bel.trans hbw)
   have hown : OwnN W' w1.heap.size 69 (.slice (some ⟨g, 0,none⟩) R.ents.length c) R.ents := OwnN.mono ho' hlo
   have J' : JC w1 R b2 true b8 b9 b12 b13 b16 b19 (.slice (some ⟨G, 0,none⟩) 0 0) (.slice (some ⟨g, 0,none⟩) R.ents.length c) x11 x12 x15 x16 x19 x22 W' :=
    { bel := J.bel.trans hbw,o5 := fun _ => hd,o12 := J.o12,o16 := J.o16,e1 := fun _ h => (by cases h),e2 := fun _ => hown,f1 := fun a b => (J.f1 a b).kp hkp (by decide),c1 := fun a b => (J.c1 a b).kp hkp (by decide),f2 := fun a => (J.f2 a).kp hkp (by decide),c2 := fun a => (J.c2 a).kp hkp (by decide),p := fun a => ((J.p a).kp hkp (by decide) (by decide) (by decide)).mono (Nat.le_refl _) hsz',q := fun h => (by obtain ⟨_,_,_,_,_,p5,p8,p12,p16⟩ := J.q h; simp at p5 p8 p12 p16) }
   exact ⟨hS',b2,true,b8,b9,b12,b13,b16,b19,b20,_,_,x11,x12,x15,x16,x19,x22,rfl,rfl,.inl ⟨hb20,J'⟩⟩
  ·simp at h1
  ·simp at h1
  ·have hf : b8 = false := by simpa using h1
   subst hf
   injection ho with ho'
   subst ho'
   simp [Region.binds] at hall
   rcases hJ with ⟨hb20,J⟩ | ⟨hb20,W2,y1,y2,y3,⟨h19,_⟩,J,_⟩
   case inr =>
    exfalso
    obtain ⟨_,_,_,_,_,p5,p8,p12,p16⟩ := J.q h19
    have q2 := J.o5 p5
    have q9 := J.o12 p12
    have q13 := J.o16 p16
    simp at p5 p8 p12 p16 q2 q9 q13 h19
   refine wpOp_enter 106 #[.agg #[xw,xm,xk,.int .i64 R.pol.sk.added]] rfl rfl (by go_simp) ?_
   refine (l13Copy_v W xw xm xk R.pol (hP1.on J.bel) l2).mono ?_
   rintro e W' ⟨aw,cw,am,cm,ak,ck,rfl,hown,hbl⟩
   refine ⟨_,rfl, ?_⟩
   have hS' := HS.out W _ hS hbl
   have JO := J.on (Kp.of_below hbl) (J.bel.trans (hbl.mono J.bel.size)) hbl.size
   have J' : JC w1 R b2 b5 true b9 b12 b13 b16 b19 x5 x8 (.agg #[.slice aw R.pol.win.length cw,.slice am R.pol.main.length cm,.slice ak R.pol.sk.rows.length ck,.int .i64 R.pol.sk.added]) x12 x15 x16 x19 x22 W' := { JO with p := fun _ => hown.mono J.bel.size (Nat.le_refl _),q := fun h => (by obtain ⟨_,_,_,_,_,p5,p8,p12,p16⟩ := J.q h; simp at p8) }
   exact ⟨hS',b2,b5,true,b9,b12,b13,b16,b19,b20,x5,x8,_,x12,x15,x16,x19,x22,rfl,rfl,.inl ⟨hb20,J'⟩⟩
  ·have hf : b9 = false := by simpa using h1
   subst hf
   injection ho with ho'
   subst ho'
   simp [Region.binds] at hall
   rcases hJ with ⟨hb20,J⟩ | ⟨hb20,W2,y1,y2,y3,⟨h19,_⟩,J,_⟩
   case inr =>
    exfalso
    obtain ⟨_,_,_,_,_,p5,p8,p12,p16⟩ := J.q h19
    have q2 := J.o5 p5
    have q9 := J.o12 p12
    have q13 := J.o16 p16
    simp at p5 p8 p12 p16 q2 q9 q13 h19
   refine wpOp_value (w' := W.alloc (.cells #[] 94)) (.slice (some ⟨W.heap.size, 0,none⟩) 0 0) rfl rfl (by go_simp) ?_
   have hbl : Below W.heap.size W (W.alloc (.cells #[] 94)) := (Below.refl _ _).alloc (Nat.le_refl _) _
   have hS' := HS.out W _ hS hbl
   have JO := J.on (Kp.of_below hbl) (J.bel.trans (hbl.mono J.bel.size)) hbl.size
   have J' : JC w1 R b2 b5 b8 true b12 b13 b16 b19 x5 x8 x11 (.slice (some ⟨W.heap.size, 0,none⟩) 0 0) x15 x16 x19 x22 (W.alloc (.cells #[] 94)) := { JO with o12 := fun _ => rfl,f1 := fun _ _ => ⟨W.heap.size,rfl,heap_alloc_new _ _,J.bel.size⟩ }
   exact ⟨hS',b2,b5,b8,true,b12,b13,b16,b19,b20,x5,x8,x11,_,x15,x16,x19,x22,rfl,rfl,.inl ⟨hb20,J'⟩⟩
  ·simp at h1
  ·simp at h1
  ·have hf : b12 = false := by simpa using h1
   subst hf
   injection ho with ho'
   subst ho'
   simp [Region.binds] at hall
   rcases hJ with ⟨hb20,J⟩ | ⟨hb20,W2,y1,y2,y3,⟨h19,_⟩,J,_⟩
   case inr =>
    exfalso
    obtain ⟨_,_,_,_,_,p5,p8,p12,p16⟩ := J.q h19
    have q2 := J.o5 p5
    have q9 := J.o12 p12
    have q13 := J.o16 p16
    simp at p5 p8 p12 p16 q2 q9 q13 h19
   have hd : b9 = true := by first | exact hall | exact hall.1
   obtain ⟨G,rfl,hG,hlo⟩ := J.f1 hd rfl
   refine wpOp_if rfl rfl ?_
   refine step_allX rfl (.tmp 12) (.tmp 14) 45 rfl 94 Tryz.underlying45 (.agg #[.string ⟨#[]⟩,.string ⟨#[]⟩,.int .i64 0,.int .i64 0,.int .i64 0]) 5 56 Tryz.infoFet rfl (by omega) (by omega) G rfl hG af R.fes.length cf (ftl R.fes) rfl (by rw [ftl_length]) HSF.out.1 (HSF.out.2 _ J.bel) (ftl_one _) l3 ?_
   intro g c W' ho' hb' hg' hk'
   have hkp : Kp (some 94) W W' := Kp.of_one hG hk'
   have hbw : Below w1.heap.size W W' := hb'.mono hlo
   have hsz' : W.heap.size ≤ W'.heap.size := hb'.size
   have hS' := HS1.out W W' hS J.bel (J.bel.trans hbw)
   have hown : OwnFet W' w1.heap.size 94 (.slice (some ⟨g, 0,none⟩) R.fes.length c) R.fes := OwnFet.mono ho' hlo
   have J' : JC w1 R b2 b5 b8 b9 true b13 b16 b19 x5 x8 x11 (.slice (some ⟨G, 0,none⟩) 0 0) (.slice (some ⟨g, 0,none⟩) R.fes.length c) x16 x19 x22 W' :=
    { bel := J.bel.trans hbw,o5 := J.o5,o12 := fun _ => hd,o16 := J.o16,f1 := fun _ h => (by cases h),f2 := fun _ => hown,e1 := fun a b => (J.e1 a b).kp hkp (by decide),c1 := fun a b => (J.c1 a b).kp hkp (by decide),e2 := fun a => (J.e2 a).kp hkp (by decide),c2 := fun a => (J.c2 a).kp hkp (by decide),p := fun a => ((J.p a).kp hkp (by decide) (by decide) (by decide)).mono (Nat.le_refl _) hsz',q := fun h => (by obtain ⟨_,_,_,_,_,p5,p8,p12,p16⟩ := J.q h; simp at p5 p8 p12 p16) }
   exact ⟨hS',b2,b5,b8,b9,true,b13,b16,b19,b20,x5,x8,x11,_,_,x16,x19,x22,rfl,rfl,.inl ⟨hb20,J'⟩⟩
  ·have hf : b13 = false := by simpa using h1
   subst hf
   injection ho with ho'
   subst ho'
   simp [Region.binds] at hall
   rcases hJ with ⟨hb20,J⟩ | ⟨hb20,W2,y1,y2,y3,⟨h19,_⟩,J,_⟩
   case inr =>
    exfalso
    obtain ⟨_,_,_,_,_,p5,p8,p12,p16⟩ := J.q h19
    have q2 := J.o5 p5
    have q9 := J.o12 p12
    have q13 := J.o16 p16
    simp at p5 p8 p12 p16 q2 q9 q13 h19
   refine wpOp_value (w' := W.alloc (.cells #[] 87)) (.slice (some ⟨W.heap.size, 0,none⟩) 0 0) rfl rfl (by go_simp) ?_
   have hbl : Below W.heap.size W (W.alloc (.cells #[] 87)) := (Below.refl _ _).alloc (Nat.le_refl _) _
   have hS' := HS.out W _ hS hbl
   have JO := J.on (Kp.of_below hbl) (J.bel.trans (hbl.mono J.bel.size)) hbl.size
   have J' : JC w1 R b2 b5 b8 b9 b12 true b16 b19 x5 x8 x11 x12 x15 (.slice (some ⟨W.heap.size, 0,none⟩) 0 0) x19 x22 (W.alloc (.cells #[] 87)) := { JO with o16 := fun _ => rfl,c1 := fun _ _ => ⟨W.heap.size,rfl,heap_alloc_new _ _,J.bel.size⟩ }
   exact ⟨hS',b2,b5,b8,b9,b12,true,b16,b19,b20,x5,x8,x11,x12,x15,_,x19,x22,rfl,rfl,.inl ⟨hb20,J'⟩⟩
  ·simp at h1
  ·simp at h1
  ·have hf : b16 = false := by simpa using h1
   subst hf
   injection ho with ho'
   subst ho'
   simp [Region.binds] at hall
   rcases hJ with ⟨hb20,J⟩ | ⟨hb20,W2,y1,y2,y3,⟨h19,_⟩,J,_⟩
   case inr =>
    exfalso
    obtain ⟨_,_,_,_,_,p5,p8,p12,p16⟩ := J.q h19
    have q2 := J.o5 p5
    have q9 := J.o12 p12
    have q13 := J.o16 p16
    simp at p5 p8 p12 p16 q2 q9 q13 h19
   have hd : b13 = true := by first | exact hall | exact hall.1
   obtain ⟨G,rfl,hG,hlo⟩ := J.c1 hd rfl
   refine wpOp_if rfl rfl ?_
   refine step_allX rfl (.tmp 16) (.tmp 18) 46 rfl 87 Tryz.underlying46 (.agg #[.int .i64 0,.string ⟨#[]⟩,.int .i64 0,.int .i64 0,.int .i64 0,.string ⟨#[]⟩,.int .i64 0]) 7 72 Tryz.infoCli rfl (by omega) (by omega) G rfl hG ac R.cls.length cc (cltl R.cls) rfl (by rw [cltl_length]) HSC.out.1 (HSC.out.2 _ J.bel) (cltl_one _) l4 ?_
   intro g c W' ho' hb' hg' hk'
   have hkp : Kp (some 87) W W' := Kp.of_one hG hk'
   have hbw : Below w1.heap.size W W' := hb'.mono hlo
   have hsz' : W.heap.size ≤ W'.heap.size := hb'.size
   have hS' := HS1.out W W' hS J.bel (J.bel.trans hbw)
   have hown : OwnCli W' w1.heap.size 87 (.slice (some ⟨g, 0,none⟩) R.cls.length c) R.cls := OwnCli.mono ho' hlo
   have J' : JC w1 R b2 b5 b8 b9 b12 b13 true b19 x5 x8 x11 x12 x15 (.slice (some ⟨G, 0,none⟩) 0 0) (.slice (some ⟨g, 0,none⟩) R.cls.length c) x22 W' :=
    { bel := J.bel.trans hbw,o5 := J.o5,o12 := J.o12,o16 := fun _ => hd,c1 := fun _ h => (by cases h),c2 := fun _ => hown,e1 := fun a b => (J.e1 a b).kp hkp (by decide),f1 := fun a b => (J.f1 a b).kp hkp (by decide),e2 := fun a => (J.e2 a).kp hkp (by decide),f2 := fun a => (J.f2 a).kp hkp (by decide),p := fun a => ((J.p a).kp hkp (by decide) (by decide) (by decide)).mono (Nat.le_refl _) hsz',q := fun h => (by obtain ⟨_,_,_,_,_,p5,p8,p12,p16⟩ := J.q h; simp at p5 p8 p12 p16) }
   exact ⟨hS',b2,b5,b8,b9,b12,b13,true,b19,b20,x5,x8,x11,x12,x15,_,_,x22,rfl,rfl,.inl ⟨hb20,J'⟩⟩
  ·simp at h1
  ·simp at h1
  ·have hf : b19 = false := by simpa using h1
   subst hf
   injection ho with ho'
   subst ho'
   simp [Region.binds] at hall
   rcases hJ with ⟨hb20,J⟩ | ⟨hb20,W2,y1,y2,y3,⟨h19,_⟩,J,_⟩
   case inr =>
    exfalso
    obtain ⟨_,_,_,_,_,p5,p8,p12,p16⟩ := J.q h19
    have q2 := J.o5 p5
    have q9 := J.o12 p12
    have q13 := J.o16 p16
    simp at p5 p8 p12 p16 q2 q9 q13 h19
   obtain ⟨d5,d8,d12,d16⟩ : b5 = true ∧ b8 = true ∧ b12 = true ∧ b16 = true := by simp_all
   obtain ⟨g1,k1,rfl,_⟩ := (J.e2 d5).at
   obtain ⟨g2,k2,rfl,_⟩ := (J.f2 d12).at
   obtain ⟨g3,k3,rfl,_⟩ := (J.c2 d16).at
   obtain ⟨aw,cw,am,cm,ak,ck,rfl,_⟩ := (J.p d8).at
   have hS' := hS
   refine wpOp_value (w' := W) (.agg #[.int .i64 R.now,.slice g1 R.ents.length k1,.slice aw R.pol.win.length cw,.slice am R.pol.main.length cm,.slice ak R.pol.sk.rows.length ck,.int .i64 R.pol.sk.added,.slice g2 R.fes.length k2,.slice g3 R.cls.length k3,.int .i64 R.hits]) rfl rfl (by go_simp) ?_
   have J' : JC w1 R b2 b5 b8 b9 b12 b13 b16 true x5 (.slice g1 R.ents.length k1) (.agg #[.slice aw R.pol.win.length cw,.slice am R.pol.main.length cm,.slice ak R.pol.sk.rows.length ck,.int .i64 R.pol.sk.added]) x12 (.slice g2 R.fes.length k2) x16 (.slice g3 R.cls.length k3) (.agg #[.int .i64 R.now,.slice g1 R.ents.length k1,.slice aw R.pol.win.length cw,.slice am R.pol.main.length cm,.slice ak R.pol.sk.rows.length ck,.int .i64 R.pol.sk.added,.slice g2 R.fes.length k2,.slice g3 R.cls.length k3,.int .i64 R.hits]) W := { J with q := fun _ => ⟨_,_,_,rfl,rfl,d5,d8,d12,d16⟩ }
   exact ⟨hS',b2,b5,b8,b9,b12,b13,b16,true,b20,x5,_,_,x12,_,x16,_,_,rfl,rfl,.inl ⟨hb20,J'⟩⟩
  ·have hf : b20 = false := by simpa using h1
   subst hf
   injection ho with ho'
   subst ho'
   simp [Region.binds] at hall
   rcases hJ with ⟨_,J⟩ | ⟨hb20,_⟩
   case inr => cases hb20
   have d19 : b19 = true := by simp_all
   obtain ⟨y1,y2,y3,rfl,rfl,d5,d8,d12,d16⟩ := J.q d19
   obtain ⟨g1,k1,rfl,_⟩ := (J.e2 d5).at
   obtain ⟨g2,k2,rfl,_⟩ := (J.f2 d12).at
   obtain ⟨g3,k3,rfl,_⟩ := (J.c2 d16).at
   obtain ⟨aw,cw,am,cm,ak,ck,rfl,rfl,rfl,_⟩ := (J.p d8).pl.2.at
   obtain ⟨r0,r1,r2,r3,r4,r5,r6,r7,r8⟩ := (hR.on J.bel).cells
   have t0 := (hR.on J.bel).thaw 0; have t1 := (hR.on J.bel).thaw 1; have t2 := (hR.on J.bel).thaw 2; have t3 := (hR.on J.bel).thaw 3; have t4 := (hR.on J.bel).thaw 4; have t5 := (hR.on J.bel).thaw 5; have t6 := (hR.on J.bel).thaw 6; have t7 := (hR.on J.bel).thaw 7; have t8 := (hR.on J.bel).thaw 8
   have hS' := HS9.out W (.int .i64 R.now) (.slice g1 R.ents.length k1) (.slice aw R.pol.win.length cw) (.slice am R.pol.main.length cm) (.slice ak R.pol.sk.rows.length ck) (.int .i64 R.pol.sk.added) (.slice g2 R.fes.length k2) (.slice g3 R.cls.length k3) (.int .i64 R.hits) hS
   refine wpOp_skip (w' := (((((((((W.setCell ⟨A + 1, 0,none⟩ (.int .i64 R.now)).setCell ⟨A + 1, 1,none⟩ (.slice g1 R.ents.length k1)).setCell ⟨A + 1, 2,none⟩ (.slice aw R.pol.win.length cw)).setCell ⟨A + 1, 3,none⟩ (.slice am R.pol.main.length cm)).setCell ⟨A + 1, 4,none⟩ (.slice ak R.pol.sk.rows.length ck)).setCell ⟨A + 1, 5,none⟩ (.int .i64 R.pol.sk.added)).setCell ⟨A + 1, 6,none⟩ (.slice g2 R.fes.length k2)).setCell ⟨A + 1, 7,none⟩ (.slice g3 R.cls.length k3)).setCell ⟨A + 1, 8,none⟩ (.int .i64 R.hits))) rfl rfl (by go_simp) ?_
   exact ⟨hS',b2,b5,b8,b9,b12,b13,b16,b19,true,_,_,_,_,_,_,_,_,rfl,rfl,.inr ⟨rfl,W,_,_,_,⟨d19,rfl⟩,J,rfl⟩⟩
 ·rintro s a W ⟨_,b2,b5,b8,b9,b12,b13,b16,b19,b20,x5,x8,x11,x12,x15,x16,x19,x22,rfl,rfl,hJ⟩ hall
  have h20 : b20 = true := by simpa using hall 20 (by simp)
  rcases hJ with ⟨h,_⟩ | ⟨_,W2,y1,y2,y3,⟨h19,rfl⟩,J,rfl⟩
  case inl => rw [h] at h20; cases h20
  obtain ⟨_,_,_,e1,rfl,d5,d8,d12,d16⟩ := J.q h19
  simp only [Value.agg.injEq,Array.mk.injEq,List.cons.injEq,and_true] at e1
  obtain ⟨rfl,rfl,rfl⟩ := e1
  obtain ⟨g1,k1,rfl,_⟩ := (J.e2 d5).at
  obtain ⟨g2,k2,rfl,_⟩ := (J.f2 d12).at
  obtain ⟨g3,k3,rfl,_⟩ := (J.c2 d16).at
  obtain ⟨aw,cw,am,cm,ak,ck,rfl,rfl,rfl,_⟩ := (J.p d8).pl.2.at
  have hR4 := hR.on J.bel
  have hlo : A ≤ w1.heap.size := by omega
  have hPX : PxOwn W2 A W2.heap.size ⟨.slice g1 R.ents.length k1,.slice aw R.pol.win.length cw,.slice am R.pol.main.length cm,.slice ak R.pol.sk.rows.length ck,.slice g2 R.fes.length k2,.slice g3 R.cls.length k3⟩ R := ⟨(J.e2 d5).mono hlo,(J.p d8).mono hlo (Nat.le_refl _),(J.f2 d12).mono hlo,(J.c2 d16).mono hlo,fun k hk => ((J.e2 d5).lt k hk).2,fun k hk => ((J.f2 d12).lt k hk).2,fun k hk => ((J.c2 d16).lt k hk).2⟩
  have HOA : Hid _ := hPX.box hR4 (by unfold PxT; decide) (fun k hk => put9_other W2 (A + 1) (.int .i64 R.now) (.slice g1 R.ents.length k1) (.slice aw R.pol.win.length cw) (.slice am R.pol.main.length cm) (.slice ak R.pol.sk.rows.length ck) (.int .i64 R.pol.sk.added) (.slice g2 R.fes.length k2) (.slice g3 R.cls.length k3) (.int .i64 R.hits) k hk)
  have HBF : Hid _ := Below.put9 (((by rw [← HAA.out]; exact hb1) : Below A w w1).trans (J.bel.mono hlo)) (T := A + 1) (by omega) (.int .i64 R.now) (.slice g1 R.ents.length k1) (.slice aw R.pol.win.length cw) (.slice am R.pol.main.length cm) (.slice ak R.pol.sk.rows.length ck) (.int .i64 R.pol.sk.added) (.slice g2 R.fes.length k2) (.slice g3 R.cls.length k3) (.int .i64 R.hits)
  obtain ⟨q0,q1,q2,q3,q4,q5,q6,q7,q8⟩ := (hR4.put (.int .i64 R.now) (.slice g1 R.ents.length k1) (.slice aw R.pol.win.length cw) (.slice am R.pol.main.length cm) (.slice ak R.pol.sk.rows.length ck) (.int .i64 R.pol.sk.added) (.slice g2 R.fes.length k2) (.slice g3 R.cls.length k3) (.int .i64 R.hits)).cells
  clear hPX J hR4
  try go_wp2_with fail
  refine bodyPost_ret (v := .agg #[.int .i64 R.now,.slice g1 R.ents.length k1,.slice aw R.pol.win.length cw,.slice am R.pol.main.length cm,.slice ak R.pol.sk.rows.length ck,.int .i64 R.pol.sk.added,.slice g2 R.fes.length k2,.slice g3 R.cls.length k3,.int .i64 R.hits]) (by simp [results,Tryz.results43,go_sem,q0,q1,q2,q3,q4,q5,q6,q7,q8]) rfl ⟨⟨.slice g1 R.ents.length k1,.slice aw R.pol.win.length cw,.slice am R.pol.main.length cm,.slice ak R.pol.sk.rows.length ck,.slice g2 R.fes.length k2,.slice g3 R.cls.length k3⟩,rfl, ?_,by rw [HAA.out]; exact HBF.out⟩
  refine PxOwn.mono HOA.out (Nat.le_of_eq HAA.out) ?_
  simp
 ·exact ⟨(hB.on hdf).cells,false,false,false,false,false,false,false,false,false,undef,undef,undef,undef,undef,undef,undef,undef,by kernel_rfl,by kernel_rfl,.inl ⟨rfl,⟨hdf,fun h => (by cases h),fun h => (by cases h),fun h => (by cases h),fun h => (by cases h),fun h => (by cases h),fun h => (by cases h),fun h => (by cases h),fun h => (by cases h),fun h => (by cases h),fun h => (by cases h),fun h => (by cases h)⟩⟩⟩
end Go.Proofs.YtpgcfgbhkodmeaaGreatDoor
