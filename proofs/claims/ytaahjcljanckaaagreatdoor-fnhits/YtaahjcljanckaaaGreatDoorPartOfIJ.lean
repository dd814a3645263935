/- Texts that stand in one: PartOfI, ForgetT, PolSizes2, InsEnt. -/
import Derived.Test.YtaahjcljanckaaaGreatDoorTurnedP
import Derived.Test.YtaahjcljanckaaaGreatDoorHallSetJ
import Derived.Test.YtaahjcljanckaaaGreatDoorHallKitJ
import Derived.Test.YtaahjcljanckaaaGreatDoorSkNewSpecJ
import Derived.Test.YtaahjcljanckaaaGreatDoorEntPlaceJ
import Derived.Test.YtaahjcljanckaaaGreatDoorFilesJ
import Derived.Test.YtaahjcljanckaaaGreatDoorCliLawJ
import Derived.Test.YtaahjcljanckaaaGreatDoorFindPlainJ
import Derived.Test.YtaahjcljanckaaaGreatDoorSkBaseJ
import Derived.Lib.Overlaps
import Derived.Lib.AppendZerosOnto
import Derived.Deep.RegionLaw
import Derived.Deep.AppendLies
namespace Go.Proofs.YtaahjcljanckaaaGreatDoor
open Go.RowKit Go.Sort
set_option maxRecDepth 100000 in
set_option maxHeartbeats 8000000 in
theorem implPartOf_any (w : World) (X : Pc) (R : Prx) (z : Int) (part : ByteArray) (hA : PxAt w X R w.heap.size) (hsz : PxSz R) (hcap : RoomF X.f R.fes.length) (hp : part.size ≤ 1048576) :
  Calls Tryz.prog 9 #[.agg #[.int .i64 R.now,X.e,X.w,X.m,X.k,.int .i64 R.pol.sk.added,X.f,X.c,.int .i64 R.hits],.int .i64 z,.string part] w fun e w' => ∃ Y : Pc,e = .returned (.tuple #[.agg #[.int .i64 (partR R z part).1.now,Y.e,Y.w,Y.m,Y.k,.int .i64 (partR R z part).1.pol.sk.added,Y.f,Y.c,.int .i64 (partR R z part).1.hits],.bool (partR R z part).2]) ∧ PxOwn w' w.heap.size w'.heap.size Y (partR R z part).1 ∧ Below w.heap.size w w' := by
 obtain ⟨e0,e1,p0,p1,m0,m1,k0,k1,f0,f1,c0,c1,rfl⟩ := hA.slices
 dsimp only at hcap ⊢
 obtain ⟨A,hAA⟩ : ∃ A,w.heap.size = A := ⟨_,rfl⟩
 obtain ⟨w0,hw0⟩ : ∃ x,w.alloc (.cells #[.int .i64 R.now,.slice e0 R.ents.length e1,.slice p0 R.pol.win.length p1,.slice m0 R.pol.main.length m1,.slice k0 R.pol.sk.rows.length k1,.int .i64 R.pol.sk.added,.slice f0 R.fes.length f1,.slice c0 R.cls.length c1,.int .i64 R.hits] 36) = x := ⟨_,rfl⟩
 obtain ⟨w1,hw1⟩ : ∃ x,w0.alloc (.cells #[.int .i64 0,.slice none 0 0,.slice none 0 0,.slice none 0 0,.slice none 0 0,.int .i64 0,.slice none 0 0,.slice none 0 0,.int .i64 0] 36) = x := ⟨_,rfl⟩
 have hb0 : Below w.heap.size w w0 := by rw [← hw0]; exact (Below.refl _ _).alloc (Nat.le_refl _) _
 have hb01 : Below w0.heap.size w0 w1 := by rw [← hw1]; exact (Below.refl _ _).alloc (Nat.le_refl _) _
 have s0 : w0.heap.size = A + 1 := by rw [← hw0]; simp [hAA]
 have s1 : w1.heap.size = A + 2 := by rw [← hw1]; simp; omega
 have hb1 : Below w.heap.size w w1 := hb0.trans (hb01.mono hb0.size)
 have hB : NB w1 A 36 (.int .i64 R.now) (.slice e0 R.ents.length e1) (.slice p0 R.pol.win.length p1) (.slice m0 R.pol.main.length m1) (.slice k0 R.pol.sk.rows.length k1) (.int .i64 R.pol.sk.added) (.slice f0 R.fes.length f1) (.slice c0 R.cls.length c1) (.int .i64 R.hits) := by
  have h : NB w0 A 36 (.int .i64 R.now) (.slice e0 R.ents.length e1) (.slice p0 R.pol.win.length p1) (.slice m0 R.pol.main.length m1) (.slice k0 R.pol.sk.rows.length k1) (.int .i64 R.pol.sk.added) (.slice f0 R.fes.length f1) (.slice c0 R.cls.length c1) (.int .i64 R.hits) := by rw [← hw0, ← hAA]; exact NB.new _ _ _ _ _ _ _ _ _ _ _
  exact h.on hb01
 have hR : NB w1 (A + 1) 36 (.int .i64 0) (.slice none 0 0) (.slice none 0 0) (.slice none 0 0) (.slice none 0 0) (.int .i64 0) (.slice none 0 0) (.slice none 0 0) (.int .i64 0) := by rw [← hw1, ← s0]; exact NB.new _ _ _ _ _ _ _ _ _ _ _
 have HW : Hid ((w.alloc (.cells #[.int .i64 R.now,.slice e0 R.ents.length e1,.slice p0 R.pol.win.length p1,.slice m0 R.pol.main.length m1,.slice k0 R.pol.sk.rows.length k1,.int .i64 R.pol.sk.added,.slice f0 R.fes.length f1,.slice c0 R.cls.length c1,.int .i64 R.hits] 36)).alloc (.cells #[.int .i64 0,.slice none 0 0,.slice none 0 0,.slice none 0 0,.slice none 0 0,.int .i64 0,.slice none 0 0,.slice none 0 0,.int .i64 0] 36) = w1) := by show _ = _; rw [hw0]; exact hw1
 have HR1 : Hid (NB w1 (A + 1) 36 (.int .i64 0) (.slice none 0 0) (.slice none 0 0) (.slice none 0 0) (.slice none 0 0) (.int .i64 0) (.slice none 0 0) (.slice none 0 0) (.int .i64 0)) := hR
 have HB1 : Hid (Below A w w1 ∧ w.heap.size = A ∧ w1.heap.size = A + 2) := ⟨by rw [← hAA]; exact hb1,hAA,s1⟩
 have cT := turnedP_any w1 ⟨.slice e0 R.ents.length e1,.slice p0 R.pol.win.length p1,.slice m0 R.pol.main.length m1,.slice k0 R.pol.sk.rows.length k1,.slice f0 R.fes.length f1,.slice c0 R.cls.length c1⟩ R z part (hA.on hb1) hsz hcap hp
 dsimp only at cT
 obtain ⟨r,hr⟩ : ∃ r,(partR R z part) = r := ⟨_,rfl⟩
 obtain ⟨R',b⟩ := r
 rw [hr] at cT ⊢
 dsimp only at cT ⊢
 obtain ⟨b0,b1,b2,b3,b4,b5,b6,b7,b8⟩ := hB.cells
 rw [← hw1, ← hw0] at b0 b1 b2 b3 b4 b5 b6 b7 b8
 clear hw0 hw1 hb0 hb01 s0 hb1 hB hR hA hsz hcap s1 hr
 go_enter Tryz.func9,Tryz.ntmps9
 go_wp2_with fail
 rw [HW.out] at b0 b1 b2 b3 b4 b5 b6 b7 b8 ⊢
 refine cT.mono ?_
 rintro e w5 ⟨Y,he,ho,hb5⟩
 clear cT b0 b1 b2 b3 b4 b5 b6 b7 b8
 obtain ⟨y0,y1,yp0,yp1,ym0,ym1,yk0,yk1,yf0,yf1,yc0,yc1,rfl⟩ := ho.slices
 dsimp only at he
 subst he
 have hR5 := HR1.out.on hb5
 obtain ⟨r0,r1,r2,r3,r4,r5,r6,r7,r8⟩ := hR5.cells
 have t0 := hR5.thaw 0
 have t1 := hR5.thaw 1
 have t2 := hR5.thaw 2
 have t3 := hR5.thaw 3
 have t4 := hR5.thaw 4
 have t5 := hR5.thaw 5
 have t6 := hR5.thaw 6
 have t7 := hR5.thaw 7
 have t8 := hR5.thaw 8
 have HQ : Hid (NB (((((((((w5.setCell ⟨A + 1, 0,none⟩ (.int .i64 R'.now)).setCell ⟨A + 1, 1,none⟩ (.slice y0 R'.ents.length y1)).setCell ⟨A + 1, 2,none⟩ (.slice yp0 R'.pol.win.length yp1)).setCell ⟨A + 1, 3,none⟩ (.slice ym0 R'.pol.main.length ym1)).setCell ⟨A + 1, 4,none⟩ (.slice yk0 R'.pol.sk.rows.length yk1)).setCell ⟨A + 1, 5,none⟩ (.int .i64 R'.pol.sk.added)).setCell ⟨A + 1, 6,none⟩ (.slice yf0 R'.fes.length yf1)).setCell ⟨A + 1, 7,none⟩ (.slice yc0 R'.cls.length yc1)).setCell ⟨A + 1, 8,none⟩ (.int .i64 R'.hits)) (A + 1) 36 (.int .i64 R'.now) (.slice y0 R'.ents.length y1) (.slice yp0 R'.pol.win.length yp1) (.slice ym0 R'.pol.main.length ym1) (.slice yk0 R'.pol.sk.rows.length yk1) (.int .i64 R'.pol.sk.added) (.slice yf0 R'.fes.length yf1) (.slice yc0 R'.cls.length yc1) (.int .i64 R'.hits)) := hR5.put _ _ _ _ _ _ _ _ _
 have HOQ : Hid (PxOwn (((((((((w5.setCell ⟨A + 1, 0,none⟩ (.int .i64 R'.now)).setCell ⟨A + 1, 1,none⟩ (.slice y0 R'.ents.length y1)).setCell ⟨A + 1, 2,none⟩ (.slice yp0 R'.pol.win.length yp1)).setCell ⟨A + 1, 3,none⟩ (.slice ym0 R'.pol.main.length ym1)).setCell ⟨A + 1, 4,none⟩ (.slice yk0 R'.pol.sk.rows.length yk1)).setCell ⟨A + 1, 5,none⟩ (.int .i64 R'.pol.sk.added)).setCell ⟨A + 1, 6,none⟩ (.slice yf0 R'.fes.length yf1)).setCell ⟨A + 1, 7,none⟩ (.slice yc0 R'.cls.length yc1)).setCell ⟨A + 1, 8,none⟩ (.int .i64 R'.hits)) w1.heap.size (((((((((w5.setCell ⟨A + 1, 0,none⟩ (.int .i64 R'.now)).setCell ⟨A + 1, 1,none⟩ (.slice y0 R'.ents.length y1)).setCell ⟨A + 1, 2,none⟩ (.slice yp0 R'.pol.win.length yp1)).setCell ⟨A + 1, 3,none⟩ (.slice ym0 R'.pol.main.length ym1)).setCell ⟨A + 1, 4,none⟩ (.slice yk0 R'.pol.sk.rows.length yk1)).setCell ⟨A + 1, 5,none⟩ (.int .i64 R'.pol.sk.added)).setCell ⟨A + 1, 6,none⟩ (.slice yf0 R'.fes.length yf1)).setCell ⟨A + 1, 7,none⟩ (.slice yc0 R'.cls.length yc1)).setCell ⟨A + 1, 8,none⟩ (.int .i64 R'.hits)).heap.size ⟨.slice y0 R'.ents.length y1,.slice yp0 R'.pol.win.length yp1,.slice ym0 R'.pol.main.length ym1,.slice yk0 R'.pol.sk.rows.length yk1,.slice yf0 R'.fes.length yf1,.slice yc0 R'.cls.length yc1⟩ R') := ((ho.up).box hR5 (by unfold PxT; decide) (fun j hj => put9_other w5 (A + 1) _ _ _ _ _ _ _ _ _ j hj)).up
 have HBQ : Hid (Below A w (((((((((w5.setCell ⟨A + 1, 0,none⟩ (.int .i64 R'.now)).setCell ⟨A + 1, 1,none⟩ (.slice y0 R'.ents.length y1)).setCell ⟨A + 1, 2,none⟩ (.slice yp0 R'.pol.win.length yp1)).setCell ⟨A + 1, 3,none⟩ (.slice ym0 R'.pol.main.length ym1)).setCell ⟨A + 1, 4,none⟩ (.slice yk0 R'.pol.sk.rows.length yk1)).setCell ⟨A + 1, 5,none⟩ (.int .i64 R'.pol.sk.added)).setCell ⟨A + 1, 6,none⟩ (.slice yf0 R'.fes.length yf1)).setCell ⟨A + 1, 7,none⟩ (.slice yc0 R'.cls.length yc1)).setCell ⟨A + 1, 8,none⟩ (.int .i64 R'.hits))) := Below.put9 (HB1.out.1.trans (hb5.mono (by have := HB1.out.2.2; omega))) (T := A + 1) (by omega) _ _ _ _ _ _ _ _ _
 clear hR5 ho hb5
 go_wp2_with fail
 obtain ⟨q0,q1,q2,q3,q4,q5,q6,q7,q8⟩ := HQ.out.cells
 refine bodyPost_ret (v := .tuple #[.agg #[.int .i64 R'.now,.slice y0 R'.ents.length y1,.slice yp0 R'.pol.win.length yp1,.slice ym0 R'.pol.main.length ym1,.slice yk0 R'.pol.sk.rows.length yk1,.int .i64 R'.pol.sk.added,.slice yf0 R'.fes.length yf1,.slice yc0 R'.cls.length yc1,.int .i64 R'.hits],.bool b]) (by simp [results,Tryz.results9,go_sem,q0,q1,q2,q3,q4,q5,q6,q7,q8]) rfl ?_
 refine ⟨⟨.slice y0 R'.ents.length y1,.slice yp0 R'.pol.win.length yp1,.slice ym0 R'.pol.main.length ym1,.slice yk0 R'.pol.sk.rows.length yk1,.slice yf0 R'.fes.length yf1,.slice yc0 R'.cls.length yc1⟩,rfl,HOQ.out.mono (by have := HB1.out; omega) (Nat.le_refl _), ?_⟩
 rw [HB1.out.2.1]
 exact HBQ.out
theorem deleteEnt_in (g : Nat) (lb : Array Value) (p : En → Bool) (eg : ∀ args w,(callFunc g args).run Tryz.prog w = .ok (.enter g args) w) (w : World) (base : Nat) (v : Value) (L : List (En)) (ho : OwnN w base 65 v L) (hm : L.length ≤ 1048576)
  (hp : ∀ (W : World) (x : En),Tch (fun k => v.ownBlock = some k) w W → Calls Tryz.prog g (#[.agg #[.string x.key,.int .i64 x.st,.int .i64 x.lf,.string x.bd]] ++ lb) W fun e w' => e = .returned (.bool (p x)) ∧ Below W.heap.size W w') :
  Calls Tryz.prog 70 #[v,.func (.func g) #[] lb] w fun e w' => ∃ v',e = .returned v' ∧ OwnN w' base 65 v' (keepX p L) ∧ Tch (fun k => v.ownBlock = some k) w w' ∧ (∀ j,v'.ownBlock = some j → v.ownBlock = some j) := by
 rcases ho.2 with ⟨rfl,h0⟩ | ⟨G,c,cur,rfl,_⟩
 ·have hl : L = [] := List.length_eq_zero_iff.1 h0
  subst hl
  have c1 := indexEnt_any g lb p eg w none 0 [] (fun j hj => by simp at hj) (by simp) (fun W x hb => (hp W x (Tch.of_below hb)).mono (by rintro e w' ⟨rfl,h⟩; exact ⟨rfl,hb.trans (h.mono hb.size)⟩))
  go_enter Tryz.func70,Tryz.ntmps70
  go_wp2_with fail
  refine c1.mono ?_
  rintro e w' ⟨rfl,hb⟩
  clear c1
  rw [idxX_miss (fun x hx => by cases hx)]
  go_wp2_with fail
  go_ret
  exact ⟨_,rfl,ho.below hb (Nat.le_refl _),Tch.of_below hb,fun _ h => h⟩
 ·refine (deleteEnt_row g lb p eg w base G c L ho hm (fun W x ht => hp W x (ht.weak (fun k e => by rw [e]; rfl)))).mono ?_
  rintro e w' ⟨n,c',rfl,h1,h2⟩
  exact ⟨_,rfl,h1,h2.weak (fun k e => by rw [e]; rfl),fun _ h => h⟩
theorem delEntT_call (w : World) (base T : Nat) (v : Value) (L : List En) (key : ByteArray) (ho : OwnN w base 65 v L) (hm : L.length ≤ 1048576) (hTb : w.heap[T]? = some (.cells #[.string key] 9 (0, 0))) :
  Calls Tryz.prog 70 #[v,.func (.func 71) #[] #[.pointer (some ⟨T, 0,none⟩)]] w fun e w' => ∃ d0 d1,e = .returned (.slice d0 (offE L key).length d1) ∧ OwnN w' base 65 (.slice d0 (offE L key).length d1) (offE L key) ∧ Tch (fun k => v.ownBlock = some k) w w' ∧ (∀ j,(Value.slice d0 (offE L key).length d1).ownBlock = some j → v.ownBlock = some j) := by
 refine (deleteEnt_in 71 #[.pointer (some ⟨T, 0,none⟩)] (fun e => eqS e.key key) forget1_eg w base v L ho hm (fun W' x ht => forget1_any T x key W' (by
  rw [ht.2 T (Array.getElem?_eq_some_iff.1 hTb).1 (fun e => by
   obtain ⟨cs,hc⟩ := ho.type T e
   rw [hTb] at hc
   simp only [Option.some.injEq,Obj.cells.injEq] at hc
   exact absurd hc.2.1 (by decide))]
  exact hTb))).mono ?_
 rintro e w' ⟨v',rfl,h1,h2,h3⟩
 obtain ⟨d0,d1,rfl,_⟩ := h1.at
 exact ⟨d0,d1,rfl,h1,h2,h3⟩
set_option maxRecDepth 100000 in
set_option maxHeartbeats 8000000 in
theorem hallForgetT_any (w : World) (lo T : Nat) (X : Pc) (R : Prx) (key : ByteArray) (H : HallAt w lo T X R) (hm : R.ents.length ≤ 1048576) :
  Calls Tryz.prog 47 #[.pointer (some ⟨T, 0,none⟩),.string key] w fun e w' => e = .returned (.tuple #[]) ∧ ∃ v',HallAt w' lo T ⟨v',X.w,X.m,X.k,X.f,X.c⟩ ⟨R.now,offE R.ents key,R.pol,R.fes,R.cls,R.hits⟩ ∧ Below lo w w' ∧ Tch (fun j => j = T ∨ X.e.ownBlock = some j) w w' ∧ (∀ j,v'.ownBlock = some j → X.e.ownBlock = some j) := by
 obtain ⟨w1,hw1⟩ : ∃ y,w.alloc (.cells #[.string key] 9) = y := ⟨_,rfl⟩
 have hb1 : Below w.heap.size w w1 := by rw [← hw1]; exact (Below.refl _ _).alloc (Nat.le_refl _) _
 have hK : w1.heap[w.heap.size]? = some (.cells #[.string key] 9 (0, 0)) := by rw [← hw1]; exact heap_alloc_new _ _
 have hlo : lo ≤ w.heap.size := Nat.le_trans H.le (Nat.le_of_lt H.box.lt)
 have hB1 := H.box.on hb1
 have hO1 := H.own.below hb1 (Nat.le_refl _)
 obtain ⟨M,hM⟩ : ∃ M,offE R.ents key = M := ⟨_,rfl⟩
 have c1 := delEntT_call w1 lo w.heap.size X.e R.ents key hO1.e hm hK
 rw [hM] at c1 ⊢
 have y1 := hB1.cells.2.1
 have hmf : ∀ (fn : Fn) (first cap : Array Value) (w : World),(Instr.makeFunc fn first cap).run Tryz.prog w = .ok (.func fn first cap) w := fun _ _ _ _ => rfl
 have HW : Hid (w.alloc (.cells #[.string key] 9) = w1) := hw1
 have HI : Hid (NB w1 T 60 (.int .i64 R.now) X.e X.w X.m X.k (.int .i64 R.pol.sk.added) X.f X.c (.int .i64 R.hits) ∧ PxOwn w1 lo w.heap.size X R ∧ Below lo w w1 ∧ lo ≤ T ∧ Below w.heap.size w w1) := ⟨hB1,hO1,hb1.mono hlo,H.le,hb1⟩
 rw [← hw1] at y1
 clear hw1 hb1 hK hB1 hO1 H hM hlo
 go_enter Tryz.func47,Tryz.ntmps47
 go_wp2_with fail
 rw [HW.out] at y1 ⊢
 refine c1.mono ?_
 rintro e w2 ⟨d0,d1,rfl,hd,ht,hown⟩
 obtain ⟨hB1,hO1,hB0,hle,hbw⟩ := HI.out
 have hB2 := hB1.kept (ht.2 T hB1.lt (fun e => by
  obtain ⟨cs,hc⟩ := hO1.e.type T e
  have h := hB1
  unfold NB at h
  rw [h] at hc
  simp only [Option.some.injEq,Obj.cells.injEq] at hc
  exact absurd hc.2.1 (by decide)))
 have hg : w1.grownBy w2 X.e.ownBlock := ⟨ht.1.os,ht.1.tape,ht.1.output,ht.1.size,fun k hk hn => ht.2 k hk (fun e => hn e.symm)⟩
 have hO2 := hO1.setE hg hd
 have x1 := hB2.cells.2.1
 have xt := hB2.thaw 1
 have HF : Hid (HallAt (w2.setCell ⟨T, 1,none⟩ (.slice d0 M.length d1)) lo T ⟨.slice d0 M.length d1,X.w,X.m,X.k,X.f,X.c⟩ ⟨R.now,M,R.pol,R.fes,R.cls,R.hits⟩ ∧ Below lo w (w2.setCell ⟨T, 1,none⟩ (.slice d0 M.length d1)) ∧ Tch (fun j => j = T ∨ X.e.ownBlock = some j) w (w2.setCell ⟨T, 1,none⟩ (.slice d0 M.length d1))) :=
  ⟨⟨hB2.set1 _,(hO2.box hB2 (by unfold PxT; decide) (fun k hk => Below.heap_setCell _ _ _ _ (by exact hk))).up,hle⟩,(Tch.below hB0 ht (Nat.le_trans hle (Nat.le_of_lt hB1.lt)) (fun k hk => (hO1.e.lt k hk).1)).setCell hle _,((Tch.of_below hbw).trans (ht.weak fun j hj => .inr hj)).trans ((tch_setV (v := .slice (some ⟨T, 0,none⟩) 0 0) (G := T) (i := 1) (u := .slice d0 M.length d1) rfl (Tch.of_below (Below.refl _ _))).weak (fun b hb => .inl (Option.some.inj hb).symm))⟩
 have HOW : Hid (∀ j,(Value.slice d0 M.length d1).ownBlock = some j → X.e.ownBlock = some j) := hown
 clear hB1 hO1 hB0 hle hbw hB2 hg hO2 hd ht y1 c1 HI hown
 go_wp2_with fail
 exact bodyPost_end (results_none rfl _ _ _) rfl ⟨rfl,_,HF.out.1,HF.out.2.1,HF.out.2.2,HOW.out⟩
end Go.Proofs.YtaahjcljanckaaaGreatDoor
namespace Go.Proofs.YtaahjcljanckaaaGreatDoor
open Go.RowKit
theorem touchP_sz {P : Pol} (key : ByteArray) (h : PolSz P) : PolSz (touchP P key).1 := by
 by_cases h1 : okP P = true
 ·by_cases h2 : keyOk key = true
  ·exact okP_sz (touchP_right h1 h2).1
  ·unfold touchP
   rw [if_neg (by simp [h2])]
   exact h
 ·unfold touchP
  rw [if_neg (by simp [h1])]
  exact h
end Go.Proofs.YtaahjcljanckaaaGreatDoor
namespace Go.Proofs.YtaahjcljanckaaaGreatDoor
open Go.RowKit Go.Sort
theorem enl_takeI (L : List (En)) (i : Nat) : (enl L).take (i * 4) = enl (L.take i) := by
 induction L generalizing i with
 | nil => simp [enl]
 | cons f L ih =>
  cases i with
  | zero => simp [enl]
  | succ i =>
   rw [enl_cons,show (i + 1) * 4 = i * 4 + 1 + 1 + 1 + 1 by omega]
   simp only [En.cells,List.cons_append,List.take_succ_cons,List.nil_append,enl_cons,ih]
theorem enl_dropI (L : List (En)) (i : Nat) : (enl L).drop (i * 4) = enl (L.drop i) := by
 induction L generalizing i with
 | nil => simp [enl]
 | cons f L ih =>
  cases i with
  | zero => simp
  | succ i =>
   rw [enl_cons,show (i + 1) * 4 = i * 4 + 1 + 1 + 1 + 1 by omega]
   simp only [En.cells,List.cons_append,List.drop_succ_cons,List.nil_append,ih]
theorem enl_appendI (A B : List (En)) : enl (A ++ B) = enl A ++ enl B := by simp [enl]
set_option maxHeartbeats 4000000 in
set_option maxRecDepth 100000 in
theorem insertEnt_end (w : World) (base : Nat) (v : Value) (L : List (En)) (f : En) (vb : Nat) (ho : OwnN w base 65 v L) (hbase : base ≤ w.heap.size) (hm : L.length ≤ 1048577)
  (hV : w.heap[vb]? = some (.cells #[.string f.key,.int .i64 f.st,.int .i64 f.lf,.string f.bd] 65 (0, 0))) :
  Calls Tryz.prog 97 #[v,.int .i64 L.length,.slice (some ⟨vb, 0,none⟩) 1 1] w fun e w' => ∃ v',e = .returned v' ∧ OwnN w' base 65 v' (L ++ [f]) ∧ Tch (fun k => v.ownBlock = some k) w w' := by
 have hsrc : ∀ j u,(enl [f])[j]? = some u → w.cell? ((⟨vb, 0,none⟩ : Addr).add j) = some u := fun j u hu => World.news_of_block hV j u (by simpa [enl,En.cells] using hu)
 obtain ⟨i0,hi,hz0,hz1,hz2⟩ := info_parts Tryz.infoEn
 have hone : ∀ u ∈ enl [f],u.oneCell' = true := enl_one [f]
 have hlt : ∀ k,v.ownBlock = some k → base ≤ k := fun k hk => (ho.lt k hk).1
 obtain ⟨a,cap,rfl,hP⟩ := ho.at
 have hn : (L.length : Int) ≤ 1048577 := by omega
 have HO : Hid (OwnN w base 65 (.slice a L.length cap) L) := ho
 have hcap : L.length ≤ cap := by
  rcases ho.2 with ⟨e,h0⟩ | ⟨g,cp,cur,e,_,_,h1,_⟩
  ·simp only [Value.slice.injEq] at e; omega
  ·simp only [Value.slice.injEq] at e; omega
 clear ho hV hP
 go_enter Tryz.func97,Tryz.ntmps97
 go_wp2_with (at_builtin; refine wpList_append_own _ rfl _ _ 26 rfl base 65 i0 _ 4 48 Tryz.underlying26 hi hz0 hz1 hz2 rfl (by decide) _ L.length (enl L) rfl HO.out ⟨vb, 0,none⟩ 1 1 (enl [f]) rfl rfl hsrc hone (by unfold maxLen; omega) (by omega) hbase ?_; intro v' w' h1 h2 _)
 all_goals (
  go_ret
  refine ⟨_,rfl, ?_,Tch.of_grown (row := (Value.slice a L.length cap).ownBlock) h2 (fun k e => by cases a <;> exact e)⟩
  unfold OwnN
  rw [enl_appendI,List.length_append,List.length_singleton]
  exact h1)
theorem ins_spliceEnt {α : Type} (X D F : List α) (o m : Nat) (hF : F.length = m) (hX : o + m + D.length ≤ X.length) : (splice (splice X (o + m) D) o F).take (o + m + D.length) = X.take o ++ F ++ D := by
 subst hF
 unfold splice
 have e1 : (X.take (o + F.length) ++ (D ++ X.drop (o + F.length + D.length))).take o = X.take o := by
  rw [List.take_append_of_le_length (by simp; omega),List.take_take,Nat.min_eq_left (by omega)]
 have e2 : (X.take (o + F.length) ++ (D ++ X.drop (o + F.length + D.length))).drop (o + F.length) = D ++ X.drop (o + F.length + D.length) := by
  rw [List.drop_append_of_le_length (by simp; omega),List.drop_of_length_le (by simp; omega),List.nil_append]
 rw [e1,e2, ← List.append_assoc, ← List.append_assoc,List.take_append_of_le_length (by simp; omega)]
 exact List.take_of_length_le (by simp; omega)
theorem ins_spliceEnt' {α : Type} (X D F : List α) (o m : Nat) (hF : F.length = m) (hX : o + m + D.length ≤ X.length) : (splice (splice X o F) (o + m) D).take (o + m + D.length) = X.take o ++ F ++ D := by
 subst hF
 unfold splice
 have e1 : (X.take o ++ (F ++ X.drop (o + F.length))).take (o + F.length) = X.take o ++ F := by
  rw [← List.append_assoc,List.take_append_of_le_length (by simp; omega)]
  exact List.take_of_length_le (by simp; omega)
 rw [e1, ← List.append_assoc,List.take_append_of_le_length (by simp; omega)]
 exact List.take_of_length_le (by simp; omega)
theorem row_srcEnt {w : World} {g : Nat} {cur : List Value} {t : TypeId} {fr : Nat × Nat} (hg : w.heap[g]? = some (.cells cur.toArray t fr)) (L : List (En)) (hL : cur.take (L.length * 4) = enl L) (i : Nat) (hi : i ≤ L.length) :
  ∀ j v,(enl (L.drop i))[j]? = some v → w.cell? ((⟨g,i * 4,none⟩ : Addr).add j) = some v := by
 intro j v hj
 rw [Addr.add_mid]
 have hlt := (List.getElem?_eq_some_iff.1 hj).1
 rw [enl_length,List.length_drop] at hlt
 rw [← enl_dropI, ← hL,List.getElem?_drop,List.getElem?_take,if_pos (by omega)] at hj
 simp [World.cell?,hg,hj]
theorem Tryz.sizeEnt : (Tryz.prog.info? 65).map (·.size) = some 4 := by kernel_rfl
theorem overEnt (w : World) (vb g : Nat) (hne : vb ≠ g) (vcur cur : List Value) (hV : w.heap[vb]? = some (.cells vcur.toArray 65 (0, 0))) (hG : w.heap[g]? = some (.cells cur.toArray 65 (0, 0))) (h0 : cur.length ≠ 0) (m vc o lb cb : Nat) :
  (callFunc 102 #[.slice (some ⟨vb, 0,none⟩) m vc,.slice (some ⟨g,o,none⟩) lb cb]).run Tryz.prog w = .ok (.value (.bool false)) w := by
 rw [run_callFunc_extern Tryz.func102 (by kernel_rfl) (by kernel_rfl) (by kernel_rfl) (e := Extern.SlicesOverlaps.overlaps #[26, 26] #[4]) (by kernel_rfl),
  Lib.run_overlaps_apart w 26 4 65 Tryz.underlying26 4 (by intro w; kernel_rfl) ⟨vb, 0,none⟩ ⟨g,o,none⟩ m vc lb cb hne 65 65 vcur.length cur.length (by simp [World.shape?,hV]) (by simp [World.shape?,hG]) h0 (by simp [World.frozen?,hV]) (by simp [World.frozen?,hV])]
 rfl
set_option maxHeartbeats 4000000 in
set_option maxRecDepth 100000 in
theorem insertEnt_room (w : World) (base g cap i : Nat) (L : List (En)) (f : En) (vb : Nat) (cur : List Value) (hg : w.heap[g]? = some (.cells cur.toArray 65 (0, 0))) (hcur : cur.length = cap * 4) (htk : cur.take (L.length * 4) = enl L)
  (hcap : cap ≤ maxLen) (hbg : base ≤ g) (hroom : L.length + 1 ≤ cap) (hi : i < L.length)
  (hV : w.heap[vb]? = some (.cells #[.string f.key,.int .i64 f.st,.int .i64 f.lf,.string f.bd] 65 (0, 0))) (hne : vb ≠ g) :
  Calls Tryz.prog 97 #[.slice (some ⟨g, 0,none⟩) L.length cap,.int .i64 i,.slice (some ⟨vb, 0,none⟩) 1 1] w fun e w' => ∃ v',e = .returned v' ∧ OwnN w' base 65 v' (L.take i ++ f :: L.drop i) ∧ Tch (fun k => k = g) w w' := by
 have hov := overEnt w vb g hne [.string f.key,.int .i64 f.st,.int .i64 f.lf,.string f.bd] cur hV hg (by omega) 1 1
 have hsrc1 : Hid (∀ (wi : World),wi.heap[g]? = w.heap[g]? → ∀ j v,(enl (L.drop i))[j]? = some v → wi.cell? ((⟨g,i * 4,none⟩ : Addr).add j) = some v) := fun wi h => row_srcEnt (h.trans hg) L htk i (by omega)
 have hsrc2 : Hid (∀ (wi : World),wi.heap[vb]? = w.heap[vb]? → ∀ j v,(enl [f])[j]? = some v → wi.cell? ((⟨vb, 0,none⟩ : Addr).add j) = some v) := fun wi h j u hu => World.news_of_block (h.trans hV) j u (by simpa [enl,En.cells] using hu)
 have HG : Hid (w.heap[g]? = some (.cells cur.toArray 65 (0, 0)) ∧ cur.length = cap * 4 ∧ cur.take (L.length * 4) = enl L) := ⟨hg,hcur,htk⟩
 obtain ⟨D,hD⟩ : ∃ D,enl (L.drop i) = D := ⟨_,rfl⟩
 obtain ⟨F,hF⟩ : ∃ F,enl [f] = F := ⟨_,rfl⟩
 have hDl : Hid (D.length = (L.length - i) * 4) := by show _ = _; rw [← hD,enl_length,List.length_drop]
 have hFl : Hid (F.length = 4) := by show _ = _; rw [← hF]; rfl
 have hD1 : Hid (∀ v ∈ D,v.oneCell' = true) := by show ∀ v ∈ D,_; rw [← hD]; exact enl_one _
 have hF1 : Hid (∀ v ∈ F,v.oneCell' = true) := by show ∀ v ∈ F,_; rw [← hF]; exact enl_one _
 rw [hD] at hsrc1
 rw [hF] at hsrc2
 have HD : Hid (enl (L.drop i) = D ∧ enl [f] = F) := ⟨hD,hF⟩
 obtain ⟨n,hn⟩ : ∃ n,L.length = n := ⟨_,rfl⟩
 have HN : Hid (L.length = n) := hn
 rw [hn] at hroom hi hDl HG ⊢
 clear hg hcur htk hV hD hF hn
 have hc1 : (cap : Int) ≤ 9223372036854775807 := by unfold maxLen at hcap; omega
 have hz2 : ¬ ((i : Int) = (n : Int)) := by omega
 have hw1 : IntKind.i64.wrap ((i : Int) + 1) = (i : Int) + 1 := by rw [IntKind.wrap_i64]; omega
 have hw2 : IntKind.i64.wrap ((n : Int) + 1) = (n : Int) + 1 := by rw [IntKind.wrap_i64]; omega
 have hz3 : ¬ ((cap : Int) < (n : Int) + 1) := by omega
 have htn : ((i : Int) + 1).toNat = i + 1 := by omega
 have htn2 : ((n : Int) + 1).toNat = n + 1 := by omega
 have hb1 : (0 : Int) ≤ (i : Int) + 1 := by omega
 have hb2 : ¬ (cap = i + 1) := by omega
 have hb3 : (i : Int) ≤ (n : Int) + 1 := by omega
 have hb4 : ¬ (cap = i) := by omega
 have hb5 : (i : Int) + 1 ≤ (n : Int) + 1 := by omega
 have hb6 : (0 : Int) ≤ (n : Int) + 1 := by omega
 have hb7 : (n : Int) + 1 ≤ (cap : Int) := by omega
 have hin : i ≤ n := by omega
 go_enter Tryz.func97,Tryz.ntmps97
 go_wp2_with (simp only [hov])
 go_region_law (refine step_copy_spliceN rfl (.tmp 73) (.tmp 76) 26 26 rfl 65 4 Tryz.underlying26 Tryz.sizeEnt (n - i) (cap - (i + 1)) (n + 1 - i) (cap - i) g ((i + 1) * 4) ⟨g,i * 4,none⟩ (by simp [Act.eval,Act.put]) (by simp [Act.eval,Act.put]) cur 65 HG.out.1 D (by rw [hDl.out]; simp only [Nat.min_def]; split <;> omega) (hsrc1.out _ rfl) (by rw [hDl.out,HG.out.2.1]; omega) hD1.out base w ⟨rfl,rfl,rfl,Nat.le_refl _,fun _ _ => rfl⟩ hbg ?_; intro w1 hW1 hB1)
 go_wp2_with (refine wpList_copy_spliceN rfl (.tmp 80) (.tmp 81) 26 26 rfl 65 4 Tryz.underlying26 Tryz.sizeEnt (n + 1 - i) (cap - i) 1 1 g (i * 4) ⟨vb, 0,none⟩ rfl rfl (splice cur ((i + 1) * 4) D) 65 hW1.out.1 F (by rw [hFl.out]; simp only [Nat.min_def]; split <;> omega) (hsrc2.out _ (hW1.out.2 _ hne)) (by rw [length_splice _ _ _ (by rw [hDl.out,HG.out.2.1]; omega),hFl.out,HG.out.2.1]; omega) hF1.out base w hB1 hbg ?_; intro w2 hW2 hB2)
 go_ret
 refine ⟨_,rfl, ?_,⟨hB2.mono (Nat.zero_le _),fun k _ hn => (hW2.out.2 k hn).trans (hW1.out.2 k hn)⟩⟩
 have hl1 : (splice cur ((i + 1) * 4) D).length = cap * 4 := by rw [length_splice _ _ _ (by rw [hDl.out,HG.out.2.1]; omega),HG.out.2.1]
 have hl2 : (splice (splice cur ((i + 1) * 4) D) (i * 4) F).length = cap * 4 := by rw [length_splice _ _ _ (by rw [hl1,hFl.out]; omega),hl1]
 have hLn : (L.take i ++ f :: L.drop i).length = n + 1 := by have := HN.out; simp; omega
 refine ⟨by rw [enl_length],.inr ⟨g,cap,(splice (splice cur ((i + 1) * 4) D) (i * 4) F).toArray,by rw [hLn]; rfl,hbg,hW2.out.1,by omega,hcap,by simpa using hl2, ?_⟩⟩
 have e := ins_spliceEnt cur D F (i * 4) 4 hFl.out (by rw [hDl.out,HG.out.2.1]; omega)
 rw [show (i + 1) * 4 = i * 4 + 4 by omega,hLn,show (n + 1) * 4 = i * 4 + 4 + D.length by rw [hDl.out]; omega]
 show List.take _ (splice (splice cur (i * 4 + 4) D) (i * 4) F) = _
 rw [e, ← HD.out.1, ← HD.out.2,show cur.take (i * 4) = enl (L.take i) by rw [← enl_takeI, ← HG.out.2.2,List.take_take,Nat.min_eq_left (by omega)]]
 rw [show L.take i ++ f :: L.drop i = L.take i ++ [f] ++ L.drop i by simp,enl_appendI,enl_appendI]
set_option maxHeartbeats 4000000 in
set_option maxRecDepth 100000 in
theorem insertEnt_grow (w : World) (base g cap i : Nat) (L : List (En)) (f : En) (vb : Nat) (cur : List Value) (hg : w.heap[g]? = some (.cells cur.toArray 65 (0, 0))) (htk : cur.take (L.length * 4) = enl L)
  (hnc : L.length ≤ cap) (hroom : cap < L.length + 1) (hi : i < L.length) (hm : L.length ≤ 1048577) (hbase : base ≤ w.heap.size)
  (hV : w.heap[vb]? = some (.cells #[.string f.key,.int .i64 f.st,.int .i64 f.lf,.string f.bd] 65 (0, 0))) :
  Calls Tryz.prog 97 #[.slice (some ⟨g, 0,none⟩) L.length cap,.int .i64 i,.slice (some ⟨vb, 0,none⟩) 1 1] w fun e w' => ∃ v',e = .returned v' ∧ OwnN w' base 65 v' (L.take i ++ f :: L.drop i) ∧ Below w.heap.size w w' := by
 have hgs : g < w.heap.size := (Array.getElem?_eq_some_iff.1 hg).1
 have hvs : vb < w.heap.size := (Array.getElem?_eq_some_iff.1 hV).1
 obtain ⟨i0,hi0,hz0,hzs,hzb⟩ := info_parts Tryz.infoEn
 have hsrc1 : Hid (∀ (wi : World),wi.heap[g]? = w.heap[g]? → ∀ j v,(enl (L.drop i))[j]? = some v → wi.cell? ((⟨g,i * 4,none⟩ : Addr).add j) = some v) := fun wi h => row_srcEnt (h.trans hg) L htk i (by omega)
 have hsrc2 : Hid (∀ (wi : World),wi.heap[vb]? = w.heap[vb]? → ∀ j v,(enl [f])[j]? = some v → wi.cell? ((⟨vb, 0,none⟩ : Addr).add j) = some v) := fun wi h j u hu => World.news_of_block (h.trans hV) j u (by simpa [enl,En.cells] using hu)
 have hold : (Builtin.firstCells i0.size i (.slice (some ⟨g, 0,none⟩) i cap)).run Tryz.prog w.drew = .ok (enl (L.take i)).toArray w.drew := by
  rw [hzs]
  exact run_firstCells_some w.drew 4 i ⟨g, 0,none⟩ i cap (enl (L.take i)) (by rw [enl_length,List.length_take]; omega) (fun j v hj => by
   have h0 := row_srcEnt (w := w.drew) hg L htk 0 (by omega) j v (by
    have hl := (List.getElem?_eq_some_iff.1 hj).1
    rw [← enl_takeI,List.getElem?_take] at hj
    split at hj
    ·exact hj
    ·cases hj)
   simpa using h0)
 obtain ⟨D,hD⟩ : ∃ D,enl (L.drop i) = D := ⟨_,rfl⟩
 obtain ⟨F,hF⟩ : ∃ F,enl [f] = F := ⟨_,rfl⟩
 have hDl : Hid (D.length = (L.length - i) * 4) := by show _ = _; rw [← hD,enl_length,List.length_drop]
 have hFl : Hid (F.length = 4) := by show _ = _; rw [← hF]; rfl
 have hD1 : Hid (∀ v ∈ D,v.oneCell' = true) := by show ∀ v ∈ D,_; rw [← hD]; exact enl_one _
 have hF1 : Hid (∀ v ∈ F,v.oneCell' = true) := by show ∀ v ∈ F,_; rw [← hF]; exact enl_one _
 rw [hD] at hsrc1
 rw [hF] at hsrc2
 have HD : Hid (enl (L.drop i) = D ∧ enl [f] = F) := ⟨hD,hF⟩
 obtain ⟨n,hn⟩ : ∃ n,L.length = n := ⟨_,rfl⟩
 have HN : Hid (L.length = n) := hn
 rw [hn] at hnc hroom hi hDl hm ⊢
 have hkk : (n : Int) + 1 - (i : Int) = ((n + 1 - i : Nat) : Int) := by omega
 have hik : i + (n + 1 - i) = n + 1 := by omega
 obtain ⟨G,hG⟩ : ∃ G,G = grownCap w (n + 1) cap 65 := ⟨_,rfl⟩
 obtain ⟨ROW,hROW⟩ : ∃ ROW : Array Value,ROW = (enl (L.take i)).toArray ++ Builtin.zeroCells (Value.agg #[.string ⟨#[]⟩,.int .i64 0,.int .i64 0,.string ⟨#[]⟩]).cells (n + 1 - i) ++ Builtin.zeroCells (Value.agg #[.string ⟨#[]⟩,.int .i64 0,.int .i64 0,.string ⟨#[]⟩]).cells (G - (n + 1)) := ⟨_,rfl⟩
 have hGn : n + 1 ≤ G := by rw [hG]; exact grownCap_ge w _ _ _
 have hG63 : G ≤ maxLen := by rw [hG]; exact grownCap_le_maxLen w (n + 1) cap 65 (by unfold maxLen; omega)
 have hRl : ROW.toList.length = G * 4 := by
  have hzl : ∀ k,(Builtin.zeroCells (Value.agg #[.string ⟨#[]⟩,.int .i64 0,.int .i64 0,.string ⟨#[]⟩]).cells k).size = k * 4 := fun k => by simp [Builtin.zeroCells,Value.cells]
  rw [hROW,Array.length_toList,Array.size_append,Array.size_append,hzl,hzl,List.size_toArray,enl_length,List.length_take]
  omega
 have hRt : ROW.toList.take (i * 4) = enl (L.take i) := by
  rw [hROW]
  simp only [Array.toList_append]
  rw [List.append_assoc,List.take_append_of_le_length (by rw [enl_length,List.length_take]; omega)]
  exact List.take_of_length_le (by rw [enl_length,List.length_take]; omega)
 have hrz : ∀ ty,(Builtin.append_ #[26, 3] ty #[.slice (some ⟨g, 0,none⟩) i cap,.int .i64 ((n : Int) + 1 - (i : Int))]).run Tryz.prog w =
   .ok (.slice (some ⟨w.heap.size, 0,none⟩) (n + 1) G) (w.drew.alloc (.cells ROW 65)) := fun ty => by
  have h := Lib.run_append_grow_zeros w 26 3 ty 65 i0 _ .i64 .i64 Tryz.underlying26 Tryz.underlying3 hi0 hz0 (some ⟨g, 0,none⟩) i cap (enl (L.take i)) hold (n + 1 - i) (by omega) (by omega) (by omega) (by omega) (by rw [hzb]; omega) (by rw [hzb,hik]; exact growslice_fits hroom (by omega))
  rw [hik] at h
  rw [hkk,hROW,hG]
  exact h
 obtain ⟨W1,hW1⟩ : ∃ W1,w.drew.alloc (.cells ROW 65) = W1 := ⟨_,rfl⟩
 rw [hW1] at hrz
 have HW : Hid (W1.heap[w.heap.size]? = some (.cells ROW.toList.toArray 65 (0, 0)) ∧ W1.heap[g]? = w.heap[g]? ∧ W1.heap[vb]? = w.heap[vb]? ∧ Below w.heap.size w W1) := by
  rw [← hW1]
  refine ⟨by rw [Array.toArray_toList]; exact heap_alloc_new w.drew _,Below.heap_alloc w.drew _ _ hgs,Below.heap_alloc w.drew _ _ hvs, ?_⟩
  exact (show Below w.heap.size w w.drew from ⟨rfl,rfl,rfl,Nat.le_refl _,fun _ _ => rfl⟩).alloc (Nat.le_refl _) _
 obtain ⟨S,hS⟩ : ∃ S,w.heap.size = S := ⟨_,rfl⟩
 rw [hS] at hrz HW hbase hgs hvs
 have HR : Hid (ROW.toList.length = G * 4 ∧ ROW.toList.take (i * 4) = enl (L.take i)) := ⟨hRl,hRt⟩
 clear hg htk hV hD hF hn hold hROW hG hRl hRt hW1 hkk hik
 have hc1 : (G : Int) ≤ 9223372036854775807 := by unfold maxLen at hG63; omega
 have hz2 : ¬ ((i : Int) = (n : Int)) := by omega
 have hw1 : IntKind.i64.wrap ((i : Int) + 1) = (i : Int) + 1 := by rw [IntKind.wrap_i64]; omega
 have hw2 : IntKind.i64.wrap ((n : Int) + 1) = (n : Int) + 1 := by rw [IntKind.wrap_i64]; omega
 have hw3 : IntKind.i64.wrap ((n : Int) + 1 - (i : Int)) = (n : Int) + 1 - (i : Int) := by rw [IntKind.wrap_i64]; omega
 have hz3 : (cap : Int) < (n : Int) + 1 := by omega
 have htn : ((i : Int) + 1).toNat = i + 1 := by omega
 have hb1 : (0 : Int) ≤ (i : Int) + 1 := by omega
 have hb2 : ¬ (G = i + 1) := by omega
 have hb3 : (i : Int) ≤ (n : Int) + 1 := by omega
 have hb4 : ¬ (G = i) := by omega
 have hb8 : ¬ (cap = i) := by omega
 have hb5 : (i : Int) + 1 ≤ (n : Int) + 1 := by omega
 have hic : (i : Int) ≤ (cap : Int) := by omega
 have hin : i ≤ n := by omega
 have hin' : (i : Int) ≤ (n : Int) := by omega
 have hne1 : g ≠ S := by omega
 have hne2 : vb ≠ S := by omega
 go_enter Tryz.func97,Tryz.ntmps97
 go_wp2_with (first | (at_builtin; refine Lib.wpList_append_run _ rfl _ _ _ _ rfl _ _ rfl rfl _ _ (hrz _) ?_) | (refine wpList_copy_spliceN rfl (.tmp 43) (.tmp 44) 26 26 rfl 65 4 Tryz.underlying26 Tryz.sizeEnt (n + 1 - i) (G - i) 1 1 S (i * 4) ⟨vb, 0,none⟩ rfl rfl ROW.toList 65 HW.out.1 F (by rw [hFl.out]; simp only [Nat.min_def]; split <;> omega) (hsrc2.out _ HW.out.2.2.1) (by rw [HR.out.1,hFl.out]; omega) hF1.out S w HW.out.2.2.2 (Nat.le_refl _) ?_; intro w1 hC1 hB1))
 go_region_law (refine step_copy_spliceN rfl (.tmp 50) (.tmp 53) 26 26 rfl 65 4 Tryz.underlying26 Tryz.sizeEnt (n - i) (G - (i + 1)) (n - i) (cap - i) S ((i + 1) * 4) ⟨g,i * 4,none⟩ (by simp [Act.eval,Act.put]) (by simp [Act.eval,Act.put]) (splice ROW.toList (i * 4) F) 65 hC1.out.1 D (by rw [hDl.out]; simp only [Nat.min_def]; split <;> omega) (hsrc1.out _ ((hC1.out.2 _ hne1).trans HW.out.2.1)) (by rw [length_splice _ _ _ (by rw [HR.out.1,hFl.out]; omega),hDl.out,HR.out.1]; omega) hD1.out S w (hB1.trans ⟨rfl,rfl,rfl,Nat.le_refl _,fun _ _ => rfl⟩) (Nat.le_refl _) ?_; intro w2 hC2 hB2)
 go_wp2
 go_ret
 refine ⟨_,rfl, ?_,by rw [hS]; exact hB2⟩
 have hl1 : (splice ROW.toList (i * 4) F).length = G * 4 := by rw [length_splice _ _ _ (by rw [HR.out.1,hFl.out]; omega),HR.out.1]
 have hl2 : (splice (splice ROW.toList (i * 4) F) ((i + 1) * 4) D).length = G * 4 := by rw [length_splice _ _ _ (by rw [hl1,hDl.out]; omega),hl1]
 have hLn : (L.take i ++ f :: L.drop i).length = n + 1 := by have := HN.out; simp; omega
 refine ⟨by rw [enl_length],.inr ⟨S,G,(splice (splice ROW.toList (i * 4) F) ((i + 1) * 4) D).toArray,by rw [hLn]; rfl,hbase,hC2.out.1,by omega,hG63,by simpa using hl2, ?_⟩⟩
 have e := ins_spliceEnt' ROW.toList D F (i * 4) 4 hFl.out (by rw [hDl.out,HR.out.1]; omega)
 rw [show (i + 1) * 4 = i * 4 + 4 by omega,hLn,show (n + 1) * 4 = i * 4 + 4 + D.length by rw [hDl.out]; omega]
 show List.take _ (splice (splice ROW.toList (i * 4) F) (i * 4 + 4) D) = _
 rw [e, ← HD.out.1, ← HD.out.2,HR.out.2]
 rw [show L.take i ++ f :: L.drop i = L.take i ++ [f] ++ L.drop i by simp,enl_appendI,enl_appendI]
theorem insertEnt_any (w : World) (base : Nat) (v : Value) (L : List (En)) (i : Nat) (f : En) (vb : Nat) (ho : OwnN w base 65 v L) (hbase : base ≤ w.heap.size) (hm : L.length ≤ 1048577) (hi : i ≤ L.length)
  (hV : w.heap[vb]? = some (.cells #[.string f.key,.int .i64 f.st,.int .i64 f.lf,.string f.bd] 65 (0, 0))) (hne : v.ownBlock ≠ some vb) :
  Calls Tryz.prog 97 #[v,.int .i64 i,.slice (some ⟨vb, 0,none⟩) 1 1] w fun e w' => ∃ v',e = .returned v' ∧ OwnN w' base 65 v' (L.take i ++ f :: L.drop i) ∧ Tch (fun k => v.ownBlock = some k) w w' := by
 by_cases he : i = L.length
 ·subst he
  have := insertEnt_end w base v L f vb ho hbase hm hV
  simpa using this
 ·rcases ho.2 with ⟨_,h0⟩ | ⟨g,cap,cur,rfl,hb,hg,h1,h2,h3,h4⟩
  ·omega
  ·have hg' : w.heap[g]? = some (.cells cur.toList.toArray 65 (0, 0)) := by simpa using hg
   by_cases hr : L.length + 1 ≤ cap
   ·exact (insertEnt_room w base g cap i L f vb cur.toList hg' (by simpa using h3) h4 h2 hb hr (by omega) hV (fun e => hne (by rw [e]; rfl))).mono (fun e w' h => by obtain ⟨v',he,ho',ht⟩ := h; exact ⟨v',he,ho',ht.weak (fun k e => by rw [e]; rfl)⟩)
   ·exact (insertEnt_grow w base g cap i L f vb cur.toList hg' h4 h1 (by omega) (by omega) hm hbase hV).mono (fun e w' h => by obtain ⟨v',he,ho',ht⟩ := h; exact ⟨v',he,ho',Tch.of_below ht⟩)
end Go.Proofs.YtaahjcljanckaaaGreatDoor
