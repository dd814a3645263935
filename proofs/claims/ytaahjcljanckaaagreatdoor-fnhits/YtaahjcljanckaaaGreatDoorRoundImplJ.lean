/- Texts that stand in one: RoundImpl, PassTime. -/
import Derived.Test.YtaahjcljanckaaaGreatDoorCellPlainJ
import Derived.Test.YtaahjcljanckaaaGreatDoorSkBaseJ
import Derived.Test.YtaahjcljanckaaaGreatDoorPrxCopyI
import Derived.Test.YtaahjcljanckaaaGreatDoorL16Copy
namespace Go.Proofs.YtaahjcljanckaaaGreatDoor
open Go.RowKit
theorem roundP_gen (n m : Int) (h0 : 0 < m) (h1 : m ≤ 1000000001) : (wrap64 (n.tmod m + m)).tmod m = n % m := by
 have hw : ∀ x : Int, -m < x → x < m → wrap64 (x + m) = x + m := by
  intro x h2 h3
  unfold wrap64
  omega
 by_cases hn : 0 ≤ n
 ·have h2 := Int.emod_nonneg n (show m ≠ 0 by omega)
  have h3 := Int.emod_lt_of_pos n h0
  rw [Int.tmod_eq_emod_of_nonneg hn,hw _ (by omega) h3,Int.tmod_eq_emod_of_nonneg (by omega),Int.add_emod_right,Int.emod_emod]
 ·have h2 := Int.emod_nonneg (-n) (show m ≠ 0 by omega)
  have h3 := Int.emod_lt_of_pos (-n) h0
  have e : n.tmod m = -((-n) % m) := by rw [← Int.tmod_eq_emod_of_nonneg (show 0 ≤ -n by omega),Int.neg_tmod,Int.neg_neg]
  rw [e,hw _ (by omega) (by omega),Int.tmod_eq_emod_of_nonneg (by omega),Int.add_emod_right]
  have e1 := Int.emod_add_mul_ediv (-n) m
  rw [show -(-n % m) = n + m * (-n / m) by omega,Int.add_mul_emod_self_left]
theorem inRoundP_any (n m : Int) (h0 : 0 < m) (h1 : m ≤ 1000000001) (w : World) :
  Calls Tryz.prog 17 #[.int .i64 n,.int .i64 m] w fun e w' => e = .returned (.int .i64 (n % m)) ∧ w' = w := by
 have hm0 : ¬ (m = 0) := by omega
 have hm1 : (m == 0) = false := by simpa using hm0
 go_enter Tryz.func17,Tryz.ntmps17
 go_wp2
 go_ret
 refine ⟨?_,rfl⟩
 show Ending.returned (Value.int .i64 ((wrap64 (n.tmod m + m)).tmod m)) = _
 rw [roundP_gen n m h0 h1]
end Go.Proofs.YtaahjcljanckaaaGreatDoor
namespace Go.Proofs.YtaahjcljanckaaaGreatDoor
open Go.RowKit Go.Sort
def passN (now n : Int) : Int := if 1000000000 - n % 1000 < now then 1000000000 else now + n % 1000
def passR (R : Prx) (n : Int) : Prx := ⟨passN R.now n,R.ents,R.pol,R.fes,R.cls,R.hits⟩
theorem PxOwn.retime {w : World} {lo hi : Nat} {X : Pc} {R : Prx} (h : PxOwn w lo hi X R) (n : Int) : PxOwn w lo hi X (passR R n) := ⟨h.e,h.p,h.f,h.c,h.eh,h.fh,h.ch⟩
set_option maxRecDepth 100000 in
set_option maxHeartbeats 8000000 in
theorem implPassTime_any (w : World) (X : Pc) (R : Prx) (n : Int) (hA : PxAt w X R w.heap.size) (hsz : PxSz R) (hm : PxM R) :
  Calls Tryz.prog 6 #[.agg #[.int .i64 R.now,X.e,X.w,X.m,X.k,.int .i64 R.pol.sk.added,X.f,X.c,.int .i64 R.hits],.int .i64 n] w fun e w' => ∃ Y : Pc,e = .returned (.agg #[.int .i64 (passR R n).now,Y.e,Y.w,Y.m,Y.k,.int .i64 (passR R n).pol.sk.added,Y.f,Y.c,.int .i64 (passR R n).hits]) ∧ PxOwn w' w.heap.size w'.heap.size Y (passR R n) ∧ Below w.heap.size w w' := by
 have hnow : -9223372036854775808 ≤ R.now ∧ R.now ≤ 9223372036854775807 := by
  have h := hm.now
  simp only [Lit.wf,decide_eq_true_eq,Bool.and_eq_true] at h
  have e1 : IntKind.i64.min = -9223372036854775808 := rfl
  have e2 : IntKind.i64.max = 9223372036854775807 := rfl
  first | (rw [e1,e2] at h; exact h) | (simp at h; rw [e1] at h; exact h)
 clear hm
 obtain ⟨A,hAA⟩ : ∃ A,w.heap.size = A := ⟨_,rfl⟩
 obtain ⟨w0,hw0⟩ : ∃ x,w.alloc (.cells #[.int .i64 R.now,X.e,X.w,X.m,X.k,.int .i64 R.pol.sk.added,X.f,X.c,.int .i64 R.hits] 36) = x := ⟨_,rfl⟩
 obtain ⟨w1,hw1⟩ : ∃ x,w0.alloc (.cells #[.int .i64 0,.slice none 0 0,.slice none 0 0,.slice none 0 0,.slice none 0 0,.int .i64 0,.slice none 0 0,.slice none 0 0,.int .i64 0] 36) = x := ⟨_,rfl⟩
 have hb0 : Below w.heap.size w w0 := by rw [← hw0]; exact (Below.refl _ _).alloc (Nat.le_refl _) _
 have hb01 : Below w0.heap.size w0 w1 := by rw [← hw1]; exact (Below.refl _ _).alloc (Nat.le_refl _) _
 have s0 : w0.heap.size = A + 1 := by rw [← hw0, ← hAA]; simp
 have s1 : w1.heap.size = A + 2 := by rw [← hw1]; simp; omega
 have hb1 : Below A w w1 := by rw [← hAA]; exact hb0.trans (hb01.mono hb0.size)
 have hB : NB w1 A 36 (.int .i64 R.now) X.e X.w X.m X.k (.int .i64 R.pol.sk.added) X.f X.c (.int .i64 R.hits) := by
  have h : NB w0 A 36 (.int .i64 R.now) X.e X.w X.m X.k (.int .i64 R.pol.sk.added) X.f X.c (.int .i64 R.hits) := by rw [← hw0, ← hAA]; exact NB.new _ _ _ _ _ _ _ _ _ _ _
  exact h.on hb01
 have hR : NB w1 (A + 1) 36 (.int .i64 0) (.slice none 0 0) (.slice none 0 0) (.slice none 0 0) (.slice none 0 0) (.int .i64 0) (.slice none 0 0) (.slice none 0 0) (.int .i64 0) := by rw [← hw1, ← s0]; exact NB.new _ _ _ _ _ _ _ _ _ _ _
 have HW : Hid ((w.alloc (.cells #[.int .i64 R.now,X.e,X.w,X.m,X.k,.int .i64 R.pol.sk.added,X.f,X.c,.int .i64 R.hits] 36)).alloc (.cells #[.int .i64 0,.slice none 0 0,.slice none 0 0,.slice none 0 0,.slice none 0 0,.int .i64 0,.slice none 0 0,.slice none 0 0,.int .i64 0] 36) = w1) := by rw [hw0]; exact hw1
 have hA1 : PxAt w1 X R w1.heap.size := hA.on (by rw [hAA]; exact hb1)
 have c1 := proxyCopy_any w1 X R hA1 hsz
 obtain ⟨b0,b1,b2,b3,b4,b5,b6,b7,b8⟩ := hB.cells
 rw [← hw1, ← hw0] at b0 b1 b2 b3 b4 b5 b6 b7 b8
 have HAA : Hid (w.heap.size = A ∧ w1.heap.size = A + 2) := ⟨hAA,s1⟩
 clear hw0 hw1 hb0 hb01 s0 s1 hA hA1
 go_enter Tryz.func6,Tryz.ntmps6
 go_wp2_with fail
 rw [HW.out] at b0 b1 b2 b3 b4 b5 b6 b7 b8 ⊢
 refine c1.mono ?_
 rintro e w2 ⟨Y,he,ho,hb2⟩
 clear c1
 obtain ⟨e0,e1,x0,x1,m0,m1,k0,k1,f0,f1,c0,c1,rfl⟩ := ho.slices
 dsimp only at he
 subst he
 obtain ⟨v,hv⟩ : ∃ v,passN R.now n = v := ⟨_,rfl⟩
 have HV : Hid (passN R.now n = v) := hv
 clear hv
 obtain ⟨w4,hw4⟩ : ∃ x,(w2.alloc (.cells #[.int .i64 v,.slice e0 R.ents.length e1,.slice x0 R.pol.win.length x1,.slice m0 R.pol.main.length m1,.slice k0 R.pol.sk.rows.length k1,.int .i64 R.pol.sk.added,.slice f0 R.fes.length f1,.slice c0 R.cls.length c1,.int .i64 R.hits] 36)) = x := ⟨_,rfl⟩
 have hb4 : Below w2.heap.size w2 w4 := by rw [← hw4]; exact (Below.refl _ _).alloc (Nat.le_refl _) _
 have hR4 : NB w4 (A + 1) 36 (.int .i64 0) (.slice none 0 0) (.slice none 0 0) (.slice none 0 0) (.slice none 0 0) (.int .i64 0) (.slice none 0 0) (.slice none 0 0) (.int .i64 0) := (hR.on hb2).on hb4
 have HO4 : Hid (PxOwn w4 w1.heap.size w2.heap.size ⟨.slice e0 R.ents.length e1,.slice x0 R.pol.win.length x1,.slice m0 R.pol.main.length m1,.slice k0 R.pol.sk.rows.length k1,.slice f0 R.fes.length f1,.slice c0 R.cls.length c1⟩ R) := ho.below hb4 (Nat.le_refl _)
 have hB4 : Below A w w4 := (hb1.trans (hb2.mono (by have := HAA.out; omega))).trans (hb4.mono (by have := HAA.out; have := hb2.size; omega))
 have HNS : Hid (w2.heap.size ≤ w4.heap.size) := hb4.size
 obtain ⟨r0,r1,r2,r3,r4,r5,r6,r7,r8⟩ := hR4.cells
 have t0 := hR4.thaw 0
 have t1 := hR4.thaw 1
 have t2 := hR4.thaw 2
 have t3 := hR4.thaw 3
 have t4 := hR4.thaw 4
 have t5 := hR4.thaw 5
 have t6 := hR4.thaw 6
 have t7 := hR4.thaw 7
 have t8 := hR4.thaw 8
 have HOA : Hid (PxOwn (((((((((w4.setCell ⟨A + 1, 0,none⟩ (.int .i64 v)).setCell ⟨A + 1, 1,none⟩ (.slice e0 R.ents.length e1)).setCell ⟨A + 1, 2,none⟩ (.slice x0 R.pol.win.length x1)).setCell ⟨A + 1, 3,none⟩ (.slice m0 R.pol.main.length m1)).setCell ⟨A + 1, 4,none⟩ (.slice k0 R.pol.sk.rows.length k1)).setCell ⟨A + 1, 5,none⟩ (.int .i64 R.pol.sk.added)).setCell ⟨A + 1, 6,none⟩ (.slice f0 R.fes.length f1)).setCell ⟨A + 1, 7,none⟩ (.slice c0 R.cls.length c1)).setCell ⟨A + 1, 8,none⟩ (.int .i64 R.hits)) w1.heap.size w2.heap.size ⟨.slice e0 R.ents.length e1,.slice x0 R.pol.win.length x1,.slice m0 R.pol.main.length m1,.slice k0 R.pol.sk.rows.length k1,.slice f0 R.fes.length f1,.slice c0 R.cls.length c1⟩ R) := HO4.out.box hR4 (by unfold PxT; decide) (fun k hk => put9_other w4 (A + 1) (.int .i64 v) (.slice e0 R.ents.length e1) (.slice x0 R.pol.win.length x1) (.slice m0 R.pol.main.length m1) (.slice k0 R.pol.sk.rows.length k1) (.int .i64 R.pol.sk.added) (.slice f0 R.fes.length f1) (.slice c0 R.cls.length c1) (.int .i64 R.hits) k hk)
 have HBF : Hid (Below A w (((((((((w4.setCell ⟨A + 1, 0,none⟩ (.int .i64 v)).setCell ⟨A + 1, 1,none⟩ (.slice e0 R.ents.length e1)).setCell ⟨A + 1, 2,none⟩ (.slice x0 R.pol.win.length x1)).setCell ⟨A + 1, 3,none⟩ (.slice m0 R.pol.main.length m1)).setCell ⟨A + 1, 4,none⟩ (.slice k0 R.pol.sk.rows.length k1)).setCell ⟨A + 1, 5,none⟩ (.int .i64 R.pol.sk.added)).setCell ⟨A + 1, 6,none⟩ (.slice f0 R.fes.length f1)).setCell ⟨A + 1, 7,none⟩ (.slice c0 R.cls.length c1)).setCell ⟨A + 1, 8,none⟩ (.int .i64 R.hits))) := Below.put9 hB4 (T := A + 1) (by omega) (.int .i64 v) (.slice e0 R.ents.length e1) (.slice x0 R.pol.win.length x1) (.slice m0 R.pol.main.length m1) (.slice k0 R.pol.sk.rows.length k1) (.int .i64 R.pol.sk.added) (.slice f0 R.fes.length f1) (.slice c0 R.cls.length c1) (.int .i64 R.hits)
 have HPQ : Hid (NB w4 (A + 1) 36 (.int .i64 0) (.slice none 0 0) (.slice none 0 0) (.slice none 0 0) (.slice none 0 0) (.int .i64 0) (.slice none 0 0) (.slice none 0 0) (.int .i64 0)) := hR4
 have HSZ : Hid (w2.heap.size ≤ (((((((((w4.setCell ⟨A + 1, 0,none⟩ (.int .i64 v)).setCell ⟨A + 1, 1,none⟩ (.slice e0 R.ents.length e1)).setCell ⟨A + 1, 2,none⟩ (.slice x0 R.pol.win.length x1)).setCell ⟨A + 1, 3,none⟩ (.slice m0 R.pol.main.length m1)).setCell ⟨A + 1, 4,none⟩ (.slice k0 R.pol.sk.rows.length k1)).setCell ⟨A + 1, 5,none⟩ (.int .i64 R.pol.sk.added)).setCell ⟨A + 1, 6,none⟩ (.slice f0 R.fes.length f1)).setCell ⟨A + 1, 7,none⟩ (.slice c0 R.cls.length c1)).setCell ⟨A + 1, 8,none⟩ (.int .i64 R.hits)).heap.size) := by show _ ≤ _; rw [put9_size]; exact HNS.out
 have HW4 : Hid ((w2.alloc (.cells #[.int .i64 v,.slice e0 R.ents.length e1,.slice x0 R.pol.win.length x1,.slice m0 R.pol.main.length m1,.slice k0 R.pol.sk.rows.length k1,.int .i64 R.pol.sk.added,.slice f0 R.fes.length f1,.slice c0 R.cls.length c1,.int .i64 R.hits] 36)) = w4) := hw4
 have HALL : Hid _ := (fun (_ : Unit) => And.intro HW4.out (And.intro HOA.out (And.intro HBF.out (And.intro HPQ.out HSZ.out))))
 clear HW4 HOA HBF HPQ HSZ
 rw [← hw4] at r0 r1 r2 r3 r4 r5 r6 r7 r8 t0 t1 t2 t3 t4 t5 t6 t7 t8
 clear hw4 hb4 hR4 HO4 hB4 ho hR hB hb1 hb2 b0 b1 b2 b3 b4 b5 b6 b7 b8
 have cI := inRoundP_any n 1000 (by omega) (by omega) w2
 obtain ⟨m,hmm⟩ : ∃ m,n % 1000 = m := ⟨_,rfl⟩
 have hm0 : 0 ≤ m := by omega
 have hm1 : m < 1000 := by omega
 rw [hmm] at cI
 have HPN : Hid (v = (if 1000000000 - m < R.now then 1000000000 else R.now + m)) := by show _ = _; rw [← HV.out]; unfold passN; rw [hmm]
 clear hmm
 go_wp2_with fail
 refine cI.mono ?_
 rintro e w2 ⟨rfl,rfl⟩
 clear cI
 by_cases hlt : 1000000000 - m < R.now
 ·have hvv : v = 1000000000 := by have := HPN.out; rw [if_pos hlt] at this; omega
  have hmin : min R.now (1000000000 - m) = 1000000000 - m := by omega
  have hmn2 : (1000000000 - m + m) = 1000000000 := by omega
  subst hvv
  clear HPN
  go_wp2_with fail
  obtain ⟨hWX,hOX,hBX,hPX,hSX⟩ := HALL.out ()
  rw [hWX]
  obtain ⟨q0,q1,q2,q3,q4,q5,q6,q7,q8⟩ := (NB.put hPX (.int .i64 1000000000) (.slice e0 R.ents.length e1) (.slice x0 R.pol.win.length x1) (.slice m0 R.pol.main.length m1) (.slice k0 R.pol.sk.rows.length k1) (.int .i64 R.pol.sk.added) (.slice f0 R.fes.length f1) (.slice c0 R.cls.length c1) (.int .i64 R.hits)).cells
  refine bodyPost_ret (v := .agg #[.int .i64 1000000000,.slice e0 R.ents.length e1,.slice x0 R.pol.win.length x1,.slice m0 R.pol.main.length m1,.slice k0 R.pol.sk.rows.length k1,.int .i64 R.pol.sk.added,.slice f0 R.fes.length f1,.slice c0 R.cls.length c1,.int .i64 R.hits]) (by simp [results,Tryz.results6,go_sem,q0,q1,q2,q3,q4,q5,q6,q7,q8]) rfl ⟨⟨.slice e0 R.ents.length e1,.slice x0 R.pol.win.length x1,.slice m0 R.pol.main.length m1,.slice k0 R.pol.sk.rows.length k1,.slice f0 R.fes.length f1,.slice c0 R.cls.length c1⟩,by unfold passR; rw [HV.out], ?_,by rw [HAA.out.1]; exact hBX⟩
  exact (hOX.retime n).mono (by have := HAA.out; omega) hSX
 ·have hvv : v = R.now + m := by have := HPN.out; rw [if_neg hlt] at this; omega
  have hmin : min R.now (1000000000 - m) = R.now := by omega
  have hw0 : -9223372036854775808 ≤ R.now + m := by omega
  have hw1 : R.now + m ≤ 9223372036854775807 := by omega
  subst hvv
  clear HPN
  go_wp2_with fail
  obtain ⟨hWX,hOX,hBX,hPX,hSX⟩ := HALL.out ()
  rw [hWX]
  obtain ⟨q0,q1,q2,q3,q4,q5,q6,q7,q8⟩ := (NB.put hPX (.int .i64 (R.now + m)) (.slice e0 R.ents.length e1) (.slice x0 R.pol.win.length x1) (.slice m0 R.pol.main.length m1) (.slice k0 R.pol.sk.rows.length k1) (.int .i64 R.pol.sk.added) (.slice f0 R.fes.length f1) (.slice c0 R.cls.length c1) (.int .i64 R.hits)).cells
  refine bodyPost_ret (v := .agg #[.int .i64 (R.now + m),.slice e0 R.ents.length e1,.slice x0 R.pol.win.length x1,.slice m0 R.pol.main.length m1,.slice k0 R.pol.sk.rows.length k1,.int .i64 R.pol.sk.added,.slice f0 R.fes.length f1,.slice c0 R.cls.length c1,.int .i64 R.hits]) (by simp [results,Tryz.results6,go_sem,q0,q1,q2,q3,q4,q5,q6,q7,q8]) rfl ⟨⟨.slice e0 R.ents.length e1,.slice x0 R.pol.win.length x1,.slice m0 R.pol.main.length m1,.slice k0 R.pol.sk.rows.length k1,.slice f0 R.fes.length f1,.slice c0 R.cls.length c1⟩,by unfold passR; rw [HV.out], ?_,by rw [HAA.out.1]; exact hBX⟩
  exact (hOX.retime n).mono (by have := HAA.out; omega) hSX
end Go.Proofs.YtaahjcljanckaaaGreatDoor
