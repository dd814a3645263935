/- A law marks proxies and finds the marks again. Written by mkprx.py. -/
import Derived.Test.YthfjfccdelbkhaaGreatDoorPrxTo
import Derived.Test.YthfjfccdelbkhaaGreatDoorEnsMarkJ
namespace Go.Proofs.YthfjfccdelbkhaaGreatDoor
open Go.RowKit Go.Sort
set_option maxHeartbeats 2000000 in
theorem markPolicy_fine (w : World) (lo hi : Nat) (aw am ak : Option Addr) (cw cm ck : Nat) (P : Pol) (k : Nat) (hO : POwn w lo hi (.agg #[.slice aw P.win.length cw,.slice am P.main.length cm,.slice ak P.sk.rows.length ck,.int .i64 P.sk.added]) P) (hm : PolSz P) (hk0 : 0 < k) (hk : k ≤ 5000000) (hh : hi ≤ w.heap.size) :
  Calls Tryz.prog 28 #[.agg #[.slice aw P.win.length cw,.slice am P.main.length cm,.slice ak P.sk.rows.length ck,.int .i64 P.sk.added],.int .i64 k] w fun e w' => e = .returned (.int .i64 ((k + P.win.length + P.main.length + tot P.sk.rows P.sk.rows.length : Nat) : Int)) ∧ PMk w' lo hi (.slice aw P.win.length cw) (.slice am P.main.length cm) (.slice ak P.sk.rows.length ck) P k ∧ Tch (fun b => lo ≤ b ∧ b < hi ∧ ∃ cs e,w.heap[b]? = some (.cells cs e (0, 0)) ∧ (e = 9 ∨ e = 3)) w w' := by
 obtain ⟨l1,l2,l3⟩ := hm.parts
 obtain ⟨K,hK⟩ : ∃ K,k + P.win.length = K := ⟨_,rfl⟩
 obtain ⟨M,hM⟩ : ∃ M,K + P.main.length = M := ⟨_,rfl⟩
 obtain ⟨R,hR⟩ : ∃ R,M + tot P.sk.rows P.sk.rows.length = R := ⟨_,rfl⟩
 rw [hK,hM,hR]
 have HK : Hid (k + P.win.length = K) := hK
 have HM : Hid (K + P.main.length = M) := hM
 have HRR : Hid (M + tot P.sk.rows P.sk.rows.length = R) := hR
 have hKb : K ≤ 6100000 := by omega
 have hK0 : 0 < K := by omega
 have hMb : M ≤ 7200000 := by omega
 clear hK hM hR
 obtain ⟨v1,v2,v3,e,a1,a2,a3,a4,a5⟩ := hO
 simp only [Value.agg.injEq,Array.mk.injEq,List.cons.injEq,and_true] at e
 obtain ⟨rfl,rfl,rfl⟩ := e
 have n1 : (strs P.win).length = P.win.length := by simp [strs]
 have n2 : (strs P.main).length = P.main.length := by simp [strs]
 obtain ⟨w1,hw1⟩ : ∃ x,w.alloc (.cells #[.slice aw P.win.length cw,.slice am P.main.length cm,.slice ak P.sk.rows.length ck,.int .i64 P.sk.added] 30) = x := ⟨_,rfl⟩
 have hb1 : Below w.heap.size w w1 := by rw [← hw1]; exact (Below.refl _ _).alloc (Nat.le_refl _) _
 have hB : PBox w1 w.heap.size (.slice aw P.win.length cw) (.slice am P.main.length cm) (.slice ak P.sk.rows.length ck) (.int .i64 P.sk.added) := by rw [← hw1]; exact PBox.new _ _ _ _ _
 have c1 := markS_any w1 lo (.slice aw P.win.length cw) (strs P.win) k (a1.below hb1 (Nat.le_refl _)) (by omega) hk0 (by omega)
 rw [n1,HK.out] at c1
 obtain ⟨b0,b1,b2,b3⟩ := hB.cells
 have HW : Hid (w.alloc (.cells #[.slice aw P.win.length cw,.slice am P.main.length cm,.slice ak P.sk.rows.length ck,.int .i64 P.sk.added] 30) = w1) := hw1
 rw [← hw1] at b0 b1 b2 b3
 have o1 := a1.below hb1 (Nat.le_refl _)
 have o2 := a2.below hb1 (Nat.le_refl _)
 have o3 := a5.below hb1 (Nat.le_refl _)
 have HT1 : Hid (Tch (fun b => lo ≤ b ∧ b < hi ∧ ∃ cs e,w.heap[b]? = some (.cells cs e (0, 0)) ∧ (e = 9 ∨ e = 3)) w w1) := Tch.of_below hb1
 have HL : Hid (∀ q,(Value.slice aw P.win.length cw).ownBlock = some q → lo ≤ q ∧ q < hi ∧ ∃ cs e,w.heap[q]? = some (.cells cs e (0, 0)) ∧ (e = 9 ∨ e = 3)) := fun q hq => ⟨(a1.lt q hq).1,(a3 q hq).1,by obtain ⟨cs,hc⟩ := ownV_type a1 q hq; exact ⟨cs, 9,hc,.inl rfl⟩⟩
 have HL2 : Hid (∀ q,(Value.slice am P.main.length cm).ownBlock = some q → lo ≤ q ∧ q < hi ∧ ∃ cs e,w.heap[q]? = some (.cells cs e (0, 0)) ∧ (e = 9 ∨ e = 3)) := fun q hq => ⟨(a2.lt q hq).1,a4 q hq,by obtain ⟨cs,hc⟩ := ownV_type a2 q hq; exact ⟨cs, 9,hc,.inl rfl⟩⟩
 have HHW : Hid (hi ≤ w.heap.size) := hh
 have HH : Hid (hi ≤ w1.heap.size) := Nat.le_trans hh hb1.size
 clear hw1 a1 a2 a5 n1
 go_enter Tryz.func28,Tryz.ntmps28
 go_wp2_with fail
 rw [HW.out] at b0 b1 b2 b3 ⊢
 refine c1.mono ?_
 rintro e w2 ⟨rfl,m1,g1⟩
 clear c1 b0 b1 b2 b3
 have hB2 := hB.kept (g1.block _ hB.lt (fun e => by have := HL.out _ e.symm; omega))
 have p2 := o2.grown g1 fun q hq e => (a3 q e).2 hq
 have p3 := o3.past9 o1 g1
 have HT2 : Hid (Tch (fun b => lo ≤ b ∧ b < hi ∧ ∃ cs e,w.heap[b]? = some (.cells cs e (0, 0)) ∧ (e = 9 ∨ e = 3)) w w2) := HT1.out.trans (Tch.of_grown g1 HL.out)
 have HH2 : Hid (hi ≤ w2.heap.size) := Nat.le_trans HH.out g1.size
 obtain ⟨b0,b1,b2,b3⟩ := hB2.cells
 have c2 := markS_any w2 lo (.slice am P.main.length cm) (strs P.main) K p2 (by omega) hK0 (by omega)
 rw [n2,HM.out] at c2
 clear o1 o2 o3 g1 HT1 HH n2
 go_wp2_with fail
 refine c2.mono ?_
 rintro e w3 ⟨rfl,m2,g2⟩
 clear c2 b0 b1 b2 b3
 have hB3 := hB2.kept (g2.block _ hB2.lt (fun e => by have := HL2.out _ e.symm; omega))
 have q1 := m1.grown g2 fun q hq e => (a3 q hq).2 e
 have q3 := p3.past9 p2 g2
 have HT3 : Hid (Tch (fun b => lo ≤ b ∧ b < hi ∧ ∃ cs e,w.heap[b]? = some (.cells cs e (0, 0)) ∧ (e = 9 ∨ e = 3)) w w3) := HT2.out.trans (Tch.of_grown g2 HL2.out)
 have HH3 : hi ≤ w3.heap.size := Nat.le_trans HH2.out g2.size
 obtain ⟨b0,b1,b2,b3⟩ := hB3.cells
 have c3 := markSketch_fine w3 lo hi ak ck P.sk M q3 l3 (by omega) HH3
 have HQ1 : Hid (OwnV w3 lo 9 (.slice aw P.win.length cw) (marks k P.win.length)) := q1
 have HQ2 : Hid (OwnV w3 lo 9 (.slice am P.main.length cm) (marks K P.main.length)) := m2
 have HA : Hid ((∀ q,(Value.slice aw P.win.length cw).ownBlock = some q → q < hi ∧ (Value.slice am P.main.length cm).ownBlock ≠ some q) ∧ (∀ q,(Value.slice am P.main.length cm).ownBlock = some q → q < hi)) := ⟨a3,a4⟩
 clear m1 m2 p2 p3 q1 q3 g2 HT2 HH2 a3 a4
 rw [HRR.out] at c3
 go_wp2_with fail
 refine c3.mono ?_
 rintro e w4 ⟨rfl,hmm,t4⟩
 have HY : Hid (∀ q,q < hi → (∃ cs,w3.heap[q]? = some (.cells cs 3 (0, 0))) → ∃ cs e,w.heap[q]? = some (.cells cs e (0, 0)) ∧ (e = 9 ∨ e = 3)) := by
  intro q hq hc
  obtain ⟨cs,hc⟩ := hc
  by_cases hS : ∃ cs e,w.heap[q]? = some (.cells cs e (0, 0)) ∧ (e = 9 ∨ e = 3)
  ·exact hS
  ·exact ⟨cs, 3,(HT3.out.2 q (by have := HHW.out; omega) (fun e => hS e.2.2)).symm.trans hc,.inr rfl⟩
 have HR : Hid (PMk w4 lo hi (.slice aw P.win.length cw) (.slice am P.main.length cm) (.slice ak P.sk.rows.length ck) P k ∧ Tch (fun b => lo ≤ b ∧ b < hi ∧ ∃ cs e,w.heap[b]? = some (.cells cs e (0, 0)) ∧ (e = 9 ∨ e = 3)) w w4) := by
  refine ⟨⟨HQ1.out.tch t4 fun q hq e => ownV_not3 HQ1.out hq e.2.2, ?_,HA.out.1,HA.out.2, ?_⟩,HT3.out.trans (t4.weak fun q hq => ⟨hq.1,hq.2.1,HY.out q hq.2.1 hq.2.2⟩)⟩
  ·rw [HK.out]
   exact HQ2.out.tch t4 fun q hq e => ownV_not3 HQ2.out hq e.2.2
  ·rw [HK.out,HM.out]
   exact hmm
 clear c3 b0 b1 b2 b3 hmm t4 HQ1 HQ2 HA
 go_wp2_with fail
 go_ret
 exact ⟨rfl,HR.out⟩
theorem PMk.keptT {w w' : World} {lo hi : Nat} {v1 v2 v3 : Value} {P : Pol} {k : Nat} (h : PMk w lo hi v1 v2 v3 P k) (hk : ∀ b,b < w.heap.size → (∀ c,w.heap[b]? = some c → ∃ cs e,c = .cells cs e (0, 0) ∧ (e = 9 ∨ e = 107 ∨ e = 3)) → w'.heap[b]? = w.heap[b]?) : PMk w' lo hi v1 v2 v3 P k := by
 obtain ⟨a1,a2,a3,a4,MM,a5,a6⟩ := h
 refine ⟨a1.kept fun b hb => hk b (a1.lt b hb).2 fun c hc => ?_,a2.kept fun b hb => hk b (a2.lt b hb).2 fun c hc => ?_,a3,a4,MM,a5,a6.kept fun b h1 h2 h3 h4 => hk b h3 fun c hc => ?_⟩
 ·obtain ⟨cs,e⟩ := ownV_type a1 b hb
  rw [e] at hc
  exact ⟨cs, 9,(Option.some.inj hc).symm,.inl rfl⟩
 ·obtain ⟨cs,e⟩ := ownV_type a2 b hb
  rw [e] at hc
  exact ⟨cs, 9,(Option.some.inj hc).symm,.inl rfl⟩
 ·rcases h4 c hc with ⟨cs,e⟩ | ⟨cs,e⟩
  ·exact ⟨cs,_,e,.inr (.inl rfl)⟩
  ·exact ⟨cs,_,e,.inr (.inr rfl)⟩
theorem markPolicy_v (w : World) (lo hi : Nat) (x y z : Value) (P : Pol) (k : Nat) (hO : POwn w lo hi (.agg #[x,y,z,.int .i64 P.sk.added]) P) (hm : PolSz P) (hk0 : 0 < k) (hk : k ≤ 5000000) (hh : hi ≤ w.heap.size) :
  Calls Tryz.prog 28 #[.agg #[x,y,z,.int .i64 P.sk.added],.int .i64 k] w fun e w' => e = .returned (.int .i64 ((k + P.win.length + P.main.length + tot P.sk.rows P.sk.rows.length : Nat) : Int)) ∧ PMk w' lo hi x y z P k ∧ Tch (fun b => lo ≤ b ∧ b < hi ∧ ∃ cs e,w.heap[b]? = some (.cells cs e (0, 0)) ∧ (e = 9 ∨ e = 3)) w w' := by
 obtain ⟨aw,cw,am,cm,ak,ck,rfl,rfl,rfl,hA⟩ := hO.pl.2.at
 exact markPolicy_fine w lo hi aw am ak cw cm ck P k hO hm hk0 hk hh
set_option maxHeartbeats 2000000 in
theorem heldPolicy_fine (w : World) (lo hi : Nat) (aw am ak : Option Addr) (cw cm ck : Nat) (P : Pol) (k : Nat) (hO : PMk w lo hi (.slice aw P.win.length cw) (.slice am P.main.length cm) (.slice ak P.sk.rows.length ck) P k) (hm : PolSz P) (hk0 : 0 < k) (hk : k ≤ 5000000) :
  Calls Tryz.prog 32 #[.agg #[.slice aw P.win.length cw,.slice am P.main.length cm,.slice ak P.sk.rows.length ck,.int .i64 P.sk.added],.int .i64 k] w fun e w' => e = .returned (.int .i64 ((k + P.win.length + P.main.length + tot P.sk.rows P.sk.rows.length : Nat) : Int)) ∧ Below w.heap.size w w' := by
 obtain ⟨l1,l2,l3⟩ := hm.parts
 obtain ⟨K,hK⟩ : ∃ K,k + P.win.length = K := ⟨_,rfl⟩
 obtain ⟨M,hM⟩ : ∃ M,K + P.main.length = M := ⟨_,rfl⟩
 obtain ⟨R,hR⟩ : ∃ R,M + tot P.sk.rows P.sk.rows.length = R := ⟨_,rfl⟩
 rw [hK,hM,hR]
 have HK : Hid (k + P.win.length = K) := hK
 have HM : Hid (K + P.main.length = M) := hM
 have HRR : Hid (M + tot P.sk.rows P.sk.rows.length = R) := hR
 have hKb : K ≤ 6100000 := by omega
 have hK0 : 0 < K := by omega
 have hMb : M ≤ 7200000 := by omega
 clear hK hM hR
 obtain ⟨w1,hw1⟩ : ∃ x,w.alloc (.cells #[.slice aw P.win.length cw,.slice am P.main.length cm,.slice ak P.sk.rows.length ck,.int .i64 P.sk.added] 30) = x := ⟨_,rfl⟩
 have hb1 : Below w.heap.size w w1 := by rw [← hw1]; exact (Below.refl _ _).alloc (Nat.le_refl _) _
 have hB : PBox w1 w.heap.size (.slice aw P.win.length cw) (.slice am P.main.length cm) (.slice ak P.sk.rows.length ck) (.int .i64 P.sk.added) := by rw [← hw1]; exact PBox.new _ _ _ _ _
 have hO1 := hO.below hb1 (Nat.le_refl _)
 have c1 := heldS_any w1 lo (.slice aw P.win.length cw) P.win.length k hO1.1 (by omega) hk0 (by omega)
 obtain ⟨b0,b1,b2,b3⟩ := hB.cells
 have HW : Hid (w.alloc (.cells #[.slice aw P.win.length cw,.slice am P.main.length cm,.slice ak P.sk.rows.length ck,.int .i64 P.sk.added] 30) = w1) := hw1
 rw [← hw1] at b0 b1 b2 b3
 clear hw1 hO
 rw [HK.out] at c1
 have hn1 : ¬ ((K : Int) < 0) := by omega
 go_enter Tryz.func32,Tryz.ntmps32
 go_wp2_with fail
 rw [HW.out] at b0 b1 b2 b3 ⊢
 refine c1.mono ?_
 rintro e w2 ⟨rfl,hb2⟩
 clear c1 b0 b1 b2 b3
 have hbw2 := hb1.trans (hb2.mono hb1.size)
 have hO2 := hO1.below hb2 (Nat.le_refl _)
 obtain ⟨b0,b1,b2,b3⟩ := (hB.on hb2).cells
 have c2 := heldS_any w2 lo (.slice am P.main.length cm) P.main.length K (by rw [← HK.out]; exact hO2.2.1) (by omega) hK0 (by omega)
 rw [HM.out] at c2
 have hn2 : ¬ ((M : Int) < 0) := by omega
 go_wp2_with fail
 refine c2.mono ?_
 rintro e w3 ⟨rfl,hb3⟩
 clear c2 b0 b1 b2 b3
 have hbw3 := hbw2.trans (hb3.mono hbw2.size)
 obtain ⟨_,_,_,_,MM,hMM,hS⟩ := hO2.below hb3 (Nat.le_refl _)
 rw [HK.out,HM.out] at hMM
 obtain ⟨b0,b1,b2,b3⟩ := ((hB.on hb2).on hb3).cells
 have c3 := heldSketch_any w3 lo hi ak ck P.sk MM M hS hMM l3 (by omega)
 rw [HRR.out] at c3
 clear hMM hS hO1 hO2
 have hn3 : ¬ ((R : Int) < 0) := by omega
 go_wp2_with fail
 refine c3.mono ?_
 rintro e w4 ⟨rfl,hb4⟩
 go_wp2_with fail
 go_ret
 exact ⟨rfl,hbw3.trans (hb4.mono hbw3.size)⟩
theorem heldPolicy_v (w : World) (lo hi : Nat) (x y z : Value) (P : Pol) (k : Nat) (hO : PMk w lo hi x y z P k) (hm : PolSz P) (hk0 : 0 < k) (hk : k ≤ 5000000) :
  Calls Tryz.prog 32 #[.agg #[x,y,z,.int .i64 P.sk.added],.int .i64 k] w fun e w' => e = .returned (.int .i64 ((k + P.win.length + P.main.length + tot P.sk.rows P.sk.rows.length : Nat) : Int)) ∧ Below w.heap.size w w' := by
 obtain ⟨b1,b2,b3,b4,MM,b5,b6⟩ := id hO
 have hl : MM.length = P.sk.rows.length := by have := congrArg List.length b5.1; simpa using this
 obtain ⟨aw,cw,rfl⟩ : ∃ a c,x = .slice a P.win.length c := by
  rcases b1.2 with ⟨rfl,hn⟩ | ⟨g,cap,cur,rfl,_⟩
  ·exact ⟨none, 0,by rw [marks_length] at hn; rw [hn]⟩
  ·exact ⟨_,cap,by rw [marks_length]⟩
 obtain ⟨am,cm,rfl⟩ : ∃ a c,y = .slice a P.main.length c := by
  rcases b2.2 with ⟨rfl,hn⟩ | ⟨g,cap,cur,rfl,_⟩
  ·exact ⟨none, 0,by rw [marks_length] at hn; rw [hn]⟩
  ·exact ⟨_,cap,by rw [marks_length]⟩
 obtain ⟨ak,ck,rfl,_⟩ := b6.at
 rw [hl] at hO ⊢
 exact heldPolicy_fine w lo hi aw am ak cw cm ck P k hO hm hk0 hk
def mkN (R : Prx) : Nat := 4 * R.ents.length + (R.pol.win.length + R.pol.main.length + tot R.pol.sk.rows R.pol.sk.rows.length) + 5 * R.fes.length + 7 * R.cls.length
def mk1 (R : Prx) : Nat := 1 + 4 * R.ents.length
def mk2 (R : Prx) : Nat := mk1 R + R.pol.win.length + R.pol.main.length + tot R.pol.sk.rows R.pol.sk.rows.length
def mk3 (R : Prx) : Nat := mk2 R + 5 * R.fes.length
structure PxMk (w : World) (lo hi : Nat) (X : Pc) (R : Prx) : Prop where
 e : OwnN w lo 47 X.e (mEnl 1 R.ents.length)
 p : PMk w lo hi X.w X.m X.k R.pol (mk1 R)
 f : OwnFet w lo 83 X.f (mFetl (mk2 R) R.fes.length)
 c : OwnCli w lo 86 X.c (mClil (mk3 R) R.cls.length)
theorem PxMk.below {w w' : World} {B lo hi : Nat} {X : Pc} {R : Prx} (h : PxMk w lo hi X R) (hb : Below B w w') (hB : w.heap.size ≤ B) : PxMk w' lo hi X R := ⟨h.e.below hb hB,h.p.below hb hB,h.f.below hb hB,h.c.below hb hB⟩
theorem one_type {w : World} {k : Nat} {cs cs' : Array Value} {e e' : TypeId} (h : w.heap[k]? = some (.cells cs e (0, 0))) (h' : w.heap[k]? = some (.cells cs' e' (0, 0))) : e = e' := by
 rw [h] at h'
 simp only [Option.some.injEq,Obj.cells.injEq] at h'
 exact h'.2.1
theorem PxSz.marks {R : Prx} (h : PxSz R) : mk1 R ≤ 4194305 ∧ mk2 R ≤ 5300000 ∧ mk3 R ≤ 10600000 ∧ 1 + mkN R = mk3 R + 7 * R.cls.length := by
 unfold PxSz wgtX wgtP at h
 unfold mk3 mk2 mk1 mkN
 omega
set_option maxRecDepth 100000 in
set_option maxHeartbeats 4000000 in
theorem markProxy_any (w : World) (lo hi : Nat) (X : Pc) (R : Prx) (hO : PxOwn w lo hi X R) (hm : PxSz R) (hh : hi ≤ w.heap.size) :
  Calls Tryz.prog 11 #[.agg #[.int .i64 R.now,X.e,X.w,X.m,X.k,.int .i64 R.pol.sk.added,X.f,X.c,.int .i64 R.hits],.int .i64 1] w fun e w' => e = .returned (.int .i64 ((1 + mkN R : Nat) : Int)) ∧ PxMk w' lo hi X R ∧ Tch (fun b => lo ≤ b ∧ b < hi) w w' := by
 obtain ⟨l1,l2,l3,l4⟩ := hm.parts
 obtain ⟨m1,m2,m3,m4⟩ := hm.marks
 rw [m4]
 clear m4
 obtain ⟨w1,hw1⟩ : ∃ x,w.alloc (.cells #[.int .i64 R.now,X.e,X.w,X.m,X.k,.int .i64 R.pol.sk.added,X.f,X.c,.int .i64 R.hits] 34) = x := ⟨_,rfl⟩
 have hb1 : Below w.heap.size w w1 := by rw [← hw1]; exact (Below.refl _ _).alloc (Nat.le_refl _) _
 have hB : NB w1 w.heap.size 34 (.int .i64 R.now) X.e X.w X.m X.k (.int .i64 R.pol.sk.added) X.f X.c (.int .i64 R.hits) := by rw [← hw1]; exact NB.new _ _ _ _ _ _ _ _ _ _ _
 have hO1 := hO.below hb1 (Nat.le_refl _)
 have c1 := markEntryS_any w1 lo X.e R.ents 1 hO1.e l1 (by omega) (by omega)
 obtain ⟨K1,hK1⟩ : ∃ K,mk1 R = K := ⟨_,rfl⟩
 have e1 : 1 + 4 * R.ents.length = K1 := hK1
 rw [e1] at c1
 obtain ⟨K2,hK2⟩ : ∃ K,mk2 R = K := ⟨_,rfl⟩
 have e2 : K1 + R.pol.win.length + R.pol.main.length + tot R.pol.sk.rows R.pol.sk.rows.length = K2 := by rw [← hK1]; exact hK2
 obtain ⟨K3,hK3⟩ : ∃ K,mk3 R = K := ⟨_,rfl⟩
 have e3 : K2 + 5 * R.fes.length = K3 := by rw [← hK2]; exact hK3
 have p1 : 0 < K1 := by omega
 have p2 : 0 < K2 := by omega
 have p3 : 0 < K3 := by omega
 rw [hK1] at m1
 rw [hK2] at m2
 rw [hK3] at m3 ⊢
 have E2 : Hid (K1 + R.pol.win.length + R.pol.main.length + tot R.pol.sk.rows R.pol.sk.rows.length = K2) := e2
 have E3 : Hid (K2 + 5 * R.fes.length = K3) := e3
 have HK : Hid (mk1 R = K1 ∧ mk2 R = K2 ∧ mk3 R = K3) := ⟨hK1,hK2,hK3⟩
 obtain ⟨K4,hK4⟩ : ∃ K,K3 + 7 * R.cls.length = K := ⟨_,rfl⟩
 have E4 : Hid (K3 + 7 * R.cls.length = K4) := hK4
 rw [hK4]
 clear hK4
 have HH : Hid (hi ≤ w.heap.size ∧ w.heap.size ≤ w1.heap.size) := ⟨hh,hb1.size⟩
 have HB1 : Hid (Below w.heap.size w w1) := hb1
 obtain ⟨b0,b1,b2,b3,b4,b5,b6,b7,b8⟩ := hB.cells
 have HW : Hid (w.alloc (.cells #[.int .i64 R.now,X.e,X.w,X.m,X.k,.int .i64 R.pol.sk.added,X.f,X.c,.int .i64 R.hits] 34) = w1) := hw1
 rw [← hw1] at b0 b1 b2 b3 b4 b5 b6 b7 b8
 clear hw1 hO hm hK1 hK2 hK3 e1 e2 e3 hb1 hh
 go_enter Tryz.func11,Tryz.ntmps11
 go_wp2_with fail
 rw [HW.out] at b0 b1 b2 b3 b4 b5 b6 b7 b8 ⊢
 refine c1.mono ?_
 rintro e w2 ⟨rfl,u1,g1⟩
 clear c1 b0 b1 b2 b3 b4 b5 b6 b7 b8
 have hB2 := hB.kept (g1.block _ hB.lt (fun e => by have := hO1.eh _ e.symm; have := HH.out; omega))
 have P2 : POwn w2 lo hi _ R.pol := hO1.p.keptT fun k _ _ hk hty => g1.block k hk (fun e => by
  obtain ⟨cs,hcs⟩ := hO1.e.type k e.symm
  obtain ⟨cs',t',h1,h2⟩ := hty _ hcs
  simp only [Obj.cells.injEq] at h1
  rw [← h1.2.1] at h2
  revert h2
  decide)
 have F2 : OwnFet w2 lo 83 X.f R.fes := hO1.f.grown g1 fun q hq e => by
  obtain ⟨cs,h1⟩ := hO1.f.type q hq
  obtain ⟨cs',h2⟩ := hO1.e.type q e
  exact absurd (one_type h1 h2) (by decide)
 have C2 : OwnCli w2 lo 86 X.c R.cls := hO1.c.grown g1 fun q hq e => by
  obtain ⟨cs,h1⟩ := hO1.c.type q hq
  obtain ⟨cs',h2⟩ := hO1.e.type q e
  exact absurd (one_type h1 h2) (by decide)
 have T2 : Hid (Tch (fun b => lo ≤ b ∧ b < hi) w w2) := (Tch.of_below HB1.out).trans (Tch.of_grown g1 fun q hq => ⟨(hO1.e.lt q hq).1,hO1.eh q hq⟩)
 have H2 : Hid (hi ≤ w2.heap.size ∧ w.heap.size < w2.heap.size ∧ (∀ k,X.f.ownBlock = some k → k < hi) ∧ (∀ k,X.c.ownBlock = some k → k < hi)) := ⟨by have := HH.out; have := g1.size; omega,hB2.lt,hO1.fh,hO1.ch⟩
 obtain ⟨b0,b1,b2,b3,b4,b5,b6,b7,b8⟩ := hB2.cells
 have c2 := markPolicy_v w2 lo hi X.w X.m X.k R.pol K1 P2 l2 p1 (by omega) H2.out.1
 rw [E2.out] at c2
 clear hB hO1 g1 P2
 go_wp2_with fail
 refine c2.mono ?_
 rintro e w3 ⟨rfl,u2,t3⟩
 clear c2 b0 b1 b2 b3 b4 b5 b6 b7 b8
 have hB3 := hB2.kept (t3.2 _ hB2.lt (fun e => by have := HH.out; omega))
 have U1 : OwnN w3 lo 47 X.e (mEnl 1 R.ents.length) := u1.kept fun k hk => t3.2 k (u1.lt k hk).2 (fun e => by
  obtain ⟨_,_,cs,t',h1,h2⟩ := e
  obtain ⟨cs',h3⟩ := u1.type k hk
  rw [one_type h1 h3] at h2
  revert h2
  decide)
 have F3 : OwnFet w3 lo 83 X.f R.fes := F2.kept fun k hk => t3.2 k (F2.lt k hk).2 (fun e => by
  obtain ⟨_,_,cs,t',h1,h2⟩ := e
  obtain ⟨cs',h3⟩ := F2.type k hk
  rw [one_type h1 h3] at h2
  revert h2
  decide)
 have C3 : OwnCli w3 lo 86 X.c R.cls := C2.kept fun k hk => t3.2 k (C2.lt k hk).2 (fun e => by
  obtain ⟨_,_,cs,t',h1,h2⟩ := e
  obtain ⟨cs',h3⟩ := C2.type k hk
  rw [one_type h1 h3] at h2
  revert h2
  decide)
 have T3 : Hid (Tch (fun b => lo ≤ b ∧ b < hi) w w3) := T2.out.trans (t3.weak fun q hq => ⟨hq.1,hq.2.1⟩)
 have H3 : Hid (w.heap.size < w3.heap.size) := hB3.lt
 obtain ⟨b0,b1,b2,b3,b4,b5,b6,b7,b8⟩ := hB3.cells
 have c3 := markFetchS_any w3 lo X.f R.fes K2 F3 l3 p2 (by omega)
 rw [E3.out] at c3
 clear hB2 u1 F2 C2 t3 T2
 go_wp2_with fail
 refine c3.mono ?_
 rintro e w4 ⟨rfl,u3,g4⟩
 clear c3 b0 b1 b2 b3 b4 b5 b6 b7 b8
 have hB4 := hB3.kept (g4.block _ hB3.lt (fun e => by have := H2.out.2.2.1 _ e.symm; have := HH.out; omega))
 have V1 : OwnN w4 lo 47 X.e (mEnl 1 R.ents.length) := U1.grown g4 fun q hq e => by
  obtain ⟨cs,h1⟩ := U1.type q hq
  obtain ⟨cs',h2⟩ := F3.type q e
  exact absurd (one_type h1 h2) (by decide)
 have V2 : PMk w4 lo hi X.w X.m X.k R.pol K1 := u2.keptT fun b hb hty => g4.block b hb (fun e => by
  obtain ⟨cs,hcs⟩ := F3.type b e.symm
  obtain ⟨cs',t',h1,h2⟩ := hty _ hcs
  simp only [Obj.cells.injEq] at h1
  rw [← h1.2.1] at h2
  revert h2
  decide)
 have C4 : OwnCli w4 lo 86 X.c R.cls := C3.grown g4 fun q hq e => by
  obtain ⟨cs,h1⟩ := C3.type q hq
  obtain ⟨cs',h2⟩ := F3.type q e
  exact absurd (one_type h1 h2) (by decide)
 have T4 : Hid (Tch (fun b => lo ≤ b ∧ b < hi) w w4) := T3.out.trans (Tch.of_grown g4 fun q hq => ⟨(F3.lt q hq).1,H2.out.2.2.1 q hq⟩)
 obtain ⟨b0,b1,b2,b3,b4,b5,b6,b7,b8⟩ := hB4.cells
 have c4 := markClientS_any w4 lo X.c R.cls K3 C4 l4 p3 (by omega)
 clear hB3 U1 u2 F3 C3 g4 T3
 rw [E4.out] at c4
 go_wp2_with fail
 refine c4.mono ?_
 rintro e w5 ⟨rfl,u4,g5⟩
 have HR : Hid (PxMk w5 lo hi X R ∧ Tch (fun b => lo ≤ b ∧ b < hi) w w5) := by
  obtain ⟨h1,h2,h3⟩ := HK.out
  refine ⟨⟨V1.grown g5 fun q hq e => ?_, ?_, ?_, ?_⟩,T4.out.trans (Tch.of_grown g5 fun q hq => ⟨(C4.lt q hq).1,H2.out.2.2.2 q hq⟩)⟩
  ·obtain ⟨cs,h1⟩ := V1.type q hq
   obtain ⟨cs',h2⟩ := C4.type q e
   exact absurd (one_type h1 h2) (by decide)
  ·rw [h1]
   refine V2.keptT fun b hb hty => g5.block b hb (fun e => ?_)
   obtain ⟨cs,hcs⟩ := C4.type b e.symm
   obtain ⟨cs',t',h1,h2⟩ := hty _ hcs
   simp only [Obj.cells.injEq] at h1
   rw [← h1.2.1] at h2
   revert h2
   decide
  ·rw [h2]
   refine u3.grown g5 fun q hq e => ?_
   obtain ⟨cs,h1⟩ := u3.type q hq
   obtain ⟨cs',h2⟩ := C4.type q e
   exact absurd (one_type h1 h2) (by decide)
  ·rw [h3]
   exact u4
 clear c4 b0 b1 b2 b3 b4 b5 b6 b7 b8 V1 V2 u3 u4 g5 C4 hB4
 go_wp2_with fail
 go_ret
 exact ⟨rfl,HR.out⟩
set_option maxRecDepth 100000 in
set_option maxHeartbeats 4000000 in
theorem heldProxy_any (w : World) (lo hi : Nat) (X : Pc) (R : Prx) (hO : PxMk w lo hi X R) (hm : PxSz R) :
  Calls Tryz.prog 12 #[.agg #[.int .i64 R.now,X.e,X.w,X.m,X.k,.int .i64 R.pol.sk.added,X.f,X.c,.int .i64 R.hits],.int .i64 1] w fun e w' => e = .returned (.int .i64 ((1 + mkN R : Nat) : Int)) ∧ Below w.heap.size w w' := by
 obtain ⟨l1,l2,l3,l4⟩ := hm.parts
 obtain ⟨m1,m2,m3,m4⟩ := hm.marks
 rw [m4]
 clear m4
 obtain ⟨w1,hw1⟩ : ∃ x,w.alloc (.cells #[.int .i64 R.now,X.e,X.w,X.m,X.k,.int .i64 R.pol.sk.added,X.f,X.c,.int .i64 R.hits] 34) = x := ⟨_,rfl⟩
 have hb1 : Below w.heap.size w w1 := by rw [← hw1]; exact (Below.refl _ _).alloc (Nat.le_refl _) _
 have hB : NB w1 w.heap.size 34 (.int .i64 R.now) X.e X.w X.m X.k (.int .i64 R.pol.sk.added) X.f X.c (.int .i64 R.hits) := by rw [← hw1]; exact NB.new _ _ _ _ _ _ _ _ _ _ _
 have hO1 := hO.below hb1 (Nat.le_refl _)
 have c1 := heldEntryS_any w1 lo X.e R.ents.length 1 hO1.e l1 (by omega) (by omega)
 obtain ⟨K1,hK1⟩ : ∃ K,mk1 R = K := ⟨_,rfl⟩
 have e1 : 1 + 4 * R.ents.length = K1 := hK1
 rw [e1] at c1
 obtain ⟨K2,hK2⟩ : ∃ K,mk2 R = K := ⟨_,rfl⟩
 have e2 : K1 + R.pol.win.length + R.pol.main.length + tot R.pol.sk.rows R.pol.sk.rows.length = K2 := by rw [← hK1]; exact hK2
 obtain ⟨K3,hK3⟩ : ∃ K,mk3 R = K := ⟨_,rfl⟩
 have e3 : K2 + 5 * R.fes.length = K3 := by rw [← hK2]; exact hK3
 have p1 : 0 < K1 := by omega
 have p2 : 0 < K2 := by omega
 have p3 : 0 < K3 := by omega
 rw [hK1] at m1
 rw [hK2] at m2
 rw [hK3] at m3 ⊢
 have E2 : Hid (K1 + R.pol.win.length + R.pol.main.length + tot R.pol.sk.rows R.pol.sk.rows.length = K2) := e2
 have E3 : Hid (K2 + 5 * R.fes.length = K3) := e3
 have HK : Hid (mk1 R = K1 ∧ mk2 R = K2 ∧ mk3 R = K3) := ⟨hK1,hK2,hK3⟩
 obtain ⟨K4,hK4⟩ : ∃ K,K3 + 7 * R.cls.length = K := ⟨_,rfl⟩
 have E4 : Hid (K3 + 7 * R.cls.length = K4) := hK4
 rw [hK4]
 have n1 : ¬ ((K1 : Int) < 0) := by omega
 have n2 : ¬ ((K2 : Int) < 0) := by omega
 have n3 : ¬ ((K3 : Int) < 0) := by omega
 have n4 : ¬ ((K4 : Int) < 0) := by omega
 obtain ⟨b0,b1,b2,b3,b4,b5,b6,b7,b8⟩ := hB.cells
 have HW : Hid (w.alloc (.cells #[.int .i64 R.now,X.e,X.w,X.m,X.k,.int .i64 R.pol.sk.added,X.f,X.c,.int .i64 R.hits] 34) = w1) := hw1
 rw [← hw1] at b0 b1 b2 b3 b4 b5 b6 b7 b8
 clear hw1 hO hm hK1 hK2 hK3 hK4 e1 e2 e3
 go_enter Tryz.func12,Tryz.ntmps12
 go_wp2_with fail
 rw [HW.out] at b0 b1 b2 b3 b4 b5 b6 b7 b8 ⊢
 refine c1.mono ?_
 rintro e w2 ⟨rfl,hb2⟩
 clear c1 b0 b1 b2 b3 b4 b5 b6 b7 b8
 have hbw2 := hb1.trans (hb2.mono hb1.size)
 have hO2 := hO1.below hb2 (Nat.le_refl _)
 have hB2 := hB.on hb2
 obtain ⟨b0,b1,b2,b3,b4,b5,b6,b7,b8⟩ := hB2.cells
 have c2 := heldPolicy_v w2 lo hi X.w X.m X.k R.pol K1 (by rw [← HK.out.1]; exact hO2.p) l2 p1 (by omega)
 rw [E2.out] at c2
 clear hO1 hB
 go_wp2_with fail
 refine c2.mono ?_
 rintro e w3 ⟨rfl,hb3⟩
 clear c2 b0 b1 b2 b3 b4 b5 b6 b7 b8
 have hbw3 := hbw2.trans (hb3.mono hbw2.size)
 have hO3 := hO2.below hb3 (Nat.le_refl _)
 have hB3 := hB2.on hb3
 obtain ⟨b0,b1,b2,b3,b4,b5,b6,b7,b8⟩ := hB3.cells
 have c3 := heldFetchS_any w3 lo X.f R.fes.length K2 (by rw [← HK.out.2.1]; exact hO3.f) l3 p2 (by omega)
 rw [E3.out] at c3
 clear hO2 hB2
 go_wp2_with fail
 refine c3.mono ?_
 rintro e w4 ⟨rfl,hb4⟩
 clear c3 b0 b1 b2 b3 b4 b5 b6 b7 b8
 have hbw4 := hbw3.trans (hb4.mono hbw3.size)
 have hO4 := hO3.below hb4 (Nat.le_refl _)
 have hB4 := hB3.on hb4
 obtain ⟨b0,b1,b2,b3,b4,b5,b6,b7,b8⟩ := hB4.cells
 have c4 := heldClientS_any w4 lo X.c R.cls.length K3 (by rw [← HK.out.2.2]; exact hO4.c) l4 p3 (by omega)
 rw [E4.out] at c4
 clear hO3 hB3
 go_wp2_with fail
 refine c4.mono ?_
 rintro e w5 ⟨rfl,hb5⟩
 clear c4 b0 b1 b2 b3 b4 b5 b6 b7 b8
 go_wp2_with fail
 go_ret
 exact ⟨rfl,hbw4.trans (hb5.mono hbw4.size)⟩
structure PXM (w : World) (lo T : Nat) (X : Pc) (R : Prx) : Prop where
 le : lo ≤ T
 box : NB w T 34 (.int .i64 R.now) X.e X.w X.m X.k (.int .i64 R.pol.sk.added) X.f X.c (.int .i64 R.hits)
 own : PxMk w lo T X R
theorem PXM.on {w w' : World} {lo T : Nat} {X : Pc} {R : Prx} (h : PXM w lo T X R) (hb : Below w.heap.size w w') : PXM w' lo T X R := ⟨h.le,h.box.on hb,h.own.below hb (Nat.le_refl _)⟩
end Go.Proofs.YthfjfccdelbkhaaGreatDoor
