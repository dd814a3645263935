/- Texts that stand in one: CliLaw, PrxLaw. -/
import Derived.Test.YthfjfccdelbkhaaGreatDoorFetRowsJ
import Derived.Test.YthfjfccdelbkhaaGreatDoorSkLaw3J
import Derived.Lib.QuietBelow
import Derived.BigQuiet
import Derived.Test.YthfjfccdelbkhaaGreatDoorPrxBaseJ
namespace Go.Proofs.YthfjfccdelbkhaaGreatDoor
open Go.RowKit Go.Sort
theorem Tryz.infoCli : (Tryz.prog.info? 86).map (fun i => (i.zero,i.size,i.bytes)) = some (some (.agg #[.int .i64 0,.string ⟨#[]⟩,.int .i64 0,.int .i64 0,.int .i64 0,.string ⟨#[]⟩,.int .i64 0]), 7, 72) := by kernel_rfl
theorem eqClient_same (w : World) (f : Cli) :
  Calls Tryz.prog 53 #[.agg #[.int .i64 f.id,.string f.key,.int .i64 f.fe,.int .i64 f.fr,.int .i64 f.st,.string f.got,.int .i64 f.ag],.agg #[.int .i64 f.id,.string f.key,.int .i64 f.fe,.int .i64 f.fr,.int .i64 f.st,.string f.got,.int .i64 f.ag]] w fun e w' => e = .returned (.bool true) ∧ Below w.heap.size w w' := by
 go_enter Tryz.func53,Tryz.ntmps53
 go_wp2
 go_ret
 exact ⟨rfl,((Below.refl w.heap.size w).alloc (Nat.le_refl _) _).alloc (by simp) _⟩
set_option maxHeartbeats 1000000 in
theorem eqClientS_same (w : World) (a b : Option Addr) (c1 c2 : Nat) (L : List Cli) (hA : CliAt w a L w.heap.size) (hB : CliAt w b L w.heap.size) (hl : L.length ≤ 1048576) :
  Calls Tryz.prog 25 #[.slice a L.length c1,.slice b L.length c2] w fun e w' => e = .returned (.bool true) ∧ Below w.heap.size w w' := by
 go_enter Tryz.func25,Tryz.ntmps25
 go_wp2
 go_loopw [5] (fun i wr => Box (∃ (k : Nat),k ≤ L.length ∧ i = .int .i64 k ∧ Below w.heap.size w wr))
  (fun i _ => L.length - (intOf i).toNat)
 case atStart => exact ⟨⟨0,by omega,rfl,Below.refl _ _⟩⟩
 case round =>
  obtain ⟨k,hk,rfl,hbel⟩ := hrel.out
  by_cases hlt : k < L.length
  ·obtain ⟨g,off,rfl,hg,hc0,hc1,hc2,hc3,hc4,hc5,hc6⟩ := (hA.below hbel (Nat.le_refl _)) k hlt
   obtain ⟨g',off',rfl,hg',hd0,hd1,hd2,hd3,hd4,hd5,hd6⟩ := (hB.below hbel (Nat.le_refl _)) k hlt
   obtain ⟨f,hf⟩ : ∃ f,L[k] = f := ⟨_,rfl⟩
   rw [hf] at hc0 hc1 hc2 hc3 hc4 hc5 hc6 hd0 hd1 hd2 hd3 hd4 hd5 hd6
   have k0 := cell_regrown hc0
   have k1 := cell_regrown hc1
   have k2 := cell_regrown hc2
   have k3 := cell_regrown hc3
   have k4 := cell_regrown hc4
   have k5 := cell_regrown hc5
   have k6 := cell_regrown hc6
   have l0 := cell_regrown hd0
   have l1 := cell_regrown hd1
   have l2 := cell_regrown hd2
   have l3 := cell_regrown hd3
   have l4 := cell_regrown hd4
   have l5 := cell_regrown hd5
   have l6 := cell_regrown hd6
   have cV : ∀ d os,Calls Tryz.prog 53 #[.agg #[.int .i64 f.id,.string f.key,.int .i64 f.fe,.int .i64 f.fr,.int .i64 f.st,.string f.got,.int .i64 f.ag],.agg #[.int .i64 f.id,.string f.key,.int .i64 f.fe,.int .i64 f.fr,.int .i64 f.st,.string f.got,.int .i64 f.ag]] (grow (redrawn wr d) os) fun e w'' => e = .returned (.bool true) ∧ ∃ p : Regrown,w'' = grow (redrawn wr p.d) p.os := fun d os => Calls.regrown_of (by have := eqClient_same (grow (redrawn wr d) os) f; simpa using this)
   clear hA hB hrel hc0 hc1 hc2 hc3 hc4 hc5 hc6 hd0 hd1 hd2 hd3 hd4 hd5 hd6
   have hi1 : (0 : Int) ≤ (k : Int) := by omega
   have hi2 : (k : Int) < (L.length : Int) := by omega
   go_wp2
   refine wp_region_quiet_below (by kernel_rfl) (by kernel_rfl) ?_
   repeat (first | go_big_quiet_step (exact cV _ _) | quiet_step (exact cV _ _))
   refine wpQuiet_nil ?_
   intro _ hw'
   obtain ⟨⟨dq,osq⟩,hw''⟩ := hw'
   subst hw''
   go_wp2
   go_roundw
   case rel =>
    try ((repeat apply Exists.intro); refine ⟨?_,rfl⟩)
    exact ⟨⟨k + 1,by omega,by go_num,hbel.trans ((below_regrown wr dq osq).mono hbel.size)⟩⟩
   case measure => simp [intOf]; omega
  ·go_wp2
   go_ret
   exact ⟨rfl,hbel⟩
theorem eqEntryS_v (w : World) (x y : Value) (L : List En) (hx : EnsV w x L w.heap.size) (hy : EnsV w y L w.heap.size) (hl : L.length ≤ 1048576) :
  Calls Tryz.prog 9 #[x,y] w fun e w' => e = .returned (.bool true) ∧ Below w.heap.size w w' := by
 obtain ⟨a,c1,rfl,hA⟩ := hx
 obtain ⟨b,c2,rfl,hB⟩ := hy
 exact eqEntryS_same w a b c1 c2 L hA hB hl
theorem eqFetchS_v (w : World) (x y : Value) (L : List Fet) (hx : FetV w x L w.heap.size) (hy : FetV w y L w.heap.size) (hl : L.length ≤ 1048576) :
  Calls Tryz.prog 24 #[x,y] w fun e w' => e = .returned (.bool true) ∧ Below w.heap.size w w' := by
 obtain ⟨a,c1,rfl,hA⟩ := hx
 obtain ⟨b,c2,rfl,hB⟩ := hy
 exact eqFetchS_same w a b c1 c2 L hA hB hl
theorem eqClientS_v (w : World) (x y : Value) (L : List Cli) (hx : CliV w x L w.heap.size) (hy : CliV w y L w.heap.size) (hl : L.length ≤ 1048576) :
  Calls Tryz.prog 25 #[x,y] w fun e w' => e = .returned (.bool true) ∧ Below w.heap.size w w' := by
 obtain ⟨a,c1,rfl,hA⟩ := hx
 obtain ⟨b,c2,rfl,hB⟩ := hy
 exact eqClientS_same w a b c1 c2 L hA hB hl
theorem eqPolicy_v (w : World) (x y z a b c : Value) (P : Pol) (hx : PlV w x y z P w.heap.size) (hy : PlV w a b c P w.heap.size) (hsz : PolSz P) :
  Calls Tryz.prog 23 #[.agg #[x,y,z,.int .i64 P.sk.added],.agg #[a,b,c,.int .i64 P.sk.added]] w fun e w' => e = .returned (.bool true) ∧ Below w.heap.size w w' := by
 obtain ⟨aw,cw,am,cm,ak,ck,rfl,rfl,rfl,hA⟩ := hx.at
 obtain ⟨bw,dw,bm,dm,bk,dk,rfl,rfl,rfl,hB⟩ := hy.at
 exact eqPolicy_same w aw am ak bw bm bk cw cm ck dw dm dk P hA hB hsz
set_option maxHeartbeats 2000000 in
theorem eqProxy_same (w : World) (X Y : Pc) (R : Prx) (hA : PxAt w X R w.heap.size) (hB : PxAt w Y R w.heap.size) (hsz : PxSz R) :
  Calls Tryz.prog 8 #[.agg #[.int .i64 R.now,X.e,X.w,X.m,X.k,.int .i64 R.pol.sk.added,X.f,X.c,.int .i64 R.hits],.agg #[.int .i64 R.now,Y.e,Y.w,Y.m,Y.k,.int .i64 R.pol.sk.added,Y.f,Y.c,.int .i64 R.hits]] w fun e w' => e = .returned (.bool true) ∧ Below w.heap.size w w' := by
 obtain ⟨l1,l2,l3,l4⟩ := hsz.parts
 obtain ⟨w0,hw0⟩ : ∃ x,w.alloc (.cells #[.int .i64 R.now,X.e,X.w,X.m,X.k,.int .i64 R.pol.sk.added,X.f,X.c,.int .i64 R.hits] 34) = x := ⟨_,rfl⟩
 obtain ⟨w1,hw1⟩ : ∃ x,w0.alloc (.cells #[.int .i64 R.now,Y.e,Y.w,Y.m,Y.k,.int .i64 R.pol.sk.added,Y.f,Y.c,.int .i64 R.hits] 34) = x := ⟨_,rfl⟩
 have hb0 : Below w.heap.size w w0 := by rw [← hw0]; exact (Below.refl _ _).alloc (Nat.le_refl _) _
 have hb1 : Below w0.heap.size w0 w1 := by rw [← hw1]; exact (Below.refl _ _).alloc (Nat.le_refl _) _
 have s0 : w0.heap.size = w.heap.size + 1 := by rw [← hw0]; simp
 have hX : NB w1 w.heap.size 34 (.int .i64 R.now) X.e X.w X.m X.k (.int .i64 R.pol.sk.added) X.f X.c (.int .i64 R.hits) := by
  have h : NB w0 w.heap.size 34 (.int .i64 R.now) X.e X.w X.m X.k (.int .i64 R.pol.sk.added) X.f X.c (.int .i64 R.hits) := by rw [← hw0]; exact NB.new _ _ _ _ _ _ _ _ _ _ _
  exact h.on hb1
 have hY : NB w1 (w.heap.size + 1) 34 (.int .i64 R.now) Y.e Y.w Y.m Y.k (.int .i64 R.pol.sk.added) Y.f Y.c (.int .i64 R.hits) := by rw [← hw1, ← s0]; exact NB.new _ _ _ _ _ _ _ _ _ _ _
 have hbw : Below w.heap.size w w1 := hb0.trans (hb1.mono hb0.size)
 obtain ⟨x0,x1,x2,x3,x4,x5,x6,x7,x8⟩ := hX.cells
 obtain ⟨y0,y1,y2,y3,y4,y5,y6,y7,y8⟩ := hY.cells
 have HW : Hid ((w.alloc (.cells #[.int .i64 R.now,X.e,X.w,X.m,X.k,.int .i64 R.pol.sk.added,X.f,X.c,.int .i64 R.hits] 34)).alloc (.cells #[.int .i64 R.now,Y.e,Y.w,Y.m,Y.k,.int .i64 R.pol.sk.added,Y.f,Y.c,.int .i64 R.hits] 34) = w1) := by rw [hw0]; exact hw1
 have hA1 := hA.on hbw
 have hB1 := hB.on hbw
 have e1 := eqEntryS_v w1 X.e Y.e R.ents hA1.e hB1.e l1
 rw [← hw1, ← hw0] at x0 x1 x2 x3 x4 x5 x6 x7 x8 y0 y1 y2 y3 y4 y5 y6 y7 y8
 clear hw0 hw1 s0 hb0 hb1 hA hB
 go_enter Tryz.func8,Tryz.ntmps8
 go_wp2_with fail
 rw [HW.out] at x0 x1 x2 x3 x4 x5 x6 x7 x8 y0 y1 y2 y3 y4 y5 y6 y7 y8 ⊢
 refine e1.mono ?_
 rintro e w2 ⟨rfl,hb2⟩
 clear e1 x0 x1 x2 x3 x4 x5 x6 x7 x8 y0 y1 y2 y3 y4 y5 y6 y7 y8
 have hbw2 := hbw.trans (hb2.mono hbw.size)
 have hX2 := hX.on hb2
 have hY2 := hY.on hb2
 have hA2 := hA1.on hb2
 have hB2 := hB1.on hb2
 clear hX hY hA1 hB1
 obtain ⟨x0,x1,x2,x3,x4,x5,x6,x7,x8⟩ := hX2.cells
 obtain ⟨y0,y1,y2,y3,y4,y5,y6,y7,y8⟩ := hY2.cells
 have e2 := eqPolicy_v w2 X.w X.m X.k Y.w Y.m Y.k R.pol hA2.pol hB2.pol l2
 go_wp2_with fail
 refine e2.mono ?_
 rintro e w3 ⟨rfl,hb3⟩
 clear e2 x0 x1 x2 x3 x4 x5 x6 x7 x8 y0 y1 y2 y3 y4 y5 y6 y7 y8
 have hbw3 := hbw2.trans (hb3.mono hbw2.size)
 have hX3 := hX2.on hb3
 have hY3 := hY2.on hb3
 have hA3 := hA2.on hb3
 have hB3 := hB2.on hb3
 clear hX2 hY2 hA2 hB2
 obtain ⟨x0,x1,x2,x3,x4,x5,x6,x7,x8⟩ := hX3.cells
 obtain ⟨y0,y1,y2,y3,y4,y5,y6,y7,y8⟩ := hY3.cells
 have e3 := eqFetchS_v w3 X.f Y.f R.fes hA3.f hB3.f l3
 go_wp2_with fail
 refine e3.mono ?_
 rintro e w4 ⟨rfl,hb4⟩
 clear e3 x0 x1 x2 x3 x4 x5 x6 x7 x8 y0 y1 y2 y3 y4 y5 y6 y7 y8
 have hbw4 := hbw3.trans (hb4.mono hbw3.size)
 have hX4 := hX3.on hb4
 have hY4 := hY3.on hb4
 have hA4 := hA3.on hb4
 have hB4 := hB3.on hb4
 clear hX3 hY3 hA3 hB3
 obtain ⟨x0,x1,x2,x3,x4,x5,x6,x7,x8⟩ := hX4.cells
 obtain ⟨y0,y1,y2,y3,y4,y5,y6,y7,y8⟩ := hY4.cells
 have e4 := eqClientS_v w4 X.c Y.c R.cls hA4.c hB4.c l4
 go_wp2_with fail
 refine e4.mono ?_
 rintro e w5 ⟨rfl,hb5⟩
 clear e4 x0 x1 x2 x3 x4 x5 x6 x7 x8 y0 y1 y2 y3 y4 y5 y6 y7 y8
 have hbw5 := hbw4.trans (hb5.mono hbw4.size)
 have hX5 := hX4.on hb5
 have hY5 := hY4.on hb5
 have hA5 := hA4.on hb5
 have hB5 := hB4.on hb5
 clear hX4 hY4 hA4 hB4
 obtain ⟨x0,x1,x2,x3,x4,x5,x6,x7,x8⟩ := hX5.cells
 obtain ⟨y0,y1,y2,y3,y4,y5,y6,y7,y8⟩ := hY5.cells
 go_wp2_with fail
 go_ret
 exact ⟨rfl,hbw5⟩
end Go.Proofs.YthfjfccdelbkhaaGreatDoor
