/- Texts that stand in one: CliLaw, PrxLaw. -/
import Derived.Test.YtpgcfgbhkodmeaaGreatDoorFetRowsJ
import Derived.Test.YtpgcfgbhkodmeaaGreatDoorSkLaw3J
import Derived.Lib.QuietBelow
import Derived.BigQuiet
import Derived.Test.YtpgcfgbhkodmeaaGreatDoorPrxBaseJ
namespace Go.Proofs.YtpgcfgbhkodmeaaGreatDoor
open Go.RowKit Go.Sort
theorem Tryz.infoCli : (Tryz.prog.info? 87).map (fun i => (i.zero,i.size,i.bytes)) = some (some (.agg #[.int .i64 0,.string ⟨#[]⟩,.int .i64 0,.int .i64 0,.int .i64 0,.string ⟨#[]⟩,.int .i64 0]), 7, 72) := by kernel_rfl
set_option maxHeartbeats 1000000 in
theorem szClient_any (w : World) (f : Cli) (left : Int) (h0 : 0 ≤ left) (h1 : left ≤ 1048576) (hn1 : f.key.size ≤ maxLen) (hn5 : f.got.size ≤ maxLen) :
  Calls Tryz.prog 105 #[.agg #[.int .i64 f.id,.string f.key,.int .i64 f.fe,.int .i64 f.fr,.int .i64 f.st,.string f.got,.int .i64 f.ag],.int .i64 left] w fun e w' => ∃ r : Int,e = .returned (.int .i64 r) ∧ (r = -1 ∨ 0 ≤ r ∧ r + (f.wg : Int) = left) ∧ Below w.heap.size w w' := by
 obtain ⟨a0,a1,a2,a3,a4,a5,a6⟩ := f
 dsimp only at *
 unfold maxLen at hn1 hn5
 have hb := (Below.refl w.heap.size w).alloc (Nat.le_refl _) (.cells #[.int .i64 a0,.string a1,.int .i64 a2,.int .i64 a3,.int .i64 a4,.string a5,.int .i64 a6] 150)
 by_cases hA : left - a1.size < 0
 ·go_enter Tryz.func105,Tryz.ntmps105
  go_wp2
  go_ret
  exact ⟨_,rfl,.inl rfl,hb⟩
 ·by_cases hB : left - a1.size - a5.size < 0
  ·go_enter Tryz.func105,Tryz.ntmps105
   go_wp2
   go_ret
   exact ⟨_,rfl,.inl rfl,hb⟩
  ·go_enter Tryz.func105,Tryz.ntmps105
   go_wp2
   go_ret
   exact ⟨_,rfl,.inr ⟨by omega,by simp only [Cli.wg]; omega⟩,hb⟩
theorem toClient_any (w : World) (f : Cli) :
  Calls Tryz.prog 117 #[.agg #[.int .i64 f.id,.string f.key,.int .i64 f.fe,.int .i64 f.fr,.int .i64 f.st,.string f.got,.int .i64 f.ag]] w fun e w' => e = .returned (.agg #[.int .i64 f.id,.string f.key,.int .i64 f.fe,.int .i64 f.fr,.int .i64 f.st,.string f.got,.int .i64 f.ag]) ∧ Below w.heap.size w w' := by
 go_enter Tryz.func117,Tryz.ntmps117
 go_wp2
 refine bodyPost_ret (v := .agg #[.int .i64 f.id,.string f.key,.int .i64 f.fe,.int .i64 f.fr,.int .i64 f.st,.string f.got,.int .i64 f.ag]) (by simp [results,Tryz.results117,go_sem]) rfl ⟨rfl, ?_⟩
 exact (((Below.refl w.heap.size w).alloc (Nat.le_refl _) _).alloc (by simp) _).alloc (by simp; omega) _
theorem eqClient_same (w : World) (f : Cli) :
  Calls Tryz.prog 136 #[.agg #[.int .i64 f.id,.string f.key,.int .i64 f.fe,.int .i64 f.fr,.int .i64 f.st,.string f.got,.int .i64 f.ag],.agg #[.int .i64 f.id,.string f.key,.int .i64 f.fe,.int .i64 f.fr,.int .i64 f.st,.string f.got,.int .i64 f.ag]] w fun e w' => e = .returned (.bool true) ∧ Below w.heap.size w w' := by
 go_enter Tryz.func136,Tryz.ntmps136
 go_wp2
 go_ret
 exact ⟨rfl,((Below.refl w.heap.size w).alloc (Nat.le_refl _) _).alloc (by simp) _⟩
set_option maxHeartbeats 1000000 in
theorem szClientS_any (w : World) (a : Option Addr) (cap : Nat) (L : List Cli) (left : Int) (h0 : 0 ≤ left) (h1 : left ≤ 1048576) (hL : CliAt w a L w.heap.size) (hs : SizedCli L) (hm : L.length ≤ maxLen) :
  Calls Tryz.prog 42 #[.slice a L.length cap,.int .i64 left] w fun e w' => ∃ r : Int,e = .returned (.int .i64 r) ∧ (r = -1 ∨ 0 ≤ r ∧ r + ((L.length + clwg L : Nat) : Int) = left) ∧ Below w.heap.size w w' := by
 unfold maxLen at hm
 by_cases hA : left - L.length < 0
 ·go_enter Tryz.func42,Tryz.ntmps42
  go_wp2
  go_ret
  exact ⟨_,rfl,.inl rfl,Below.refl _ _⟩
 ·go_enter Tryz.func42,Tryz.ntmps42
  go_wp2
  go_loopw [1, 5] (fun n i wr => Box (∃ (k : Nat) (r : Int),k ≤ L.length ∧ i = .int .i64 k ∧ n = .int .i64 r ∧ 0 ≤ r ∧ r + ((L.length + clwg (L.take k) : Nat) : Int) = left ∧ Below w.heap.size w wr))
   (fun _ i _ => L.length - (intOf i).toNat)
  case atStart => exact ⟨⟨0,_,by omega,rfl,rfl,by omega,by simp [clwg],Below.refl _ _⟩⟩
  case round =>
   obtain ⟨k,r,hk,rfl,rfl,hr0,hr,hbel⟩ := hrel.out
   by_cases hlt : k < L.length
   ·obtain ⟨g,off,rfl,hg,hc0,hc1,hc2,hc3,hc4,hc5,hc6⟩ := (hL.below hbel (Nat.le_refl _)) k hlt
    have hsz := hs k hlt
    have hstep := clwg_take_succ L k hlt
    obtain ⟨f,hf⟩ : ∃ f,L[k] = f := ⟨_,rfl⟩
    rw [hf] at hc0 hc1 hc2 hc3 hc4 hc5 hc6 hsz hstep
    have c1 := szClient_any wr f r (by omega) (by omega) hsz.1.1 hsz.1.2
    clear hL hs hsz hrel
    have hi1 : (0 : Int) ≤ (k : Int) := by omega
    have hi2 : (k : Int) < (L.length : Int) := by omega
    go_wp2_with fail
    refine c1.mono ?_
    rintro e w1 ⟨r1,rfl,hr1,hb1⟩
    have hbel1 := hbel.trans (hb1.mono hbel.size)
    rcases hr1 with rfl | ⟨hp,hr1⟩
    ·go_wp2
     go_ret
     exact ⟨_,rfl,.inl rfl,hbel1⟩
    ·go_wp2
     go_roundw
     case rel =>
      try ((repeat apply Exists.intro); refine ⟨?_,rfl⟩)
      exact ⟨⟨k + 1,_,by omega,by go_num,rfl,hp,by omega,hbel1⟩⟩
     case measure => simp [intOf]; omega
   ·go_wp2
    go_ret
    have hke : k = L.length := by omega
    subst hke
    rw [List.take_length] at hr
    exact ⟨_,rfl,.inr ⟨hr0,hr⟩,hbel⟩
set_option maxHeartbeats 1000000 in
theorem toClientS_any (w : World) (a : Option Addr) (cap : Nat) (L : List Cli) (hL : CliAt w a L w.heap.size) (hm : L.length ≤ 1048576) :
  Calls Tryz.prog 54 #[.slice a L.length cap] w fun e w' => ∃ v,e = .returned v ∧ OwnCli w' w.heap.size 87 v L ∧ Below w.heap.size w w' := by
 obtain ⟨w0,hmk,hown,hb0⟩ := make_clis (P := Tryz.prog) w 46 87 Tryz.underlying46 Tryz.infoCli L.length hm
 obtain ⟨G,hG⟩ : ∃ G,w.heap.size = G := ⟨_,rfl⟩
 rw [hG] at hmk hown
 go_enter Tryz.func54,Tryz.ntmps54
 go_wp2
 go_loopw [4] (fun i wr => Box (∃ (k : Nat),k ≤ L.length ∧ i = .int .i64 k ∧ OwnCli wr G 87 (.slice (some ⟨G, 0,none⟩) L.length L.length) (L.take k ++ List.replicate (L.length - k) zCli) ∧ Below w.heap.size w wr))
  (fun i _ => L.length - (intOf i).toNat)
 case atStart => exact ⟨⟨0,by omega,rfl,by simpa using hown,hb0⟩⟩
 case round =>
  obtain ⟨k,hk,rfl,hown1,hbel⟩ := hrel.out
  by_cases hlt : k < L.length
  ·obtain ⟨g,off,rfl,hg,hc0,hc1,hc2,hc3,hc4,hc5,hc6⟩ := (hL.below hbel (Nat.le_refl _)) k hlt
   have hset := take_set_zCli L k hlt
   obtain ⟨f,hf⟩ : ∃ f,L[k] = f := ⟨_,rfl⟩
   rw [hf] at hc0 hc1 hc2 hc3 hc4 hc5 hc6
   have c1 := toClient_any wr f
   have hlen : L.length = (L.take k ++ List.replicate (L.length - k) zCli).length := by simp; omega
   have HX : Hid (∀ w1,Below wr.heap.size wr w1 → OwnCli w1 G 87 (.slice (some ⟨G, 0,none⟩) L.length L.length) (L.take k ++ List.replicate (L.length - k) zCli)) := fun w1 hb => hown1.below hb (Nat.le_refl _)
   have HS : Hid (L.length = (L.take k ++ List.replicate (L.length - k) zCli).length ∧ (L.take k ++ List.replicate (L.length - k) zCli).set k f = L.take (k + 1) ++ List.replicate (L.length - (k + 1)) zCli) := ⟨hlen,hset f hf⟩
   clear hL hrel
   have hi1 : (0 : Int) ≤ (k : Int) := by omega
   have hi2 : (k : Int) < (L.length : Int) := by omega
   clear hmk hown hb0 hset hlen hown1
   go_wp2_with fail
   refine c1.mono ?_
   rintro e w1 ⟨rfl,hb1⟩
   have hown2 := HX.out w1 hb1
   have hrow2 : w1.ownsRow G 87 7 (.slice (some ⟨G, 0,none⟩) L.length L.length) L.length (cltl (L.take k ++ List.replicate (L.length - k) zCli)) := by
    have h := hown2
    unfold OwnCli at h
    rwa [← HS.out.1] at h
   obtain ⟨u0,k0,f0⟩ := row7_there hrow2 (k * 7) (by omega)
   obtain ⟨u1,k1,f1⟩ := row7_there hrow2 (k * 7 + 1) (by omega)
   obtain ⟨u2,k2,f2⟩ := row7_there hrow2 (k * 7 + 2) (by omega)
   obtain ⟨u3,k3,f3⟩ := row7_there hrow2 (k * 7 + 3) (by omega)
   obtain ⟨u4,k4,f4⟩ := row7_there hrow2 (k * 7 + 4) (by omega)
   obtain ⟨u5,k5,f5⟩ := row7_there hrow2 (k * 7 + 5) (by omega)
   obtain ⟨u6,k6,f6⟩ := row7_there hrow2 (k * 7 + 6) (by omega)
   clear hrow2
   go_wp2
   go_roundw
   case rel =>
    try ((repeat apply Exists.intro); refine ⟨?_,rfl⟩)
    have h2 := hown2.stored HS.out.1 k f
    rw [HS.out.2] at h2
    exact ⟨⟨k + 1,by omega,by go_num,h2.1,Below.grown (hbel.trans (hb1.mono hbel.size)) h2.2 (Nat.le_trans hbel.size hb1.size) (fun j hj => by simp at hj; omega)⟩⟩
   case measure => simp [intOf]; omega
  ·go_wp2
   go_ret
   have hke : k = L.length := by omega
   subst hke
   simp only [List.take_length,Nat.sub_self,List.replicate_zero,List.append_nil] at hown1
   exact ⟨_,rfl,by rw [hG]; exact hown1,hbel⟩
set_option maxHeartbeats 1000000 in
theorem eqClientS_same (w : World) (a b : Option Addr) (c1 c2 : Nat) (L : List Cli) (hA : CliAt w a L w.heap.size) (hB : CliAt w b L w.heap.size) (hl : L.length ≤ 1048576) :
  Calls Tryz.prog 64 #[.slice a L.length c1,.slice b L.length c2] w fun e w' => e = .returned (.bool true) ∧ Below w.heap.size w w' := by
 go_enter Tryz.func64,Tryz.ntmps64
 go_wp2
 go_loopw [5] (fun i wr => Box (∃ (k : Nat),k ≤ L.length ∧ i = .int .i64 k ∧ Below w.heap.size w wr))
  (fun i _ => L.length - (intOf i).toNat)
 case atStart => exact ⟨⟨0,by omega,rfl,Below.refl _ _⟩⟩
 case round =>
  obtain ⟨k,hk,rfl,hbel⟩ := hrel.out
  by_cases hlt : k < L.length
  ·obtain ⟨g,off,rfl,hg,hc0,hc1,hc2,hc3,hc4,hc5,hc6⟩ := (hA.below hbel (Nat.le_refl _)) k hlt
   obtain ⟨g',off',rfl,hg',hd0,hd1,hd2,hd3,hd4,hd5,hd6⟩ := (hB.below hbel (Nat.le_refl _)) k hlt
   obtain ⟨f,hf⟩ : ∃ f,L[k] = f := ⟨_,rfl⟩
   rw [hf] at hc0 hc1 hc2 hc3 hc4 hc5 hc6 hd0 hd1 hd2 hd3 hd4 hd5 hd6
   have k0 := cell_regrown hc0
   have k1 := cell_regrown hc1
   have k2 := cell_regrown hc2
   have k3 := cell_regrown hc3
   have k4 := cell_regrown hc4
   have k5 := cell_regrown hc5
   have k6 := cell_regrown hc6
   have l0 := cell_regrown hd0
   have l1 := cell_regrown hd1
   have l2 := cell_regrown hd2
   have l3 := cell_regrown hd3
   have l4 := cell_regrown hd4
   have l5 := cell_regrown hd5
   have l6 := cell_regrown hd6
   have cV : ∀ d os,Calls Tryz.prog 136 #[.agg #[.int .i64 f.id,.string f.key,.int .i64 f.fe,.int .i64 f.fr,.int .i64 f.st,.string f.got,.int .i64 f.ag],.agg #[.int .i64 f.id,.string f.key,.int .i64 f.fe,.int .i64 f.fr,.int .i64 f.st,.string f.got,.int .i64 f.ag]] (grow (redrawn wr d) os) fun e w'' => e = .returned (.bool true) ∧ ∃ p : Regrown,w'' = grow (redrawn wr p.d) p.os := fun d os => Calls.regrown_of (by have := eqClient_same (grow (redrawn wr d) os) f; simpa using this)
   clear hA hB hrel hc0 hc1 hc2 hc3 hc4 hc5 hc6 hd0 hd1 hd2 hd3 hd4 hd5 hd6
   have hi1 : (0 : Int) ≤ (k : Int) := by omega
   have hi2 : (k : Int) < (L.length : Int) := by omega
   go_wp2
   refine wp_region_quiet_below (by kernel_rfl) (by kernel_rfl) ?_
   repeat (first | go_big_quiet_step (exact cV _ _) | quiet_step (exact cV _ _))
   refine wpQuiet_nil ?_
   intro _ hw'
   obtain ⟨⟨dq,osq⟩,hw''⟩ := hw'
   subst hw''
   go_wp2
   go_roundw
   case rel =>
    try ((repeat apply Exists.intro); refine ⟨?_,rfl⟩)
    exact ⟨⟨k + 1,by omega,by go_num,hbel.trans ((below_regrown wr dq osq).mono hbel.size)⟩⟩
   case measure => simp [intOf]; omega
  ·go_wp2
   go_ret
   exact ⟨rfl,hbel⟩
set_option maxHeartbeats 2000000 in
theorem szPolicy_left (w : World) (aw am ak : Option Addr) (cw cm ck : Nat) (P : Pol) (left : Int) (hl0 : 0 ≤ left) (hl1 : left ≤ 1048576) (hA : PolAt w aw am ak P w.heap.size) (hm : P.win.length ≤ maxLen) (hm' : P.main.length ≤ maxLen) (hz : ∀ j (hj : j < P.win.length),P.win[j].size ≤ maxLen) (hz' : ∀ j (hj : j < P.main.length),P.main[j].size ≤ maxLen) (hs : P.sk.rows.length ≤ maxLen) (hs' : ∀ j (hj : j < P.sk.rows.length),P.sk.rows[j].length ≤ maxLen) :
  Calls Tryz.prog 40 #[.agg #[.slice aw P.win.length cw,.slice am P.main.length cm,.slice ak P.sk.rows.length ck,.int .i64 P.sk.added],.int .i64 left] w fun e w' => ∃ r : Int,e = .returned (.int .i64 r) ∧ (r = -1 ∨ 0 ≤ r ∧ r + (wgtP P : Int) = left) ∧ Below w.heap.size w w' := by
 obtain ⟨w1,hw1⟩ : ∃ x,w.alloc (.cells #[.slice aw P.win.length cw,.slice am P.main.length cm,.slice ak P.sk.rows.length ck,.int .i64 P.sk.added] 28) = x := ⟨_,rfl⟩
 have hb1 : Below w.heap.size w w1 := by rw [← hw1]; exact (Below.refl _ _).alloc (Nat.le_refl _) _
 have hB : QBox w1 w.heap.size (.slice aw P.win.length cw) (.slice am P.main.length cm) (.slice ak P.sk.rows.length ck) (.int .i64 P.sk.added) := by rw [← hw1]; exact QBox.new _ _ _ _ _
 have hA1 := hA.on hb1
 obtain ⟨b0,b1,b2,b3⟩ := hB.cells
 have c1 := szStringS_any w1 aw cw P.win left hl0 hl1 hA1.1 hm hz
 have HW : Hid (w.alloc (.cells #[.slice aw P.win.length cw,.slice am P.main.length cm,.slice ak P.sk.rows.length ck,.int .i64 P.sk.added] 28) = w1) := hw1
 rw [← hw1] at b0 b1 b2 b3
 clear hw1 hB hA
 go_enter Tryz.func40,Tryz.ntmps40
 go_wp2_with fail
 rw [HW.out] at b0 b1 b2 b3 ⊢
 refine c1.mono ?_
 rintro e w2 ⟨r,rfl,hr,rfl⟩
 clear c1
 rcases hr with rfl | ⟨hr0,hr1⟩
 ·go_wp2_with fail
  go_ret
  exact ⟨_,rfl,.inl rfl,hb1⟩
 have hr2 : ¬ r < 0 := by omega
 have c2 := szStringS_any w2 am cm P.main r hr0 (by omega) hA1.2.1 hm' hz'
 have HR : Hid (r + (P.win.length : Int) + (wgtL P.win : Int) = left) := hr1
 have hr3 : r ≤ 1048576 := by omega
 clear hr1
 go_wp2_with fail
 refine c2.mono ?_
 rintro e w3 ⟨q,rfl,hq,rfl⟩
 clear c2
 rcases hq with rfl | ⟨hq0,hq1⟩
 ·go_wp2_with fail
  go_ret
  exact ⟨_,rfl,.inl rfl,hb1⟩
 have hq2 : ¬ q < 0 := by omega
 have c3 := szSketch_left w3 ak ck P.sk q hq0 (by omega) hA1.2.2 hs hs'
 have HQ : Hid (q + (P.main.length : Int) + (wgtL P.main : Int) = r) := hq1
 clear hq1
 go_wp2_with fail
 refine c3.mono ?_
 rintro e w4 ⟨u,rfl,hu,hb4⟩
 clear c3
 have hbw4 := hb1.trans (hb4.mono hb1.size)
 rcases hu with rfl | ⟨hu0,hu1⟩
 ·go_wp2_with fail
  go_ret
  exact ⟨_,rfl,.inl rfl,hbw4⟩
 have hu2 : ¬ u < 0 := by omega
 have HU : Hid (u + (wgtP P : Int) = left) := by
  show _ = _
  unfold wgtP
  have := HR.out
  have := HQ.out
  omega
 clear hu1
 go_wp2_with fail
 go_ret
 exact ⟨_,rfl,.inr ⟨hu0,HU.out⟩,hbw4⟩
theorem szEntryS_v (w : World) (v : Value) (L : List En) (left : Int) (h0 : 0 ≤ left) (h1 : left ≤ 1048576) (hL : EnsV w v L w.heap.size) (hs : SizedN L) (hm : L.length ≤ maxLen) :
  Calls Tryz.prog 19 #[v,.int .i64 left] w fun e w' => ∃ r : Int,e = .returned (.int .i64 r) ∧ (r = -1 ∨ 0 ≤ r ∧ r + ((L.length + ewg L : Nat) : Int) = left) ∧ Below w.heap.size w w' := by
 obtain ⟨a,cap,rfl,hA⟩ := hL
 exact szEntryS_any w a cap L left h0 h1 hA hs hm
theorem eqEntryS_v (w : World) (x y : Value) (L : List En) (hx : EnsV w x L w.heap.size) (hy : EnsV w y L w.heap.size) (hl : L.length ≤ 1048576) :
  Calls Tryz.prog 39 #[x,y] w fun e w' => e = .returned (.bool true) ∧ Below w.heap.size w w' := by
 obtain ⟨a,c1,rfl,hA⟩ := hx
 obtain ⟨b,c2,rfl,hB⟩ := hy
 exact eqEntryS_same w a b c1 c2 L hA hB hl
theorem szFetchS_v (w : World) (v : Value) (L : List Fet) (left : Int) (h0 : 0 ≤ left) (h1 : left ≤ 1048576) (hL : FetV w v L w.heap.size) (hs : SizedFet L) (hm : L.length ≤ maxLen) :
  Calls Tryz.prog 41 #[v,.int .i64 left] w fun e w' => ∃ r : Int,e = .returned (.int .i64 r) ∧ (r = -1 ∨ 0 ≤ r ∧ r + ((L.length + ftwg L : Nat) : Int) = left) ∧ Below w.heap.size w w' := by
 obtain ⟨a,cap,rfl,hA⟩ := hL
 exact szFetchS_any w a cap L left h0 h1 hA hs hm
theorem eqFetchS_v (w : World) (x y : Value) (L : List Fet) (hx : FetV w x L w.heap.size) (hy : FetV w y L w.heap.size) (hl : L.length ≤ 1048576) :
  Calls Tryz.prog 63 #[x,y] w fun e w' => e = .returned (.bool true) ∧ Below w.heap.size w w' := by
 obtain ⟨a,c1,rfl,hA⟩ := hx
 obtain ⟨b,c2,rfl,hB⟩ := hy
 exact eqFetchS_same w a b c1 c2 L hA hB hl
theorem szClientS_v (w : World) (v : Value) (L : List Cli) (left : Int) (h0 : 0 ≤ left) (h1 : left ≤ 1048576) (hL : CliV w v L w.heap.size) (hs : SizedCli L) (hm : L.length ≤ maxLen) :
  Calls Tryz.prog 42 #[v,.int .i64 left] w fun e w' => ∃ r : Int,e = .returned (.int .i64 r) ∧ (r = -1 ∨ 0 ≤ r ∧ r + ((L.length + clwg L : Nat) : Int) = left) ∧ Below w.heap.size w w' := by
 obtain ⟨a,cap,rfl,hA⟩ := hL
 exact szClientS_any w a cap L left h0 h1 hA hs hm
theorem eqClientS_v (w : World) (x y : Value) (L : List Cli) (hx : CliV w x L w.heap.size) (hy : CliV w y L w.heap.size) (hl : L.length ≤ 1048576) :
  Calls Tryz.prog 64 #[x,y] w fun e w' => e = .returned (.bool true) ∧ Below w.heap.size w w' := by
 obtain ⟨a,c1,rfl,hA⟩ := hx
 obtain ⟨b,c2,rfl,hB⟩ := hy
 exact eqClientS_same w a b c1 c2 L hA hB hl
theorem szPolicy_v (w : World) (x y z : Value) (P : Pol) (left : Int) (hl0 : 0 ≤ left) (hl1 : left ≤ 1048576) (h : PlV w x y z P w.heap.size) (hm : P.win.length ≤ maxLen ∧ P.main.length ≤ maxLen ∧ (∀ j (hj : j < P.win.length),P.win[j].size ≤ maxLen) ∧ (∀ j (hj : j < P.main.length),P.main[j].size ≤ maxLen) ∧ P.sk.rows.length ≤ maxLen ∧ ∀ j (hj : j < P.sk.rows.length),P.sk.rows[j].length ≤ maxLen) :
  Calls Tryz.prog 40 #[.agg #[x,y,z,.int .i64 P.sk.added],.int .i64 left] w fun e w' => ∃ r : Int,e = .returned (.int .i64 r) ∧ (r = -1 ∨ 0 ≤ r ∧ r + (wgtP P : Int) = left) ∧ Below w.heap.size w w' := by
 obtain ⟨aw,cw,am,cm,ak,ck,rfl,rfl,rfl,hA⟩ := h.at
 exact szPolicy_left w aw am ak cw cm ck P left hl0 hl1 hA hm.1 hm.2.1 hm.2.2.1 hm.2.2.2.1 hm.2.2.2.2.1 hm.2.2.2.2.2
theorem eqPolicy_v (w : World) (x y z a b c : Value) (P : Pol) (hx : PlV w x y z P w.heap.size) (hy : PlV w a b c P w.heap.size) (hsz : PolSz P) :
  Calls Tryz.prog 62 #[.agg #[x,y,z,.int .i64 P.sk.added],.agg #[a,b,c,.int .i64 P.sk.added]] w fun e w' => e = .returned (.bool true) ∧ Below w.heap.size w w' := by
 obtain ⟨aw,cw,am,cm,ak,ck,rfl,rfl,rfl,hA⟩ := hx.at
 obtain ⟨bw,dw,bm,dm,bk,dk,rfl,rfl,rfl,hB⟩ := hy.at
 exact eqPolicy_same w aw am ak bw bm bk cw cm ck dw dm dk P hA hB hsz
set_option maxHeartbeats 2000000 in
theorem szProxy_any (w : World) (X : Pc) (R : Prx) (hA : PxAt w X R w.heap.size) (hm : PxM R) :
  Calls Tryz.prog 10 #[.agg #[.int .i64 R.now,X.e,X.w,X.m,X.k,.int .i64 R.pol.sk.added,X.f,X.c,.int .i64 R.hits],.int .i64 1048576] w fun e w' => ∃ r : Int,e = .returned (.int .i64 r) ∧ (r = -1 ∨ 0 ≤ r ∧ PxSz R) ∧ Below w.heap.size w w' := by
 obtain ⟨w1,hw1⟩ : ∃ x,w.alloc (.cells #[.int .i64 R.now,X.e,X.w,X.m,X.k,.int .i64 R.pol.sk.added,X.f,X.c,.int .i64 R.hits] 32) = x := ⟨_,rfl⟩
 have hb1 : Below w.heap.size w w1 := by rw [← hw1]; exact (Below.refl _ _).alloc (Nat.le_refl _) _
 have hB : NB w1 w.heap.size 32 (.int .i64 R.now) X.e X.w X.m X.k (.int .i64 R.pol.sk.added) X.f X.c (.int .i64 R.hits) := by rw [← hw1]; exact NB.new _ _ _ _ _ _ _ _ _ _ _
 have hA1 := hA.on hb1
 obtain ⟨b0,b1,b2,b3,b4,b5,b6,b7,b8⟩ := hB.cells
 have c1 := szEntryS_v w1 X.e R.ents 1048576 (by omega) (by omega) hA1.e hm.es hm.el
 have HW : Hid (w.alloc (.cells #[.int .i64 R.now,X.e,X.w,X.m,X.k,.int .i64 R.pol.sk.added,X.f,X.c,.int .i64 R.hits] 32) = w1) := hw1
 rw [← hw1] at b0 b1 b2 b3 b4 b5 b6 b7 b8
 clear hw1 hA
 go_enter Tryz.func10,Tryz.ntmps10
 go_wp2_with fail
 rw [HW.out] at b0 b1 b2 b3 b4 b5 b6 b7 b8 ⊢
 refine c1.mono ?_
 rintro e w2 ⟨r,rfl,hr,hb2⟩
 clear c1 b0 b1 b2 b3 b4 b5 b6 b7 b8
 have hB2 := hB.on hb2
 have hA2 := hA1.on hb2
 have hbw2 := hb1.trans (hb2.mono hb1.size)
 obtain ⟨b0,b1,b2,b3,b4,b5,b6,b7,b8⟩ := hB2.cells
 rcases hr with rfl | ⟨hr0,hr1⟩
 ·go_wp2_with fail
  go_ret
  exact ⟨_,rfl,.inl rfl,hbw2⟩
 have hr2 : ¬ r < 0 := by omega
 have hr3 : r ≤ 1048576 := by omega
 have HR : Hid (r + ((R.ents.length + ewg R.ents : Nat) : Int) = 1048576) := hr1
 clear hr1 hB hA1
 have c2 := szPolicy_v w2 X.w X.m X.k R.pol r hr0 hr3 hA2.pol hm.pol
 go_wp2_with fail
 refine c2.mono ?_
 rintro e w3 ⟨q,rfl,hq,hb3⟩
 clear c2 b0 b1 b2 b3 b4 b5 b6 b7 b8
 have hB3 := hB2.on hb3
 have hA3 := hA2.on hb3
 have hbw3 := hbw2.trans (hb3.mono hbw2.size)
 obtain ⟨b0,b1,b2,b3,b4,b5,b6,b7,b8⟩ := hB3.cells
 rcases hq with rfl | ⟨hq0,hq1⟩
 ·go_wp2_with fail
  go_ret
  exact ⟨_,rfl,.inl rfl,hbw3⟩
 have hq2 : ¬ q < 0 := by omega
 have hq3 : q ≤ 1048576 := by omega
 have HQ : Hid (q + (wgtP R.pol : Int) = r) := hq1
 clear hq1 hB2 hA2
 have c3 := szFetchS_v w3 X.f R.fes q hq0 hq3 hA3.f hm.fs hm.fl
 go_wp2_with fail
 refine c3.mono ?_
 rintro e w4 ⟨u,rfl,hu,hb4⟩
 clear c3 b0 b1 b2 b3 b4 b5 b6 b7 b8
 have hB4 := hB3.on hb4
 have hA4 := hA3.on hb4
 have hbw4 := hbw3.trans (hb4.mono hbw3.size)
 obtain ⟨b0,b1,b2,b3,b4,b5,b6,b7,b8⟩ := hB4.cells
 rcases hu with rfl | ⟨hu0,hu1⟩
 ·go_wp2_with fail
  go_ret
  exact ⟨_,rfl,.inl rfl,hbw4⟩
 have hu2 : ¬ u < 0 := by omega
 have hu3 : u ≤ 1048576 := by omega
 have HU : Hid (u + ((R.fes.length + ftwg R.fes : Nat) : Int) = q) := hu1
 clear hu1 hB3 hA3
 have c4 := szClientS_v w4 X.c R.cls u hu0 hu3 hA4.c hm.cs hm.cl
 go_wp2_with fail
 refine c4.mono ?_
 rintro e w5 ⟨z,rfl,hz,hb5⟩
 clear c4 b0 b1 b2 b3 b4 b5 b6 b7 b8
 have hbw5 := hbw4.trans (hb5.mono hbw4.size)
 rcases hz with rfl | ⟨hz0,hz1⟩
 ·go_wp2_with fail
  go_ret
  exact ⟨_,rfl,.inl rfl,hbw5⟩
 have hz2 : ¬ z < 0 := by omega
 have HZ : Hid (PxSz R) := by
  show _ ≤ _
  unfold wgtX
  have := HR.out
  have := HQ.out
  have := HU.out
  omega
 clear hz1
 go_wp2_with fail
 go_ret
 exact ⟨_,rfl,.inr ⟨hz0,HZ.out⟩,hbw5⟩
set_option maxHeartbeats 2000000 in
theorem eqProxy_same (w : World) (X Y : Pc) (R : Prx) (hA : PxAt w X R w.heap.size) (hB : PxAt w Y R w.heap.size) (hsz : PxSz R) :
  Calls Tryz.prog 14 #[.agg #[.int .i64 R.now,X.e,X.w,X.m,X.k,.int .i64 R.pol.sk.added,X.f,X.c,.int .i64 R.hits],.agg #[.int .i64 R.now,Y.e,Y.w,Y.m,Y.k,.int .i64 R.pol.sk.added,Y.f,Y.c,.int .i64 R.hits]] w fun e w' => e = .returned (.bool true) ∧ Below w.heap.size w w' := by
 obtain ⟨l1,l2,l3,l4⟩ := hsz.parts
 obtain ⟨w0,hw0⟩ : ∃ x,w.alloc (.cells #[.int .i64 R.now,X.e,X.w,X.m,X.k,.int .i64 R.pol.sk.added,X.f,X.c,.int .i64 R.hits] 48) = x := ⟨_,rfl⟩
 obtain ⟨w1,hw1⟩ : ∃ x,w0.alloc (.cells #[.int .i64 R.now,Y.e,Y.w,Y.m,Y.k,.int .i64 R.pol.sk.added,Y.f,Y.c,.int .i64 R.hits] 48) = x := ⟨_,rfl⟩
 have hb0 : Below w.heap.size w w0 := by rw [← hw0]; exact (Below.refl _ _).alloc (Nat.le_refl _) _
 have hb1 : Below w0.heap.size w0 w1 := by rw [← hw1]; exact (Below.refl _ _).alloc (Nat.le_refl _) _
 have s0 : w0.heap.size = w.heap.size + 1 := by rw [← hw0]; simp
 have hX : NB w1 w.heap.size 48 (.int .i64 R.now) X.e X.w X.m X.k (.int .i64 R.pol.sk.added) X.f X.c (.int .i64 R.hits) := by
  have h : NB w0 w.heap.size 48 (.int .i64 R.now) X.e X.w X.m X.k (.int .i64 R.pol.sk.added) X.f X.c (.int .i64 R.hits) := by rw [← hw0]; exact NB.new _ _ _ _ _ _ _ _ _ _ _
  exact h.on hb1
 have hY : NB w1 (w.heap.size + 1) 48 (.int .i64 R.now) Y.e Y.w Y.m Y.k (.int .i64 R.pol.sk.added) Y.f Y.c (.int .i64 R.hits) := by rw [← hw1, ← s0]; exact NB.new _ _ _ _ _ _ _ _ _ _ _
 have hbw : Below w.heap.size w w1 := hb0.trans (hb1.mono hb0.size)
 obtain ⟨x0,x1,x2,x3,x4,x5,x6,x7,x8⟩ := hX.cells
 obtain ⟨y0,y1,y2,y3,y4,y5,y6,y7,y8⟩ := hY.cells
 have HW : Hid ((w.alloc (.cells #[.int .i64 R.now,X.e,X.w,X.m,X.k,.int .i64 R.pol.sk.added,X.f,X.c,.int .i64 R.hits] 48)).alloc (.cells #[.int .i64 R.now,Y.e,Y.w,Y.m,Y.k,.int .i64 R.pol.sk.added,Y.f,Y.c,.int .i64 R.hits] 48) = w1) := by rw [hw0]; exact hw1
 have hA1 := hA.on hbw
 have hB1 := hB.on hbw
 have e1 := eqEntryS_v w1 X.e Y.e R.ents hA1.e hB1.e l1
 rw [← hw1, ← hw0] at x0 x1 x2 x3 x4 x5 x6 x7 x8 y0 y1 y2 y3 y4 y5 y6 y7 y8
 clear hw0 hw1 s0 hb0 hb1 hA hB
 go_enter Tryz.func14,Tryz.ntmps14
 go_wp2_with fail
 rw [HW.out] at x0 x1 x2 x3 x4 x5 x6 x7 x8 y0 y1 y2 y3 y4 y5 y6 y7 y8 ⊢
 refine e1.mono ?_
 rintro e w2 ⟨rfl,hb2⟩
 clear e1 x0 x1 x2 x3 x4 x5 x6 x7 x8 y0 y1 y2 y3 y4 y5 y6 y7 y8
 have hbw2 := hbw.trans (hb2.mono hbw.size)
 have hX2 := hX.on hb2
 have hY2 := hY.on hb2
 have hA2 := hA1.on hb2
 have hB2 := hB1.on hb2
 clear hX hY hA1 hB1
 obtain ⟨x0,x1,x2,x3,x4,x5,x6,x7,x8⟩ := hX2.cells
 obtain ⟨y0,y1,y2,y3,y4,y5,y6,y7,y8⟩ := hY2.cells
 have e2 := eqPolicy_v w2 X.w X.m X.k Y.w Y.m Y.k R.pol hA2.pol hB2.pol l2
 go_wp2_with fail
 refine e2.mono ?_
 rintro e w3 ⟨rfl,hb3⟩
 clear e2 x0 x1 x2 x3 x4 x5 x6 x7 x8 y0 y1 y2 y3 y4 y5 y6 y7 y8
 have hbw3 := hbw2.trans (hb3.mono hbw2.size)
 have hX3 := hX2.on hb3
 have hY3 := hY2.on hb3
 have hA3 := hA2.on hb3
 have hB3 := hB2.on hb3
 clear hX2 hY2 hA2 hB2
 obtain ⟨x0,x1,x2,x3,x4,x5,x6,x7,x8⟩ := hX3.cells
 obtain ⟨y0,y1,y2,y3,y4,y5,y6,y7,y8⟩ := hY3.cells
 have e3 := eqFetchS_v w3 X.f Y.f R.fes hA3.f hB3.f l3
 go_wp2_with fail
 refine e3.mono ?_
 rintro e w4 ⟨rfl,hb4⟩
 clear e3 x0 x1 x2 x3 x4 x5 x6 x7 x8 y0 y1 y2 y3 y4 y5 y6 y7 y8
 have hbw4 := hbw3.trans (hb4.mono hbw3.size)
 have hX4 := hX3.on hb4
 have hY4 := hY3.on hb4
 have hA4 := hA3.on hb4
 have hB4 := hB3.on hb4
 clear hX3 hY3 hA3 hB3
 obtain ⟨x0,x1,x2,x3,x4,x5,x6,x7,x8⟩ := hX4.cells
 obtain ⟨y0,y1,y2,y3,y4,y5,y6,y7,y8⟩ := hY4.cells
 have e4 := eqClientS_v w4 X.c Y.c R.cls hA4.c hB4.c l4
 go_wp2_with fail
 refine e4.mono ?_
 rintro e w5 ⟨rfl,hb5⟩
 clear e4 x0 x1 x2 x3 x4 x5 x6 x7 x8 y0 y1 y2 y3 y4 y5 y6 y7 y8
 have hbw5 := hbw4.trans (hb5.mono hbw4.size)
 have hX5 := hX4.on hb5
 have hY5 := hY4.on hb5
 have hA5 := hA4.on hb5
 have hB5 := hB4.on hb5
 clear hX4 hY4 hA4 hB4
 obtain ⟨x0,x1,x2,x3,x4,x5,x6,x7,x8⟩ := hX5.cells
 obtain ⟨y0,y1,y2,y3,y4,y5,y6,y7,y8⟩ := hY5.cells
 go_wp2_with fail
 go_ret
 exact ⟨rfl,hbw5⟩
end Go.Proofs.YtpgcfgbhkodmeaaGreatDoor
