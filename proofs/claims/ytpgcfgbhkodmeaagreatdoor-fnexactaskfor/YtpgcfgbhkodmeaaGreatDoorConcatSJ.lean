/- Texts that stand in one: ConcatS, PolOkSpec. -/
import Derived.Test.YtpgcfgbhkodmeaaGreatDoorPrxMarkJ
import Derived.Test.YtpgcfgbhkodmeaaGreatDoorSkStepJ
import Derived.Lib.AppendZerosOnto
import Derived.Deep.RegionLaw
import Derived.Test.YtpgcfgbhkodmeaaGreatDoorPolPlainJ
import Derived.Lib.QuietBelow
import Derived.BigQuiet
namespace Go.Proofs.YtpgcfgbhkodmeaaGreatDoor
open Go.RowKit Go.Sort
theorem wpList_plusS {P : Program} {ops : Array Oper} {rest : List Oper} {o : Oper} {a : Act} {Q : Exit → Act → World → Prop} {w : World} (hgd : o.guard = none) (s x : Operand) (t : TypeId)
  (ho : o.op = .call { callee := .builtin .append,args := #[s,x],argTypes := #[t,t] }) (base : Nat) (e : TypeId) (ht : P.underlying t = some (.slice e))
  (hinfo : (P.info? e).map (fun i => (i.zero,i.size,i.bytes)) = some (some (.string ⟨#[]⟩), 1, 16)) (v : Value) (A : List ByteArray) (hs : a.eval s = v) (hown : OwnV w base e v (strs A))
  (a0 : Option Addr) (cap : Nat) (l : List ByteArray) (B : Nat) (hx : a.eval x = .slice a0 l.length cap) (hI : LAt w a0 l B) (hlen : A.length + l.length ≤ 2000000) (hbase : base ≤ w.heap.size)
  (h : ∀ v' w',OwnV w' base e v' (strs (A ++ l)) → w.grownBy w' v.ownBlock → wpList P ops Q rest (a.put o.dst v') w') :
  wpList P ops Q (o :: rest) a w := by
 obtain ⟨i0,hi,hz0,hz1,hz2⟩ := info_parts hinfo
 have hsl := strs_length A
 cases a0 with
 | some ad =>
  refine wpList_append_own _ hgd s x t ho base e i0 _ 1 16 ht hi hz0 hz1 hz2 rfl (by decide) v A.length (strs A) hs (by unfold OwnV at hown; rw [strs_length] at hown; exact hown) ad l.length cap (strs l) hx (by rw [strs_length]; omega) (hI.srcS.2 ad rfl) (strs_one l) (by unfold maxLen; omega) (by omega) hbase ?_
  intro v' w' h1 h2 _
  refine h v' w' ?_ h2
  unfold OwnV
  rw [strs_append,List.length_append,strs_length,strs_length]
  exact h1
 | none =>
  have : l = [] := List.length_eq_zero_iff.1 (hI.srcS.1 rfl)
  subst this
  refine wpList_plain hgd fun K hK => ?_
  have hrun : (Builtin.append_ #[t,t] o.type #[v,.slice none 0 cap]).run P w = .ok v w := by
   rcases hown.2 with ⟨rfl,_⟩ | ⟨g,cp,cur,rfl,_,_,hnc,_⟩
   ·simp [Builtin.append_,run_underlying ht,sizeOf,typeInfo,hi,Builtin.lenOf,Builtin.firstCells]
   ·simp [Builtin.append_,run_underlying ht,sizeOf,typeInfo,hi,Builtin.lenOf,Builtin.firstCells,storeCells,hnc]
  unfold Oper.wp
  simp at hx
  simp [execOp,ho,resolve,invoke,builtin,hs,hx,hrun,Result.andThen]
  exact hK _ _ (h v w (by simpa using hown) ⟨rfl,rfl,rfl,Nat.le_refl _,fun _ _ _ => rfl⟩)
set_option maxRecDepth 100000 in
set_option maxHeartbeats 2000000 in
theorem growS_any (w : World) (n : Nat) (hn : n ≤ 1048600) :
  Calls Tryz.prog 196 #[.slice none 0 0,.int .i64 n] w fun e w' => ∃ v,e = .returned v ∧ OwnV w' w.heap.size 9 v (strs []) ∧ Below w.heap.size w w' := by
 by_cases h0 : n = 0
 ·subst h0
  go_enter Tryz.func196,Tryz.ntmps196
  go_wp2
  go_ret
  exact ⟨_,rfl,⟨rfl,.inl ⟨rfl,rfl⟩⟩,Below.refl _ _⟩
 ·obtain ⟨i0,hi0,hz0,hzs,hzb⟩ := info_parts Tryz.infoSK
  have hold : (Builtin.firstCells i0.size 0 (.slice none 0 0)).run Tryz.prog w.drew = .ok ([] : List Value).toArray w.drew := by
   rw [hzs]
   exact run_firstCells_none w.drew 1 0 0 0
  obtain ⟨G,hG⟩ : ∃ G,G = grownCap w (0 + n) 0 9 := ⟨_,rfl⟩
  have hGn : 0 + n ≤ G := by rw [hG]; exact grownCap_ge w _ _ _
  have hG63 : G ≤ maxLen := by rw [hG]; exact grownCap_le_maxLen w (0 + n) 0 9 (by unfold maxLen; omega)
  obtain ⟨ROW,hROW⟩ : ∃ ROW : Array Value,ROW = ([] : List Value).toArray ++ Builtin.zeroCells (Value.string ⟨#[]⟩).cells n ++ Builtin.zeroCells (Value.string ⟨#[]⟩).cells (G - (0 + n)) := ⟨_,rfl⟩
  have hRl : ROW.size = G * 1 := by
   have hzl : ∀ k,(Builtin.zeroCells (Value.string ⟨#[]⟩).cells k).size = k * 1 := fun k => by simp [Builtin.zeroCells,Value.cells]
   rw [hROW,Array.size_append,Array.size_append,hzl,hzl]
   simp
   omega
  have hrz : ∀ ty,(Builtin.append_ #[23, 3] ty #[.slice none 0 0,.int .i64 (n : Int)]).run Tryz.prog w = .ok (.slice (some ⟨w.heap.size, 0,none⟩) n G) (w.drew.alloc (.cells ROW 9)) := fun ty => by
   have h := Lib.run_append_grow_zeros w 23 3 ty 9 i0 _ .i64 .i64 Tryz.underlying23 Tryz.underlying3 hi0 hz0 none 0 0 [] hold n (by omega) (by omega) (by omega) (by omega) (by rw [hzb]; omega) (by rw [hzb]; exact growslice_fits (by omega) (by omega))
   rw [← hG, ← hROW,Nat.zero_add] at h
   exact h
  obtain ⟨W1,hW1⟩ : ∃ W1,w.drew.alloc (.cells ROW 9) = W1 := ⟨_,rfl⟩
  rw [hW1] at hrz
  have HW : Hid (OwnV W1 w.heap.size 9 (.slice (some ⟨w.heap.size, 0,none⟩) 0 G) (strs []) ∧ Below w.heap.size w W1) := by
   rw [← hW1]
   refine ⟨⟨rfl,.inr ⟨w.heap.size,G,ROW,rfl,Nat.le_refl _,heap_alloc_new w.drew _,Nat.zero_le _,hG63,hRl,by simp [strs]⟩⟩, ?_⟩
   exact (show Below w.heap.size w w.drew from ⟨rfl,rfl,rfl,Nat.le_refl _,fun _ _ => rfl⟩).alloc (Nat.le_refl _) _
  obtain ⟨S,hS⟩ : ∃ S,w.heap.size = S := ⟨_,rfl⟩
  rw [hS] at hrz HW
  have HS : Hid (w.heap.size = S) := hS
  clear hold hROW hG hRl hW1 hS
  have hp : ¬ ((n : Int) < 0) := by omega
  have hp2 : (0 : Int) < (n : Int) := by omega
  have hw1 : IntKind.i64.wrap ((n : Int) - 0) = (n : Int) := by rw [IntKind.wrap_i64]; omega
  go_enter Tryz.func196,Tryz.ntmps196
  go_wp2_with (at_builtin; refine Lib.wpList_append_run _ rfl _ _ _ _ rfl _ _ rfl rfl _ _ (hrz _) ?_)
  go_ret
  rw [HS.out]
  exact ⟨_,rfl,HW.out.1,HW.out.2⟩
set_option maxRecDepth 100000 in
set_option maxHeartbeats 2000000 in
theorem concatS_any (w : World) (vb : Nat) (a1 a2 : Option Addr) (c1 c2 : Nat) (A B : List ByteArray) (hv0 : w.cell? ⟨vb, 0,none⟩ = some (.slice a1 A.length c1)) (hv1 : w.cell? ⟨vb, 1,none⟩ = some (.slice a2 B.length c2)) (hvb : vb < w.heap.size)
  (hA : LAt w a1 A w.heap.size) (hB : LAt w a2 B w.heap.size) (hm : A.length + B.length ≤ 1048600) :
  Calls Tryz.prog 153 #[.slice (some ⟨vb, 0,none⟩) 2 2] w fun e w' => ∃ v,e = .returned v ∧ OwnV w' w.heap.size 9 v (strs (A ++ B)) ∧ Below w.heap.size w w' := by
 have HV : Hid (∀ wi,Below w.heap.size w wi → wi.cell? ⟨vb, 0,none⟩ = some (.slice a1 A.length c1) ∧ wi.cell? ⟨vb, 1,none⟩ = some (.slice a2 B.length c2) ∧ LAt wi a1 A w.heap.size ∧ LAt wi a2 B w.heap.size) := fun wi hi =>
  ⟨(hi.cell (p := ⟨vb, 0,none⟩) hvb).trans hv0,(hi.cell (p := ⟨vb, 1,none⟩) hvb).trans hv1,hA.below hi (Nat.le_refl _),hB.below hi (Nat.le_refl _)⟩
 clear hA hB
 have hn1 : (A.length : Int) ≤ 1048600 := by omega
 have hn2 : (B.length : Int) ≤ 1048600 := by omega
 go_enter Tryz.func153,Tryz.ntmps153
 go_wp2
 go_loopw [3, 11] (fun s k wr => Box (wr = w ∧ ((k = .int .i64 0 ∧ s = .int .i64 0) ∨ (k = .int .i64 1 ∧ s = .int .i64 A.length) ∨ (k = .int .i64 2 ∧ s = .int .i64 ((A.length : Int) + B.length)))))
  (fun _ k _ => 2 - (intOf k).toNat)
 case atStart => exact ⟨⟨rfl,.inl ⟨rfl,rfl⟩⟩⟩
 case round =>
  obtain ⟨hwr,⟨rfl,rfl⟩ | ⟨rfl,rfl⟩ | ⟨rfl,rfl⟩⟩ := hrel.out
  all_goals rw [hwr]
  all_goals clear hwr
  ·clear hrel
   go_wp2
   go_roundw
   case rel =>
    try ((repeat apply Exists.intro); refine ⟨?_,rfl⟩)
    exact ⟨⟨by first | rfl | trivial,.inr (.inl ⟨by go_num,by go_num⟩)⟩⟩
   case measure => simp [intOf]
  ·clear hrel
   have hw1 : IntKind.i64.wrap ((A.length : Int) + (B.length : Int)) = (A.length : Int) + (B.length : Int) := by rw [IntKind.wrap_i64]; omega
   have hp : ¬ ((A.length : Int) + (B.length : Int) < 0) := by omega
   go_wp2
   go_roundw
   case rel =>
    try ((repeat apply Exists.intro); refine ⟨?_,rfl⟩)
    exact ⟨⟨by first | rfl | trivial,.inr (.inr ⟨by go_num,by go_num⟩)⟩⟩
   case measure => simp [intOf]
  ·clear hrel
   have cg := growS_any w (A.length + B.length) (by omega)
   rw [show ((A.length + B.length : Nat) : Int) = (A.length : Int) + B.length by omega] at cg
   clear hv0 hv1
   go_wp2_with fail
   refine cg.mono ?_
   rintro e w1 ⟨v1,rfl,ho1,hb1⟩
   clear cg
   go_wp2
   go_loopw [6, 27] (fun v k w2 => Box (Below w.heap.size w w2 ∧ ((k = .int .i64 0 ∧ OwnV w2 w.heap.size 9 v (strs [])) ∨ (k = .int .i64 1 ∧ OwnV w2 w.heap.size 9 v (strs A)) ∨ (k = .int .i64 2 ∧ OwnV w2 w.heap.size 9 v (strs (A ++ B))))))
    (fun _ k _ => 2 - (intOf k).toNat)
   case atStart => exact ⟨⟨hb1,.inl ⟨rfl,ho1⟩⟩⟩
   case round =>
    obtain ⟨hb2,⟨rfl,ho2⟩ | ⟨rfl,ho2⟩ | ⟨rfl,ho2⟩⟩ := hrel.out
    ·clear hrel
     obtain ⟨q0,q1,hA,hB⟩ := HV.out _ hb2
     have hsz := hb2.size
     go_wp2_with (at_builtin; refine wpList_plusS rfl (.tmp 31) (.tmp 32) 23 rfl w.heap.size 9 Tryz.underlying23 Tryz.infoSK _ [] rfl ho2 a1 c1 A _ rfl hA (by simp; omega) hsz ?_; intro v4 w4 ho4 hgr4)
     go_roundw
     case rel =>
      try ((repeat apply Exists.intro); refine ⟨?_,rfl⟩)
      exact ⟨⟨hb2.grown hgr4 hsz (fun k e => (ho2.lt k e).1),.inr (.inl ⟨by go_num,by simpa using ho4⟩)⟩⟩
     case measure => simp [intOf]
    ·clear hrel
     obtain ⟨q0,q1,hA,hB⟩ := HV.out _ hb2
     have hsz := hb2.size
     go_wp2_with (at_builtin; refine wpList_plusS rfl (.tmp 31) (.tmp 32) 23 rfl w.heap.size 9 Tryz.underlying23 Tryz.infoSK _ A rfl ho2 a2 c2 B _ rfl hB (by omega) hsz ?_; intro v4 w4 ho4 hgr4)
     go_roundw
     case rel =>
      try ((repeat apply Exists.intro); refine ⟨?_,rfl⟩)
      exact ⟨⟨hb2.grown hgr4 hsz (fun k e => (ho2.lt k e).1),.inr (.inr ⟨by go_num,ho4⟩)⟩⟩
     case measure => simp [intOf]
    ·clear hrel
     go_wp2
     go_ret
     exact ⟨_,rfl,ho2,hb2⟩
theorem listOkTo_succ (l : List ByteArray) (k : Nat) : listOkTo l (k + 1) = (listOkTo l k && (keyOk (l.getD k noKey) && !inL (l.take k) (l.getD k noKey))) := by
 unfold listOkTo
 rw [List.range_succ,List.all_append]
 simp
theorem listOkTo_down (l : List ByteArray) {k : Nat} : ∀ n,k ≤ n → listOkTo l k = false → listOkTo l n = false
 | 0,hk,h => by
  have : k = 0 := by omega
  rw [← this]
  exact h
 | n + 1,hk,h => by
  by_cases e : k = n + 1
  ·rw [← e]; exact h
  ·rw [listOkTo_succ,listOkTo_down l n (by omega) h]; rfl
theorem LAt.take {w : World} {a : Option Addr} {L : List ByteArray} {B : Nat} (h : LAt w a L B) (k : Nat) : LAt w a (L.take k) B := fun j hj => by
 rw [List.length_take] at hj
 obtain ⟨g,off,e,hg,hc⟩ := h j (by omega)
 exact ⟨g,off,e,hg,by rw [List.getElem_take]; exact hc⟩
theorem getD_key {l : List ByteArray} {k : Nat} (h : k < l.length) : l.getD k noKey = l[k] := by
 rw [List.getD_eq_getElem?_getD,List.getElem?_eq_getElem h]; rfl
set_option maxRecDepth 100000 in
set_option maxHeartbeats 4000000 in
theorem specPolicyOk_any (w : World) (aw am ak : Option Addr) (cw cm ck : Nat) (P : Pol) (hA : PolAt w aw am ak P w.heap.size) (hm : P.win.length ≤ 1048576) (hm' : P.main.length ≤ 1048576) (hs : P.sk.rows.length ≤ 1048576) (hz : ∀ z ∈ P.win ++ P.main,z.size ≤ 10000000) :
  Calls Tryz.prog 107 #[.agg #[.slice aw P.win.length cw,.slice am P.main.length cm,.slice ak P.sk.rows.length ck,.int .i64 P.sk.added]] w fun e w' => e = .returned (.bool (okP P)) ∧ Below w.heap.size w w' := by
 obtain ⟨w1,hw1⟩ : ∃ x,w.alloc (.cells #[.slice aw P.win.length cw,.slice am P.main.length cm,.slice ak P.sk.rows.length ck,.int .i64 P.sk.added] 44) = x := ⟨_,rfl⟩
 have hb1 : Below w.heap.size w w1 := by rw [← hw1]; exact (Below.refl _ _).alloc (Nat.le_refl _) _
 have hB : PBox w1 w.heap.size (.slice aw P.win.length cw) (.slice am P.main.length cm) (.slice ak P.sk.rows.length ck) (.int .i64 P.sk.added) := by rw [← hw1]; exact PBox.new _ _ _ _ _
 have hA1 := hA.on hb1
 have HW : Hid (w.alloc (.cells #[.slice aw P.win.length cw,.slice am P.main.length cm,.slice ak P.sk.rows.length ck,.int .i64 P.sk.added] 44) = w1) := hw1
 have HKC : Hid (∀ W,Below w1.heap.size w1 W → W.cell? ⟨w.heap.size, 0,none⟩ = some (.slice aw P.win.length cw) ∧ W.cell? ⟨w.heap.size, 1,none⟩ = some (.slice am P.main.length cm)) := fun W h => ⟨(hB.on h).cells.1,(hB.on h).cells.2.1⟩
 have HSW : Hid ((aw = none → P.win.length = 0) ∧ ∀ W,Below w1.heap.size w1 W → ∀ ad,aw = some ad → ∀ j u,(strs P.win)[j]? = some u → W.cell? (ad.add j) = some u) := ⟨hA1.1.srcS.1,fun W hW => (hA1.1.on hW).srcS.2⟩
 have HSM : Hid ((am = none → P.main.length = 0) ∧ ∀ W,Below w1.heap.size w1 W → ∀ ad,am = some ad → ∀ j u,(strs P.main)[j]? = some u → W.cell? (ad.add j) = some u) := ⟨hA1.2.1.srcS.1,fun W hW => (hA1.2.1.on hW).srcS.2⟩
 have hbE : Below w1.heap.size w1 (w1.alloc (.cells #[] 9)) := (Below.refl _ _).alloc (Nat.le_refl _) _
 have hbEd : Below w1.heap.size w1 (w1.alloc (.cells #[] 9)).drew := hbE.trans ⟨rfl,rfl,rfl,Nat.le_refl _,fun _ _ => rfl⟩
 obtain ⟨d0,d1⟩ := HKC.out w1 (Below.refl _ _)
 obtain ⟨e0,e1⟩ := HKC.out _ hbE
 have n1 := strs_length P.win
 have n2 := strs_length P.main
 obtain ⟨A,hAA⟩ : ∃ A,P.win ++ P.main = A := ⟨_,rfl⟩
 have HA : Hid (P.win ++ P.main = A) := hAA
 have hAl : A.length = P.win.length + P.main.length := by rw [← hAA,List.length_append]
 have hAs : strs P.win ++ strs P.main = strs A := by rw [← hAA,strs_append]
 rw [hAA] at hz
 have HZ : Hid (∀ z ∈ A,z.size ≤ 10000000) := hz
 have HPB : Hid (∀ W,Below w1.heap.size w1 W → PBox W w.heap.size (.slice aw P.win.length cw) (.slice am P.main.length cm) (.slice ak P.sk.rows.length ck) (.int .i64 P.sk.added) ∧ SSAt W ak P.sk.rows W.heap.size ∧ Below w.heap.size w W) := fun W h => ⟨hB.on h,hA1.2.2.on h,hb1.trans (h.mono hb1.size)⟩
 have HOK : Hid (∀ q,listOk A = q → okP P = (q && (decide (P.win.length ≤ 2) && decide (P.main.length ≤ 4) && okK P.sk))) := fun q h => by rw [← h, ← hAA]; rfl
 clear hAA hz
 rw [← hw1] at d0 d1 e0 e1
 clear hw1 hA hB hA1 hb1
 go_enter Tryz.func107,Tryz.ntmps107
 go_wp2
 rw [HW.out] at d0 d1 e0 e1 ⊢
 go_region_law (first
  | (refine step_allI rfl (.tmp 5) (.tmp 7) 23 rfl 9 Tryz.underlying23 (.string ⟨#[]⟩) 1 16 Tryz.infoSK rfl (by omega) (by omega) w1.heap.size rfl (by exact heap_alloc_new _ _) aw P.win.length cw (strs P.win) rfl (by rw [n1]; omega) HSW.out.1 (HSW.out.2 _ hbEd) (strs_one _) hm ?_; rintro g4 c4 w4 o4 b4 n4 k4; have hb4 : Below w1.heap.size w1 w4 := hbEd.trans b4; have hu4 := ownV_of_rowS o4; have f1 := (HKC.out _ hb4).2; clear o4 b4 n4 k4)
  | (refine step_plusO rfl (.tmp 8) (.tmp 10) 23 rfl w1.heap.size 9 Tryz.underlying23 (.string ⟨#[]⟩) 16 Tryz.infoSK rfl (by omega) g4 P.win.length c4 (strs P.win) rfl hu4 n1.symm (by omega) hb4.size am P.main.length cm (strs P.main) rfl n2 HSM.out.1 (HSM.out.2 _ hb4) (strs_one _) (by omega) ?_; rintro g5 c5 w5 o5 gr5; have hb5 : Below w1.heap.size w1 w5 := hb4.grown gr5 hb4.size (fun k e => by cases e; exact (hu4.lt _ rfl).1)))
 all_goals (
  rw [hAs] at o5
  obtain ⟨a5,cc,ev,hL5⟩ := o5.strsAt
  have hcap : A.length ≤ c5 := by
   rcases o5.2 with ⟨e1,_⟩ | ⟨g,cp,cur,e1,_,_,hle,_⟩
   ·cases e1
   ·simp only [Value.slice.injEq] at e1
    rw [strs_length] at e1 hle
    omega
  simp only [Value.slice.injEq] at ev
  obtain ⟨rfl,ev1,rfl⟩ := ev
  have hAL : A.length ≤ 10000000 := by omega
  rw [ev1]
  clear ev1 o5 hAs gr5 hu4 hb4 f1 d0 d1 e0 e1 hbE hbEd HSW HSM HKC n1 n2
  go_wp2
  go_loopw [4] (fun i wr => Box (∃ (k : Nat),k ≤ A.length ∧ i = .int .i64 k ∧ Hid (listOkTo A k = true) ∧ LAt wr (some ⟨g5, 0,none⟩) A wr.heap.size ∧ Below w1.heap.size w1 wr))
   (fun i _ => A.length - (intOf i).toNat)
  case atStart => exact ⟨⟨0,by omega,rfl,rfl,hL5,hb5⟩⟩
  case round =>
   obtain ⟨k,hk,rfl,HP,hL,hbr⟩ := hrel.out
   have HBR := HPB.out wr hbr
   by_cases hlt : k < A.length
   ·obtain ⟨g',off',ee,hg',hc⟩ := hL k hlt
    simp only [Option.some.injEq,Addr.mk.injEq,and_true] at ee
    obtain ⟨rfl,rfl⟩ := ee
    rw [Nat.zero_add] at hc
    obtain ⟨z,hzz⟩ : ∃ z,A[k] = z := ⟨_,rfl⟩
    have HX : Hid (listOkTo A (k + 1) = (keyOk z && !inL (A.take k) z)) := by show _ = _; rw [listOkTo_succ,HP.out,getD_key hlt,hzz,Bool.true_and]
    have hzs : z.size ≤ 10000000 := HZ.out z (by rw [← hzz]; exact List.getElem_mem hlt)
    have HDN : Hid (listOkTo A (k + 1) = false → okP P = false) := fun h => by rw [HOK.out false (listOkTo_down A A.length (by omega) h)]; rfl
    rw [hzz] at hc
    have kc := cell_regrown hc
    have htk : (A.take k).length = k := by rw [List.length_take]; omega
    have cK : ∀ d os,Calls Tryz.prog 45 #[.string z] (grow (redrawn wr d) os) fun e w'' => e = .returned (.bool (keyOk z)) ∧ ∃ p : Regrown,w'' = grow (redrawn wr p.d) p.os := fun d os => Calls.regrown_of ((l13Key_any (grow (redrawn wr d) os) z hzs).mono (by rintro e w'' ⟨rfl,rfl⟩; exact ⟨rfl,Below.refl _ _⟩))
    have cI : ∀ d os,Calls Tryz.prog 108 #[.slice (some ⟨g5, 0,none⟩) k c5,.string z] (grow (redrawn wr d) os) fun e w'' => e = .returned (.bool (inL (A.take k) z)) ∧ ∃ p : Regrown,w'' = grow (redrawn wr p.d) p.os := fun d os => Calls.regrown_of (by
     have c := l13In_any (grow (redrawn wr d) os) (some ⟨g5, 0,none⟩) c5 (A.take k) z ((hL.on (below_regrown wr d os)).take k) (by omega)
     rw [htk] at c
     exact c.mono (by rintro e w'' ⟨rfl,rfl⟩; exact ⟨rfl,Below.refl _ _⟩))
    have HL : Hid (LAt wr (some ⟨g5, 0,none⟩) A wr.heap.size ∧ Below w1.heap.size w1 wr) := ⟨hL,hbr⟩
    clear hrel hL hbr hL5 hb5 hzz htk hg' HP
    have hi1 : (0 : Int) ≤ (k : Int) := by omega
    have hi2 : (k : Int) < (A.length : Int) := by omega
    have hi3 : (k : Int) ≤ (c5 : Int) := by omega
    cases hA1 : keyOk z with
    | false =>
     have HF : Hid (okP P = false) := HDN.out (by rw [HX.out,hA1]; rfl)
     rw [hA1] at cK
     clear hA1 cI
     go_wp2_with fail
     refine wp_region_quiet_below (by kernel_rfl) (by kernel_rfl) ?_
     repeat (first | go_big_quiet_step (exact cK _ _) | quiet_step (exact cK _ _))
     refine wpQuiet_nil ?_
     intro _ hw'
     obtain ⟨⟨dq,osq⟩,hw''⟩ := hw'
     subst hw''
     go_wp2_with fail
     go_ret
     exact ⟨by rw [HF.out]; rfl,HBR.2.2.trans ((below_regrown wr dq osq).mono HBR.2.2.size)⟩
    | true =>
     rw [hA1] at cK
     cases hA2 : inL (A.take k) z with
     | true =>
      have HF : Hid (okP P = false) := HDN.out (by rw [HX.out,hA1,hA2]; rfl)
      rw [hA2] at cI
      clear hA1 hA2
      go_wp2_with fail
      refine wp_region_quiet_below (by kernel_rfl) (by kernel_rfl) ?_
      repeat (first | go_big_quiet_step (first | with_reducible exact cK _ _ | with_reducible exact cI _ _) | quiet_step (first | with_reducible exact cK _ _ | with_reducible exact cI _ _))
      refine wpQuiet_nil ?_
      intro _ hw'
      obtain ⟨⟨dq,osq⟩,hw''⟩ := hw'
      subst hw''
      go_wp2_with fail
      go_ret
      exact ⟨by rw [HF.out]; rfl,HBR.2.2.trans ((below_regrown wr dq osq).mono HBR.2.2.size)⟩
     | false =>
      have HT : Hid (listOkTo A (k + 1) = true) := by show _ = _; rw [HX.out,hA1,hA2]; rfl
      rw [hA2] at cI
      clear hA1 hA2
      go_wp2_with fail
      refine wp_region_quiet_below (by kernel_rfl) (by kernel_rfl) ?_
      repeat (first | go_big_quiet_step (first | with_reducible exact cK _ _ | with_reducible exact cI _ _) | quiet_step (first | with_reducible exact cK _ _ | with_reducible exact cI _ _))
      refine wpQuiet_nil ?_
      intro _ hw'
      obtain ⟨⟨dq,osq⟩,hw''⟩ := hw'
      subst hw''
      go_wp2_with fail
      go_roundw
      case rel =>
       try ((repeat apply Exists.intro); refine ⟨?_,rfl⟩)
       exact ⟨⟨k + 1,by omega,by go_num,HT,HL.out.1.on (below_regrown wr dq osq),HL.out.2.trans ((below_regrown wr dq osq).mono HL.out.2.size)⟩⟩
      case measure => simp [intOf]; omega
   ·have hke : k = A.length := by omega
    have HT : Hid (okP P = (decide (P.win.length ≤ 2) && decide (P.main.length ≤ 4) && okK P.sk)) := by
     show _ = _
     rw [HOK.out true (by show listOkTo A A.length = true; rw [← hke]; exact HP.out),Bool.true_and]
    obtain ⟨hBr,hSr,hbw⟩ := HBR
    obtain ⟨b0,b1,b2,b3⟩ := hBr.cells
    have cO := specSketchOk_any wr ak ck P.sk hSr hs
    clear hrel hL hbr hL5 hb5 HP hBr hSr
    by_cases h2 : P.win.length ≤ 2
    case neg =>
     have h2' : ¬ ((P.win.length : Int) ≤ 2) := by omega
     rw [decide_eq_false h2] at HT
     clear h2 cO
     go_wp2_with fail
     go_ret
     exact ⟨by rw [HT.out]; rfl,hbw⟩
    have h2' : ((P.win.length : Int) ≤ 2) := by omega
    rw [decide_eq_true h2] at HT
    by_cases h4 : P.main.length ≤ 4
    case neg =>
     have h4' : ¬ ((P.main.length : Int) ≤ 4) := by omega
     rw [decide_eq_false h4] at HT
     clear h2 h4 cO
     go_wp2_with fail
     go_ret
     exact ⟨by rw [HT.out]; rfl,hbw⟩
    have h4' : ((P.main.length : Int) ≤ 4) := by omega
    rw [decide_eq_true h4] at HT
    clear h2 h4
    generalize okK P.sk = q at cO HT
    go_wp2_with fail
    refine cO.mono ?_
    rintro e w' ⟨rfl,hbo⟩
    go_wp2_with fail
    go_ret
    exact ⟨by rw [HT.out]; simp,hbw.trans (hbo.mono hbw.size)⟩)
end Go.Proofs.YtpgcfgbhkodmeaaGreatDoor
