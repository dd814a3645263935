/- Texts that stand in one: Settle, Enter, KeyImpl. -/
import Derived.Test.YthfjfccdelbkhaaGreatDoorPolHoldJ
import Derived.Test.YthfjfccdelbkhaaGreatDoorSkOkSpecJ
import Derived.Lib.QuietBelow
import Derived.BigQuiet
import Derived.Test.YthfjfccdelbkhaaGreatDoorPolSpecJ
import Derived.Deep.RegionLaw
namespace Go.Proofs.YthfjfccdelbkhaaGreatDoor
open Go.RowKit Go.Sort
set_option maxRecDepth 100000 in
set_option maxHeartbeats 4000000 in
theorem settle_room (w : World) (V G lo : Nat) (v1 v2 v3 : Value) (P : Pol) (o key : ByteArray) (h : Seats w V G lo v1 v2 v3 P o) (hm : P.main.length < 4) :
  Calls Tryz.prog 112 #[.pointer (some ⟨V, 0,none⟩),.string key] w fun e w' => e = .returned (.tuple #[]) ∧ ∃ v2',Seats w' V G lo v1 v2' v3 ⟨P.win,P.main ++ [key],P.sk⟩ o ∧ Below G w w' := by
 have HS : Hid (Seats w V G lo v1 v2 v3 P o) := h
 obtain ⟨b0,b1,b2,b3,_⟩ := h.1.cells
 have hlo := h.lo
 have hO2 := h.1.2.2.1
 obtain ⟨a2,k2,rfl,_⟩ := hO2.strsAt
 have hm4 : ¬ ((P.main.length : Int) = 4) := by omega
 have hml : P.main.length ≤ 2000000 := by omega
 have HV : Hid (∀ w',w.grownBy w' (Value.slice a2 P.main.length k2).ownBlock → w'.cell? ⟨V, 1,none⟩ = some (.slice a2 P.main.length k2) ∧ w'.frozen? ⟨V, 1,none⟩ = false) := fun w' hg => ⟨(h.1.var2 seats_ty hg).1,(h.1.var2 seats_ty hg).2 1⟩
 clear h hm
 go_enter Tryz.func112,Tryz.ntmps112
 go_wp2_with (at_builtin; refine wpList_snocS rfl (.tmp 61) (.tmp 63) 25 rfl lo Tryz.underlying25 Tryz.infoSK _ P.main rfl hO2 key rfl hml hlo ?_; intro g cap w' ho' hg' hn'; obtain ⟨q0,q1⟩ := HV.out w' hg')
 have HF := HS.out.main hg' ho' (fun k e => by simp only [Value.ownBlock,Option.some.injEq] at e; subst e; exact hn')
 go_end0
 exact ⟨rfl,_,HF.1,HF.2⟩
set_option maxRecDepth 100000 in
set_option maxHeartbeats 4000000 in
theorem settle_full (w : World) (V G lo : Nat) (v1 v2 v3 : Value) (P : Pol) (o key m0 : ByteArray) (mr : List ByteArray) (h : Seats w V G lo v1 v2 v3 P o) (hm : P.main.length = 4) (he : P.main = m0 :: mr) (hs : P.sk.rows.length ≤ 1048576) (hk : key.size ≤ 1048576) (hk0 : m0.size ≤ 1048576) (ht : ∀ W,Below G w W → Tab W) :
  Calls Tryz.prog 112 #[.pointer (some ⟨V, 0,none⟩),.string key] w fun e w' => e = .returned (.tuple #[]) ∧ Below G w w' ∧
   ((guessS P.sk key ≤ guessS P.sk m0 ∧ Seats w' V G lo v1 v2 v3 P key) ∨ (guessS P.sk m0 < guessS P.sk key ∧ ∃ v2',Seats w' V G lo v1 v2' v3 ⟨P.win,mr ++ [key],P.sk⟩ m0)) := by
 have HS : Hid (Seats w V G lo v1 v2 v3 P o) := h
 obtain ⟨b0,b1,b2,b3,b4⟩ := h.1.cells
 have hlo := h.lo
 have hGl := h.2.2.1
 have hO2 := h.1.2.2.1
 obtain ⟨a2,k2,rfl,hL2⟩ := hO2.strsAt
 obtain ⟨a3,k3,rfl,hL3⟩ := h.1.2.2.2.2.at
 have hcm : ∃ g,a2 = some ⟨g, 0,none⟩ ∧ w.cell? ⟨g, 0,none⟩ = some (.string m0) := by
  obtain ⟨a',c',e',h'⟩ := hO2.shape
  simp only [Value.slice.injEq] at e'
  obtain ⟨g,e1,e2,_⟩ := h' 0 (by rw [strs_length]; omega)
  rw [← e'.1] at e1
  refine ⟨g,e1, ?_⟩
  rw [e2]
  simp [he,strs]
 obtain ⟨g2,rfl,hcm⟩ := hcm
 have hdel := fun W (hW : OwnV W lo 9 (.slice (some ⟨g2, 0,none⟩) 4 k2) (strs P.main)) => deleteFirst_any W lo _ P.main hW (by omega)
 have HDEL : Hid _ := hdel
 clear hdel
 rw [hm] at b1 hO2 HS
 obtain ⟨x,hx⟩ : ∃ x,guessS P.sk key = x := ⟨_,rfl⟩
 obtain ⟨y,hy⟩ : ∃ y,guessS P.sk m0 = y := ⟨_,rfl⟩
 have bG := fun d os => (below_regrown w d os).mono (show G ≤ w.heap.size by omega)
 have cK : ∀ d os,Calls Tryz.prog 117 #[.agg #[.slice a3 P.sk.rows.length k3,.int .i64 P.sk.added],.string key] (grow (redrawn w d) os) fun e w'' => e = .returned (.int .i64 x) ∧ ∃ p : Regrown,w'' = grow (redrawn w p.d) p.os := fun d os => Calls.regrown_of (by rw [← hx]; exact implSketchGuess_any (grow (redrawn w d) os) a3 k3 P.sk key (hL3.on (below_regrown w d os)) hs hk (ht _ (bG d os)))
 have cM : ∀ d os,Calls Tryz.prog 117 #[.agg #[.slice a3 P.sk.rows.length k3,.int .i64 P.sk.added],.string m0] (grow (redrawn w d) os) fun e w'' => e = .returned (.int .i64 y) ∧ ∃ p : Regrown,w'' = grow (redrawn w p.d) p.os := fun d os => Calls.regrown_of (by rw [← hy]; exact implSketchGuess_any (grow (redrawn w d) os) a3 k3 P.sk m0 (hL3.on (below_regrown w d os)) hs hk0 (ht _ (bG d os)))
 have kb2 := cell_regrown b2
 have kb3 := cell_regrown b3
 have HB : Hid (∀ d os,Below G w (grow (redrawn w d) os)) := bG
 have HT : Hid (P.main = m0 :: mr) := he
 have eg := out_eg
 simp only [List.getElem?_cons_zero] at b4
 unfold outF at b4
 clear h he hL2 hL3 hs hk hk0 ht hlo hGl bG b0
 have HXY : Hid (guessS P.sk key = x ∧ guessS P.sk m0 = y) := ⟨hx,hy⟩
 clear hx hy
 by_cases hg : x ≤ y
 ·go_enter Tryz.func112,Tryz.ntmps112
  go_wp2_with fail
  refine wp_region_quiet_below (by kernel_rfl) (by kernel_rfl) ?_
  repeat (first | go_big_quiet_step (first | with_reducible exact cK _ _ | with_reducible exact cM _ _) | quiet_step (first | with_reducible exact cK _ _ | with_reducible exact cM _ _))
  refine wpQuiet_nil ?_
  intro _ hw'
  obtain ⟨⟨dq,osq⟩,hw''⟩ := hw'
  subst hw''
  have S2 : Seats (grow (redrawn w dq) osq) V G lo v1 (.slice (some ⟨g2, 0,none⟩) 4 k2) (.slice a3 P.sk.rows.length k3) P o := Seats.on HS.out (below_regrown w dq osq)
  have B2 : Hid (Below G w (grow (redrawn w dq) osq)) := HB.out dq osq
  obtain ⟨w2,hw2⟩ : ∃ x,grow (redrawn w dq) osq = x := ⟨_,rfl⟩
  show Exit.then _ _ Exit.normal _ (grow (redrawn w dq) osq)
  rw [hw2] at S2 B2 ⊢
  clear hw2 cK cM kb2 kb3 b1 b2 b3 b4 hcm hO2
  obtain ⟨_,c1,_,_,c4⟩ := S2.1.cells
  simp only [List.getElem?_cons_zero] at c4
  unfold outF at c4
  have cO := out_any w2 G key o S2.2.1
  have HF : Hid (Seats (w2.setCell ⟨G, 0,none⟩ (.string key)) V G lo v1 (.slice (some ⟨g2, 0,none⟩) 4 k2) (.slice a3 P.sk.rows.length k3) P key ∧ Below G w (w2.setCell ⟨G, 0,none⟩ (.string key))) := ⟨S2.out key,B2.out.setCell (Nat.le_refl _) _⟩
  have HG : Hid (guessS P.sk key ≤ guessS P.sk m0) := by show _ ≤ _; rw [HXY.out.1,HXY.out.2]; exact hg
  have HL : Hid (P.main.length = 4) := hm
  clear S2 B2
  go_wp2_with (go_at_fn 69; refine cO.mono ?_; rintro e w3 ⟨rfl,rfl⟩)
  refine bodyPost_ret (results_none rfl _ _ _) rfl ⟨rfl,HF.out.2,.inl ⟨HG.out, ?_⟩⟩
  rw [HL.out]
  exact HF.out.1
 ·have hg' : ¬ (x ≤ y) := hg
  go_enter Tryz.func112,Tryz.ntmps112
  go_wp2_with fail
  refine wp_region_quiet_below (by kernel_rfl) (by kernel_rfl) ?_
  repeat (first | go_big_quiet_step (first | with_reducible exact cK _ _ | with_reducible exact cM _ _) | quiet_step (first | with_reducible exact cK _ _ | with_reducible exact cM _ _))
  refine wpQuiet_nil ?_
  intro _ hw'
  obtain ⟨⟨dq,osq⟩,hw''⟩ := hw'
  subst hw''
  have S2 : Seats (grow (redrawn w dq) osq) V G lo v1 (.slice (some ⟨g2, 0,none⟩) 4 k2) (.slice a3 P.sk.rows.length k3) P o := Seats.on HS.out (below_regrown w dq osq)
  have B2 : Hid (Below G w (grow (redrawn w dq) osq)) := HB.out dq osq
  obtain ⟨w2,hw2⟩ : ∃ x,grow (redrawn w dq) osq = x := ⟨_,rfl⟩
  show Exit.then _ _ Exit.normal _ (grow (redrawn w dq) osq)
  rw [hw2] at S2 B2 ⊢
  clear hw2 cK cM kb2 kb3 b1 b2 b3 b4 hcm hO2
  obtain ⟨_,c1,_,_,c4⟩ := S2.1.cells
  simp only [List.getElem?_cons_zero] at c4
  unfold outF at c4
  have cD := HDEL.out w2 S2.1.2.2.1
  rw [show P.main.tail = mr by rw [HT.out]; rfl] at cD
  have HG : Hid (guessS P.sk m0 < guessS P.sk key) := by show _ < _; rw [HXY.out.1,HXY.out.2]; omega
  have HS2 : Hid (Seats w2 V G lo v1 (.slice (some ⟨g2, 0,none⟩) 4 k2) (.slice a3 P.sk.rows.length k3) P o) := S2
  have hml : mr.length ≤ 2000000 := by
   have := congrArg List.length HT.out
   rw [hm,List.length_cons] at this
   omega
  clear S2 hm
  go_wp2_with fail
  refine cD.mono ?_
  rintro e w3 ⟨v3',rfl,ho3,hn3,hg3⟩
  obtain ⟨a5,k5,rfl,_⟩ := ho3.strsAt
  have S2 : Seats w2 V G lo v1 (.slice (some ⟨g2, 0,none⟩) 4 k2) (.slice a3 P.sk.rows.length k3) P o := HS2.out
  obtain ⟨q0,qf⟩ := S2.1.var2 seats_ty hg3
  have q1 := qf 1
  obtain ⟨S4,B4⟩ := S2.main hg3 ho3 (fun k e => .inl (by rw [← hn3]; exact e))
  have B4' : Hid (Below G w (w3.setCell ⟨V, 1,none⟩ (.slice a5 mr.length k5))) := B2.out.trans B4
  obtain ⟨w4,hw4⟩ : ∃ x,w3.setCell ⟨V, 1,none⟩ (.slice a5 mr.length k5) = x := ⟨_,rfl⟩
  have HW4 : Hid (w3.setCell ⟨V, 1,none⟩ (.slice a5 mr.length k5) = w4) := hw4
  rw [hw4] at S4 B4'
  obtain ⟨_,_,_,_,d4⟩ := S4.1.cells
  simp only [List.getElem?_cons_zero] at d4
  unfold outF at d4
  have cO := out_any w4 G m0 o S4.2.1
  have S5 := S4.out m0
  have B5 : Hid (Below G w (w4.setCell ⟨G, 0,none⟩ (.string m0))) := B4'.out.setCell (Nat.le_refl _) _
  obtain ⟨w5,hw5⟩ : ∃ x,w4.setCell ⟨G, 0,none⟩ (.string m0) = x := ⟨_,rfl⟩
  have HW5 : Hid (w4.setCell ⟨G, 0,none⟩ (.string m0) = w5) := hw5
  rw [hw5] at S5 B5 cO
  rw [← hw4] at d4
  obtain ⟨_,e1,_,_,_⟩ := S5.1.cells
  have HS5 : Hid (Seats w5 V G lo v1 (.slice a5 mr.length k5) (.slice a3 P.sk.rows.length k3) ⟨P.win,mr,P.sk⟩ m0) := S5
  have hO5 : OwnV w5 lo 9 (.slice a5 mr.length k5) (strs mr) := S5.1.2.2.1
  have hlo5 := S5.lo
  have HV : Hid (∀ w',w5.grownBy w' (Value.slice a5 mr.length k5).ownBlock → w'.cell? ⟨V, 1,none⟩ = some (.slice a5 mr.length k5) ∧ w'.frozen? ⟨V, 1,none⟩ = false) := fun w' hg => ⟨(S5.1.var2 seats_ty hg).1,(S5.1.var2 seats_ty hg).2 1⟩
  clear S2 S4 S5 B4 ho3 hn3 hg3 cD hw4 hw5 qf HS2 B2 B4'
  go_wp2_with (first
   | (go_at_fn 69; rw [HW4.out]; refine cO.mono ?_; rintro e w6 ⟨rfl,hw6⟩; rw [hw6])
   | (at_builtin; refine wpList_snocS rfl (.tmp 61) (.tmp 63) 25 rfl lo Tryz.underlying25 Tryz.infoSK _ mr rfl hO5 key rfl hml hlo5 ?_; intro g cap w7 ho7 hg7 hn7; obtain ⟨u0,u1⟩ := HV.out w7 hg7))
  have S5 : Seats w5 V G lo v1 (.slice a5 mr.length k5) (.slice a3 P.sk.rows.length k3) ⟨P.win,mr,P.sk⟩ m0 := HS5.out
  have HF := S5.main hg7 ho7 (fun k e => by simp only [Value.ownBlock,Option.some.injEq] at e; subst e; exact hn7)
  go_end0
  exact ⟨rfl,B5.out.trans HF.2,.inr ⟨HG.out,_,HF.1⟩⟩
theorem step_snocS {P : Program} {ops : Array Oper} {o : Oper} {a : Act} {K : Act → World → Prop} {Q : Exit → Act → World → Prop} {E : Prop} {wr : World} (hgd : o.guard = none) (s x : Operand) (t : TypeId)
  (ho : o.op = .call { callee := .builtin .append,args := #[s,x],argTypes := #[t,t] }) (base : Nat) (ht : P.underlying t = some (.slice 9))
  (hinfo : (P.info? 9).map (fun i => (i.zero,i.size,i.bytes)) = some (some (.string ⟨#[]⟩), 1, 16)) (v : Value) (L : List ByteArray) (hs : a.eval s = v) (hown : OwnV wr base 9 v (strs L))
  (y : ByteArray) (hx : a.eval x = .slice (some ⟨wr.heap.size, 0,none⟩) 1 1) (hlen : L.length ≤ 2000000) (hbase : base ≤ wr.heap.size)
  (h : ∀ g cap w',OwnV w' base 9 (.slice (some ⟨g, 0,none⟩) (L.length + 1) cap) (strs (L ++ [y])) → wr.grownBy w' v.ownBlock → (v.ownBlock = some g ∨ wr.heap.size ≤ g) → K (a.put o.dst (.slice (some ⟨g, 0,none⟩) (L.length + 1) cap)) w') :
  if Region.wanted o (yielded ops a.tmps) = true then Oper.wp P o a (wr.alloc (.cells #[.string y] 9)) K Q else E := by
 obtain ⟨i0,hi,hz0,hz1,hz2⟩ := info_parts hinfo
 have hO : (wr.alloc (.cells #[.string y] 9)).ownsRow base 9 1 v L.length (strs L) := by
  have h1 := OwnV.alloc hown (.cells #[.string y] 9)
  unfold OwnV at h1
  rw [strs_length] at h1
  exact h1
 refine step_append_lies _ hgd s x t ho base 9 i0 _ 1 16 ht hi hz0 hz1 hz2 rfl (by decide) v L.length (strs L) hs hO ⟨wr.heap.size, 0,none⟩ 1 1 [.string y] hx rfl (fun j u hj => ?_) (fun u hu => ?_) (by decide) (by unfold maxLen; omega) (by omega) (by simp; omega) (wr.heap.size + 1) (by simp) ?_
 ·match j,hj with
  | 0,hj => simp at hj; subst hj; simp [Addr.add]
 ·simp at hu; subst hu; rfl
 ·intro g cap w' h1 h2 h3 _
  refine h g cap w' ?_ (grown_alloc h2) ?_
  ·unfold OwnV
   rw [strs_append,List.length_append,strs_length]
   exact h1
  ·rcases h3 with h3 | h3
   ·exact .inl h3
   ·exact .inr (by omega)
def enterP (P : Pol) (key : ByteArray) : Pol × ByteArray := if P.win.length + 1 ≤ 2 then (⟨P.win ++ [key],P.main,P.sk⟩,noKey) else pushP (P.win ++ [key]).tail P.main P.sk (P.win.getD 0 noKey)
theorem settle_any (w : World) (V G lo : Nat) (v1 v2 v3 : Value) (P : Pol) (key : ByteArray) (h : Seats w V G lo v1 v2 v3 P noKey) (hm : P.main.length ≤ 4) (hs : P.sk.rows.length ≤ 1048576) (hk : key.size ≤ 1048576) (hz : ∀ z ∈ P.main,z.size ≤ 1048576) (ht : ∀ W,Below G w W → Tab W) :
  Calls Tryz.prog 112 #[.pointer (some ⟨V, 0,none⟩),.string key] w fun e w' => e = .returned (.tuple #[]) ∧ Below G w w' ∧ ∃ v1' v2' v3',Seats w' V G lo v1' v2' v3' (pushP P.win P.main P.sk key).1 (pushP P.win P.main P.sk key).2 := by
 by_cases h4 : P.main.length < 4
 ·refine (settle_room w V G lo v1 v2 v3 P noKey key h h4).mono ?_
  rintro e w' ⟨rfl,v2',hS,hB⟩
  refine ⟨rfl,hB,v1,v2',v3, ?_⟩
  unfold pushP
  rw [if_pos h4]
  exact hS
 ·obtain ⟨m0,mr,he⟩ : ∃ m0 mr,P.main = m0 :: mr := by
   cases hM : P.main with
   | nil => rw [hM] at h4; simp at h4
   | cons a r => exact ⟨a,r,rfl⟩
  refine (settle_full w V G lo v1 v2 v3 P noKey key m0 mr h (by omega) he hs hk (hz m0 (by rw [he]; exact List.mem_cons_self ..)) ht).mono ?_
  rintro e w' ⟨rfl,hB,hS⟩
  refine ⟨rfl,hB, ?_⟩
  unfold pushP
  rw [if_neg h4,show P.main.getD 0 noKey = m0 by rw [he]; rfl]
  rcases hS with ⟨hg,hS⟩ | ⟨hg,v2',hS⟩
  ·rw [if_neg (by omega)]
   exact ⟨v1,v2,v3,hS⟩
  ·rw [if_pos hg,show P.main.tail = mr by rw [he]; rfl]
   exact ⟨v1,v2',v3,hS⟩
set_option maxRecDepth 100000 in
set_option maxHeartbeats 4000000 in
theorem enter_any (w : World) (V G lo : Nat) (v1 v2 v3 : Value) (P : Pol) (key : ByteArray) (h : Seats w V G lo v1 v2 v3 P noKey) (hw : P.win.length ≤ 2) (hm : P.main.length ≤ 4) (hs : P.sk.rows.length ≤ 1048576) (hk : key.size ≤ 1048576) (hz : ∀ z ∈ P.win ++ P.main,z.size ≤ 1048576) (ht : ∀ W,Below G w W → Tab W) :
  Calls Tryz.prog 96 #[.pointer (some ⟨V, 0,none⟩),.string key] w fun e w' => e = .returned (.tuple #[]) ∧ Below G w w' ∧ ∃ v1' v2' v3',Seats w' V G lo v1' v2' v3' (enterP P key).1 (enterP P key).2 := by
 have HS : Hid (Seats w V G lo v1 v2 v3 P noKey) := h
 obtain ⟨b0,_,_,_,_⟩ := h.1.cells
 have hO1 := h.1.2.1
 obtain ⟨a1,k1,rfl,_⟩ := hO1.strsAt
 have HC : Hid (∀ wi,Calls Tryz.prog 49 #[.string key] wi fun e w' => e = .returned (.string key) ∧ Below wi.heap.size wi w') := fun wi => cloneS_any key wi (by omega)
 have hdr : Below w.heap.size w w.drew := ⟨rfl,rfl,rfl,Nat.le_refl _,fun _ _ => rfl⟩
 have hwl : P.win.length ≤ 2000000 := by omega
 have HON : Hid (∀ W,Below w.heap.size w W → Seats W V G lo (.slice a1 P.win.length k1) v2 v3 P noKey ∧ Below G w W) := fun W hW => ⟨h.on hW,hW.mono (by have := h.lo; have := h.2.2.1; omega)⟩
 have HX : Hid (P.win.length ≤ 2 ∧ P.main.length ≤ 4 ∧ P.sk.rows.length ≤ 1048576 ∧ (∀ z ∈ P.win ++ P.main,z.size ≤ 1048576) ∧ ∀ W,Below G w W → Tab W) := ⟨hw,hm,hs,hz,ht⟩
 clear h hw hm hs hz ht hO1
 go_enter Tryz.func96,Tryz.ntmps96
 go_wp2_with fail
 go_region_law (first
  | (go_simp; go_at_call 49; refine (HC.out _).mono ?_; rintro e w3 ⟨rfl,hb3⟩; obtain ⟨S3,B3⟩ := HON.out w3 (hdr.trans (hb3.mono hdr.size)); obtain ⟨c0,_,_,_,_⟩ := S3.1.cells; obtain ⟨c0',_,_,_,_⟩ := (S3.on (w' := w3.alloc (.cells #[.string key] 9)) ((Below.refl _ _).alloc (Nat.le_refl _) _)).1.cells)
  | (refine step_snocS rfl (.tmp 10) (.tmp 13) 25 rfl lo Tryz.underlying25 Tryz.infoSK _ P.win rfl S3.1.2.1 key rfl hwl S3.lo ?_; intro g cap w4 ho4 hg4 hn4; obtain ⟨q0,qf⟩ := S3.1.var1 seats_ty hg4; have q1 := qf 0))
 all_goals (
  obtain ⟨S5,B5⟩ := S3.win hg4 ho4 (fun k e => by simp only [Value.ownBlock,Option.some.injEq] at e; subst e; exact hn4)
  have HB5 : Hid (Below G w (w4.setCell ⟨V, 0,none⟩ (.slice (some ⟨g, 0,none⟩) (P.win.length + 1) cap))) := B3.trans B5
  obtain ⟨w5,hw5⟩ : ∃ x,w4.setCell ⟨V, 0,none⟩ (.slice (some ⟨g, 0,none⟩) (P.win.length + 1) cap) = x := ⟨_,rfl⟩
  rw [hw5] at S5 HB5 ⊢
  clear S3 B3 B5 hw5 c0 c0' q0 qf q1 hg4 ho4 hn4 hb3 hdr
  obtain ⟨n,hn⟩ : ∃ n,P.win.length + 1 = n := ⟨_,rfl⟩
  obtain ⟨l1,l2,l3,l4,l5⟩ := HX.out
  obtain ⟨d0,_,_,_,_⟩ := S5.1.cells
  rw [hn] at S5 d0 ⊢
  by_cases hn2 : n ≤ 2
  ·have hi : ¬ ((2 : Int) < (n : Int)) := by omega
   have HF : Hid (Seats w5 V G lo (.slice (some ⟨g, 0,none⟩) n cap) v2 v3 ⟨P.win ++ [key],P.main,P.sk⟩ noKey) := S5
   have HE : Hid (enterP P key = (⟨P.win ++ [key],P.main,P.sk⟩,noKey)) := by show _ = _; unfold enterP; rw [hn,if_pos hn2]
   clear S5 HX l1 l2 l3 l4 l5 HON HS b0 hn hwl
   go_wp2_with fail
   go_end0
   refine ⟨rfl,HB5.out,.slice (some ⟨g, 0,none⟩) n cap,v2,v3, ?_⟩
   rw [HE.out]
   exact HF.out
  ·have hi : ((2 : Int) < (n : Int)) := by omega
   obtain ⟨f,s,hfs⟩ : ∃ f s,P.win = [f,s] := by
    match hP : P.win with
    | [f,s] => exact ⟨f,s,rfl⟩
    | [] => rw [hP] at hn; simp at hn; omega
    | [_] => rw [hP] at hn; simp at hn; omega
    | _ :: _ :: _ :: _ => rw [hP] at l1; simp at l1
   have e1 : (P.win ++ [key]).tail = [s,key] := by rw [hfs]; rfl
   have e2 : P.win.getD 0 noKey = f := by rw [hfs]; rfl
   have hcf : w5.cell? ⟨g, 0,none⟩ = some (.string f) := by
    have hc := (S5.1.2.1.cell (j := 0) (by rw [strs_length]; simp)).1
    rw [hc]
    simp [hfs,strs]
   have cD := deleteFirst_any w5 lo _ (P.win ++ [key]) S5.1.2.1 (by simp)
   rw [e1] at cD
   have HE : Hid (enterP P key = pushP [s,key] P.main P.sk f) := by show _ = _; unfold enterP; rw [hn,if_neg hn2,e1,e2]
   have HS5 : Hid (Seats w5 V G lo (.slice (some ⟨g, 0,none⟩) n cap) v2 v3 ⟨P.win ++ [key],P.main,P.sk⟩ noKey) := S5
   have HFZ : Hid (f.size ≤ 1048576) := l4 f (by rw [hfs]; simp)
   clear S5 l1 l2 l3 l4 l5 HON HS b0 hn hwl hfs e1 e2
   go_wp2_with fail
   refine cD.mono ?_
   rintro e w6 ⟨v6,rfl,ho6,hn6,hg6⟩
   obtain ⟨a6,k6,rfl,_⟩ := ho6.strsAt
   have S5 : Seats w5 V G lo (.slice (some ⟨g, 0,none⟩) n cap) v2 v3 ⟨P.win ++ [key],P.main,P.sk⟩ noKey := HS5.out
   obtain ⟨u0,uf⟩ := S5.1.var1 seats_ty hg6
   have u1 := uf 0
   obtain ⟨S7,B7⟩ := S5.win hg6 ho6 (fun k e => .inl (by rw [← hn6]; exact e))
   have HB7 : Hid (Below G w (w6.setCell ⟨V, 0,none⟩ (.slice a6 [s,key].length k6))) := HB5.out.trans B7
   obtain ⟨w7,hw7⟩ : ∃ x,w6.setCell ⟨V, 0,none⟩ (.slice a6 [s,key].length k6) = x := ⟨_,rfl⟩
   have HW7 : Hid (w6.setCell ⟨V, 0,none⟩ (.slice a6 2 k6) = w7) := hw7
   rw [hw7] at S7 HB7
   obtain ⟨l1,l2,l3,l4,l5⟩ := HX.out
   have cS := settle_any w7 V G lo _ v2 v3 ⟨[s,key],P.main,P.sk⟩ f S7 l2 l3 HFZ.out (fun z hz => l4 z (List.mem_append_right _ hz)) (fun W hW => l5 W (HB7.out.trans hW))
   dsimp only at cS
   clear S5 S7 B7 hw7 ho6 hn6 hg6 uf l1 l2 l3 l4 l5 cD
   go_wp2_with fail
   rw [HW7.out]
   refine cS.mono ?_
   rintro e w8 ⟨rfl,hb8',v1',v2',v3',hS8⟩
   have hb8 := HB7.out.trans hb8'
   have HF : Hid _ := hS8
   clear hS8 cS hb8'
   go_wp2_with fail
   go_end0
   refine ⟨rfl,hb8,v1',v2',v3', ?_⟩
   rw [HE.out]
   exact HF.out)
theorem bytes_nk' {z key : ByteArray} (h : ¬ z = key) : (key.toList == z.toList) = false := bytes_nk (fun e => h e.symm)
set_option maxHeartbeats 2000000 in
theorem indexS_any (w : World) (a : Option Addr) (c : Nat) (L : List ByteArray) (s : ByteArray) (hA : LAt w a L w.heap.size) (hm : L.length ≤ 10000000) :
  Calls Tryz.prog 98 #[.slice a L.length c,.string s] w fun e w' => ∃ r : Int,e = .returned (.int .i64 r) ∧ w' = w ∧ ((r = -1 ∧ inL L s = false) ∨ ∃ k : Nat, ∃ hk : k < L.length,r = k ∧ L[k] = s ∧ inL (L.take k) s = false) := by
 go_enter Tryz.func98,Tryz.ntmps98
 go_wp2
 go_loopw [8] (fun i wr => Box (∃ (k : Nat),k ≤ L.length ∧ i = .int .i64 k ∧ Hid (inL (L.take k) s = false) ∧ w = wr))
  (fun i _ => L.length - (intOf i).toNat)
 case atStart => exact ⟨⟨0,by omega,rfl,rfl,rfl⟩⟩
 case round =>
  obtain ⟨k,hk,rfl,HN,rfl⟩ := hrel.out
  by_cases hlt : k < L.length
  ·obtain ⟨g,off,rfl,hg,hc⟩ := hA k hlt
   have hi1 : (0 : Int) ≤ (k : Int) := by omega
   have hi2 : (k : Int) < (L.length : Int) := by omega
   by_cases hz : L[k] = s
   ·have HT : Hid (∃ k' : Nat, ∃ hk : k' < L.length,(k : Int) = k' ∧ L[k'] = s ∧ inL (L.take k') s = false) := ⟨k,hlt,rfl,hz,HN.out⟩
    rw [hz] at hc
    clear hrel hz hA
    go_wp2
    go_ret
    exact ⟨_,rfl,rfl,.inr HT.out⟩
   ·have HT : Hid (inL (L.take (k + 1)) s = false) := inL_take hlt HN.out hz
    have hz1 := bytes_nk' hz
    obtain ⟨z,hzz⟩ : ∃ z,L[k] = z := ⟨_,rfl⟩
    rw [hzz] at hc hz1
    clear hrel hz hzz hA
    go_wp2
    go_roundw
    case rel =>
     try ((repeat apply Exists.intro); refine ⟨?_,rfl⟩)
     exact ⟨⟨k + 1,by omega,by go_num,HT,by first | rfl | trivial⟩⟩
    case measure => simp [intOf]; omega
  ·go_wp2
   go_ret
   have hke : k = L.length := by omega
   have := HN.out
   rw [hke,List.take_length] at this
   exact ⟨_,rfl,rfl,.inl ⟨rfl,this⟩⟩
theorem containsS_any (w : World) (a : Option Addr) (c : Nat) (L : List ByteArray) (s : ByteArray) (hA : LAt w a L w.heap.size) (hm : L.length ≤ 10000000) :
  Calls Tryz.prog 75 #[.slice a L.length c,.string s] w fun e w' => e = .returned (.bool (inL L s)) ∧ w' = w := by
 have c1 := indexS_any w a c L s hA hm
 go_enter Tryz.func75,Tryz.ntmps75
 go_wp2_with fail
 refine c1.mono ?_
 rintro e w' ⟨r,rfl,rfl,h⟩
 clear c1
 rcases h with ⟨rfl,h⟩ | ⟨k,hk,rfl,h1,_⟩
 ·go_wp2_with fail
  go_ret
  exact ⟨by rw [h]; rfl,rfl⟩
 ·have HT : Hid (inL L s = true) := inL_iff.2 (by rw [← h1]; exact List.getElem_mem hk)
  have hi1 : (0 : Int) ≤ (k : Int) := by omega
  clear h1
  go_wp2_with fail
  go_ret
  exact ⟨by rw [HT.out]; simp,rfl⟩
theorem nokey_bytes {s : ByteArray} (h : 1 ≤ s.size) : s.toList.isEmpty = false := by
 rw [ByteArray.toList_eq,List.isEmpty_eq_false_iff]
 intro e
 have h1 : s.size = s.data.toList.length := by rw [Array.length_toList]; rfl
 rw [e,List.length_nil] at h1
 omega
set_option maxHeartbeats 2000000 in
theorem implKeyOk_any (w : World) (s : ByteArray) (hs : s.size ≤ 10000000) :
  Calls Tryz.prog 71 #[.string s] w fun e w' => e = .returned (.bool (keyOk s)) ∧ w' = w := by
 by_cases h : 1 ≤ s.size
 ·have h1 := nokey_bytes h
  have HK : Hid (keyOk s = decide ((s.size : Int) ≤ 30)) := by
   show _ = _
   unfold keyOk
   by_cases h' : s.size ≤ 30
   ·rw [decide_eq_true (⟨h,h'⟩ : 1 ≤ s.size ∧ s.size ≤ 30),decide_eq_true (by omega)]
   ·rw [decide_eq_false (by omega),decide_eq_false (by omega)]
  clear h
  go_enter Tryz.func71,Tryz.ntmps71
  go_wp2
  go_ret
  exact ⟨by rw [HK.out]; rfl,rfl⟩
 ·have h0 : s = ⟨#[]⟩ := by
   have h0 : s.data.size = 0 := by have : s.size = s.data.size := rfl; omega
   exact ByteArray.ext (Array.eq_empty_of_size_eq_zero h0)
  subst h0
  go_enter Tryz.func71,Tryz.ntmps71
  go_wp2
  go_ret
  exact ⟨rfl,rfl⟩
end Go.Proofs.YthfjfccdelbkhaaGreatDoor
