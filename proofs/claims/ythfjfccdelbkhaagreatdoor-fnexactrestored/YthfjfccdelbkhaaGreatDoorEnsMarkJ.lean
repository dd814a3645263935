/- Texts that stand in one: EnsMark, FetMark, CliMark. -/
import Derived.Test.YthfjfccdelbkhaaGreatDoorPrxBaseJ
import Derived.Test.YthfjfccdelbkhaaGreatDoorCliLawJ
namespace Go.Proofs.YthfjfccdelbkhaaGreatDoor
open Go.RowKit Go.Sort
def mEn (n : Nat) : En := ⟨mkT n,((n + 1 : Nat) : Int),((n + 2 : Nat) : Int),mkT (n + 3)⟩
def mEnl (k n : Nat) : List En := (List.range n).map fun j => mEn (k + 4 * j)
theorem mEnl_length (k n : Nat) : (mEnl k n).length = n := by simp [mEnl]
theorem mEnl_at {k n j : Nat} (h : j < n) : (mEnl k n)[j]'(by rw [mEnl_length]; exact h) = mEn (k + 4 * j) := by simp [mEnl]
theorem mEnl_succ (k n : Nat) : mEnl k (n + 1) = mEnl k n ++ [mEn (k + 4 * n)] := by simp [mEnl,List.range_succ]
theorem mEnl_set (k j : Nat) (L : List En) (h : j < L.length) : (mEnl k j ++ L.drop j).set j (mEn (k + 4 * j)) = mEnl k (j + 1) ++ L.drop (j + 1) := by
 rw [List.set_append_right _ _ (by rw [mEnl_length]; exact Nat.le_refl _),mEnl_length,Nat.sub_self,List.drop_eq_getElem_cons h,List.set_cons_zero,mEnl_succ]
 simp
theorem rowN_stored {w : World} {base : Nat} {e : TypeId} {g n cap : Nat} {xs : List Value} (h : w.ownsRow base e 4 (.slice (some ⟨g, 0,none⟩) n cap) n xs) (i : Nat) (u : Value) :
  (w.setCell ⟨g,i,none⟩ u).ownsRow base e 4 (.slice (some ⟨g, 0,none⟩) n cap) n (xs.set i u) ∧ w.grownBy (w.setCell ⟨g,i,none⟩ u) (some g) := World.ownsRow.stored h i u
set_option maxRecDepth 100000 in
set_option maxHeartbeats 4000000 in
theorem markEntryS_any (w : World) (base : Nat) (v : Value) (L : List En) (k : Nat) (hown : OwnN w base 47 v L) (hl : L.length ≤ 1048576) (hk0 : 0 < k) (hk1 : k ≤ 100000000) :
  Calls Tryz.prog 10 #[v,.int .i64 k] w fun e w' => e = .returned (.int .i64 ((k + 4 * L.length : Nat) : Int)) ∧ OwnN w' base 47 v (mEnl k L.length) ∧ w.grownBy w' v.ownBlock := by
 obtain ⟨a,cap,rfl,_⟩ := hown.at
 obtain ⟨n,hn⟩ : ∃ n,L.length = n := ⟨_,rfl⟩
 have HN : Hid (L.length = n) := hn
 rw [hn] at hl ⊢
 rw [hn] at hown
 clear hn
 go_enter Tryz.func10,Tryz.ntmps10
 go_wp2
 go_loopw [1, 5] (fun q i wr => Box (∃ (j : Nat),j ≤ n ∧ i = .int .i64 j ∧ q = .int .i64 ((k + 4 * j : Nat) : Int) ∧ OwnN wr base 47 (.slice a n cap) (mEnl k j ++ L.drop j) ∧ w.grownBy wr (Value.slice a n cap).ownBlock))
  (fun _ i _ => n - (intOf i).toNat)
 case atStart => exact ⟨⟨0,by omega,rfl,rfl,hown,grownBy_refl _ _⟩⟩
 case round =>
  obtain ⟨j,hj,rfl,rfl,hown1,hgr⟩ := hrel.out
  clear hrel hown
  by_cases hlt : j < n
  ·have hlt' : j < L.length := by have := HN.out; omega
   obtain ⟨M,hM⟩ : ∃ M,mEnl k j ++ L.drop j = M := ⟨_,rfl⟩
   have HL : Hid (M.length = n) := by show _ = _; have := HN.out; rw [← hM,List.length_append,mEnl_length,List.length_drop]; omega
   have HS : Hid (M.set j (mEn (k + 4 * j)) = mEnl k (j + 1) ++ L.drop (j + 1)) := by rw [← hM]; exact mEnl_set k j L hlt'
   rw [hM] at hown1
   clear hM hlt'
   have hrow1 : wr.ownsRow base 47 4 (.slice a n cap) n (enl M) := by have h := hown1; unfold OwnN at h; rwa [HL.out] at h
   obtain ⟨g,rfl,hgs,_⟩ := rowN_addr hrow1 (by omega)
   have hi1 : (0 : Int) ≤ (j : Int) := by omega
   have hi2 : (j : Int) < (n : Int) := by omega
   obtain ⟨p,hp⟩ : ∃ p,k + 4 * j = p := ⟨_,rfl⟩
   have HP : Hid (k + 4 * j = p) := hp
   have hpb : p ≤ 110000000 := by omega
   have hp0 : 0 < p := by omega
   rw [hp] at HS ⊢
   clear hp
   have HR : Hid (wr.ownsRow base 47 4 (.slice (some ⟨g, 0,none⟩) n cap) n (enl M)) := hrow1
   have HG : Hid (w.grownBy wr (some g)) := hgr
   clear hrow1 hgr hown1 hgs
   have cM := markText_any p wr (by omega) (by omega)
   go_wp2_with fail
   refine cM.mono ?_
   rintro e w1 ⟨rfl,hb⟩
   have HR2 : Hid (w1.ownsRow base 47 4 (.slice (some ⟨g, 0,none⟩) n cap) n (enl M)) := rowN_below HR.out hb (Nat.le_refl _)
   have HG2 : Hid (w.grownBy w1 (some g)) := grownBy_trans HG.out (grownBy_below hb)
   clear cM hb HR HG
   have HR : Hid (w1.ownsRow base 47 4 (.slice (some ⟨g, 0,none⟩) n cap) n (enl M)) := HR2.out
   have HG : Hid (w.grownBy w1 (some g)) := HG2.out
   clear HR2 HG2
   have S0 := rowN_stored HR.out (j * 4) (.string (mkT p))
   have S1 := rowN_stored S0.1 (j * 4 + 1) (.int .i64 ((p : Int) + 1))
   have S2 := rowN_stored S1.1 (j * 4 + 2) (.int .i64 ((p : Int) + 1 + 1))
   obtain ⟨u0,k0,f0⟩ := rowN_there HR.out (j * 4) (by omega)
   obtain ⟨u1,k1,f1⟩ := rowN_there HR.out (j * 4 + 1) (by omega)
   obtain ⟨u2,k2,f2⟩ := rowN_there HR.out (j * 4 + 2) (by omega)
   have HR1 : Hid ((((w1.setCell ⟨g,j * 4,none⟩ (.string (mkT p))).setCell ⟨g,j * 4 + 1,none⟩ (.int .i64 ((p : Int) + 1))).setCell ⟨g,j * 4 + 2,none⟩ (.int .i64 ((p : Int) + 1 + 1))).ownsRow base 47 4 (.slice (some ⟨g, 0,none⟩) n cap) n ((((enl M).set (j * 4) (.string (mkT p))).set (j * 4 + 1) (.int .i64 ((p : Int) + 1))).set (j * 4 + 2) (.int .i64 ((p : Int) + 1 + 1)))) := S2.1
   have HG1 : Hid (w.grownBy (((w1.setCell ⟨g,j * 4,none⟩ (.string (mkT p))).setCell ⟨g,j * 4 + 1,none⟩ (.int .i64 ((p : Int) + 1))).setCell ⟨g,j * 4 + 2,none⟩ (.int .i64 ((p : Int) + 1 + 1))) (some g)) := (grownBy_trans (grownBy_trans (grownBy_trans HG.out S0.2) S1.2) S2.2)
   clear S0 S1 S2 HR HG
   obtain ⟨wa1,hwa1⟩ : ∃ x,(((w1.setCell ⟨g,j * 4,none⟩ (.string (mkT p))).setCell ⟨g,j * 4 + 1,none⟩ (.int .i64 ((p : Int) + 1))).setCell ⟨g,j * 4 + 2,none⟩ (.int .i64 ((p : Int) + 1 + 1))) = x := ⟨_,rfl⟩
   rw [hwa1] at HR1 HG1
   have HW1 : Hid ((((w1.setCell ⟨g,j * 4,none⟩ (.string (mkT p))).setCell ⟨g,j * 4 + 1,none⟩ (.int .i64 ((p : Int) + 1))).setCell ⟨g,j * 4 + 2,none⟩ (.int .i64 ((p : Int) + 1 + 1))) = wa1) := hwa1
   clear hwa1
   have cM := markText_any (p + 3) wa1 (by omega) (by omega)
   rw [show ((p + 3 : Nat) : Int) = (p : Int) + 1 + 1 + 1 by omega] at cM
   go_wp2_with fail
   rw [HW1.out]
   refine cM.mono ?_
   rintro e w4 ⟨rfl,hb⟩
   have HR2 : Hid (w4.ownsRow base 47 4 (.slice (some ⟨g, 0,none⟩) n cap) n ((((enl M).set (j * 4) (.string (mkT p))).set (j * 4 + 1) (.int .i64 ((p : Int) + 1))).set (j * 4 + 2) (.int .i64 ((p : Int) + 1 + 1)))) := rowN_below HR1.out hb (Nat.le_refl _)
   have HG2 : Hid (w.grownBy w4 (some g)) := grownBy_trans HG1.out (grownBy_below hb)
   clear cM hb HR1 HG1 k0 f0 k1 f1 k2 f2
   have HR : Hid (w4.ownsRow base 47 4 (.slice (some ⟨g, 0,none⟩) n cap) n ((((enl M).set (j * 4) (.string (mkT p))).set (j * 4 + 1) (.int .i64 ((p : Int) + 1))).set (j * 4 + 2) (.int .i64 ((p : Int) + 1 + 1)))) := HR2.out
   have HG : Hid (w.grownBy w4 (some g)) := HG2.out
   clear HR2 HG2
   have S0 := rowN_stored HR.out (j * 4 + 3) (.string (mkT (p + 3)))
   obtain ⟨u0,k0,f0⟩ := rowN_there HR.out (j * 4 + 3) (by omega)
   have HR1 : Hid ((w4.setCell ⟨g,j * 4 + 3,none⟩ (.string (mkT (p + 3)))).ownsRow base 47 4 (.slice (some ⟨g, 0,none⟩) n cap) n (((((enl M).set (j * 4) (.string (mkT p))).set (j * 4 + 1) (.int .i64 ((p : Int) + 1))).set (j * 4 + 2) (.int .i64 ((p : Int) + 1 + 1))).set (j * 4 + 3) (.string (mkT (p + 3))))) := S0.1
   have HG1 : Hid (w.grownBy (w4.setCell ⟨g,j * 4 + 3,none⟩ (.string (mkT (p + 3)))) (some g)) := (grownBy_trans HG.out S0.2)
   clear S0 HR HG
   go_wp2
   go_roundw
   case rel =>
    try ((repeat apply Exists.intro); refine ⟨?_,rfl⟩)
    refine ⟨⟨j + 1,by omega,by go_num, ?_, ?_,HG1.out⟩⟩
    ·have := HP.out
     congr 1
     omega
    ·have h := HR1.out
     have e : (((((enl M).set (j * 4) (.string (mkT p))).set (j * 4 + 1) (.int .i64 ((p : Int) + 1))).set (j * 4 + 2) (.int .i64 ((p : Int) + 1 + 1))).set (j * 4 + 3) (.string (mkT (p + 3)))) = enl (M.set j (mEn p)) := enl_set M j (mEn p)
     rw [e] at h
     rw [← HS.out]
     unfold OwnN
     rw [List.length_set,HL.out]
     exact h
   case measure => simp [intOf]; omega
  ·go_wp2
   go_ret
   have hje : j = n := by omega
   have hd : L.drop j = [] := List.drop_of_length_le (by have := HN.out; omega)
   rw [hd,List.append_nil] at hown1
   subst hje
   exact ⟨rfl,hown1,hgr⟩
set_option maxRecDepth 100000 in
set_option maxHeartbeats 4000000 in
theorem heldEntryS_any (w : World) (base : Nat) (v : Value) (n k : Nat) (hown : OwnN w base 47 v (mEnl k n)) (hl : n ≤ 1048576) (hk0 : 0 < k) (hk1 : k ≤ 100000000) :
  Calls Tryz.prog 31 #[v,.int .i64 k] w fun e w' => e = .returned (.int .i64 ((k + 4 * n : Nat) : Int)) ∧ Below w.heap.size w w' := by
 obtain ⟨a,cap,rfl,hA⟩ := hown.at
 rw [mEnl_length] at *
 clear hown
 go_enter Tryz.func31,Tryz.ntmps31
 go_wp2
 go_loopw [1, 5] (fun m i wr => Box (∃ (j : Nat),j ≤ n ∧ i = .int .i64 j ∧ m = .int .i64 ((k + 4 * j : Nat) : Int) ∧ Below w.heap.size w wr))
  (fun _ i _ => n - (intOf i).toNat)
 case atStart => exact ⟨⟨0,by omega,rfl,rfl,Below.refl _ _⟩⟩
 case round =>
  obtain ⟨j,hj,rfl,rfl,hbel⟩ := hrel.out
  by_cases hlt : j < n
  ·obtain ⟨g,off,rfl,hg,hc0,hc1,hc2,hc3⟩ := (hA.below hbel (Nat.le_refl _)) j (by rw [mEnl_length]; exact hlt)
   rw [mEnl_at hlt] at hc0 hc1 hc2 hc3
   obtain ⟨N,hN⟩ : ∃ N,k + 4 * j = N := ⟨_,rfl⟩
   rw [hN] at hc0 hc1 hc2 hc3
   have HN : Hid (k + 4 * j = N) := hN
   have hN1 : 0 < N := by omega
   have hN2 : N ≤ 110000000 := by omega
   simp only [mEn] at hc0 hc1 hc2 hc3
   rw [show ((N + 1 : Nat) : Int) = (N : Int) + 1 by omega] at hc1
   rw [show ((N + 2 : Nat) : Int) = (N : Int) + 1 + 1 by omega] at hc2
   have hi1 : (0 : Int) ≤ (j : Int) := by omega
   have hi2 : (j : Int) < (n : Int) := by omega
   have HC : Hid (∀ w',Below wr.heap.size wr w' → w'.cell? ⟨g,off + j * 4,none⟩ = some (.string (mkT N)) ∧ w'.cell? ⟨g,off + j * 4 + 1,none⟩ = some (.int .i64 ((N : Int) + 1)) ∧ w'.cell? ⟨g,off + j * 4 + 2,none⟩ = some (.int .i64 ((N : Int) + 1 + 1)) ∧ w'.cell? ⟨g,off + j * 4 + 3,none⟩ = some (.string (mkT (N + 3)))) := fun w' hb => ⟨(hb.cell (Nat.lt_of_lt_of_le hg hbel.size)).trans hc0,(hb.cell (Nat.lt_of_lt_of_le hg hbel.size)).trans hc1,(hb.cell (Nat.lt_of_lt_of_le hg hbel.size)).trans hc2,(hb.cell (Nat.lt_of_lt_of_le hg hbel.size)).trans hc3⟩
   rw [hN]
   clear hrel hA hN hc0 hc1 hc2 hc3
   obtain ⟨d0,d1,d2,d3⟩ := HC.out wr (Below.refl _ _)
   have l0 := cell_regrown d0
   have cV : ∀ d os,Calls Tryz.prog 27 #[.int .i64 ((N : Int))] (grow (redrawn wr d) os) fun e w'' => e = .returned (.string (mkT N)) ∧ ∃ p : Regrown,w'' = grow (redrawn wr p.d) p.os := fun d os => Calls.regrown_of (by have := markText_any N (grow (redrawn wr d) os) (by omega) (by omega); exact this)
   clear d0 d1 d2 d3
   go_wp2
   refine wp_region_quiet_below (by kernel_rfl) (by kernel_rfl) ?_
   repeat (first | go_big_quiet_step (exact cV _ _) | quiet_step (exact cV _ _))
   refine wpQuiet_nil ?_
   intro _ hw'
   obtain ⟨⟨dq,osq⟩,hw''⟩ := hw'
   subst hw''
   have hb := below_regrown wr dq osq
   obtain ⟨w1,hwn⟩ : ∃ x,grow (redrawn wr dq) osq = x := ⟨_,rfl⟩
   rw [hwn] at hb ⊢
   have hbc : Below wr.heap.size wr w1 := hb
   clear hwn l0 cV hb
   obtain ⟨d0,d1,d2,d3⟩ := HC.out w1 hbc
   have l0 := cell_regrown d3
   have cV : ∀ d os,Calls Tryz.prog 27 #[.int .i64 ((N : Int) + 1 + 1 + 1)] (grow (redrawn w1 d) os) fun e w'' => e = .returned (.string (mkT (N + 3))) ∧ ∃ p : Regrown,w'' = grow (redrawn w1 p.d) p.os := fun d os => Calls.regrown_of (by have := markText_any (N + 3) (grow (redrawn w1 d) os) (by omega) (by omega); rw [show ((N + 3 : Nat) : Int) = (N : Int) + 1 + 1 + 1 by omega] at this; exact this)
   clear d0 d3
   go_wp2
   refine wp_region_quiet_below (by kernel_rfl) (by kernel_rfl) ?_
   repeat (first | go_big_quiet_step (exact cV _ _) | quiet_step (exact cV _ _))
   refine wpQuiet_nil ?_
   intro _ hw'
   obtain ⟨⟨dq,osq⟩,hw''⟩ := hw'
   subst hw''
   have hb := below_regrown w1 dq osq
   obtain ⟨w2,hwn⟩ : ∃ x,grow (redrawn w1 dq) osq = x := ⟨_,rfl⟩
   rw [hwn] at hb ⊢
   have hbc : Below wr.heap.size wr w2 := (hbc.trans (hb.mono hbc.size))
   clear hwn l0 cV hb d1 d2
   go_wp2
   go_roundw
   case rel =>
    try ((repeat apply Exists.intro); refine ⟨?_,rfl⟩)
    exact ⟨⟨j + 1,by omega,by go_num,by have := HN.out; congr 1; omega,hbel.trans (hbc.mono hbel.size)⟩⟩
   case measure => simp [intOf]; omega
  ·go_wp2
   go_ret
   have hje : j = n := by omega
   subst hje
   exact ⟨rfl,hbel⟩
def mFet (n : Nat) : Fet := ⟨mkT n,mkT (n + 1),((n + 2 : Nat) : Int),((n + 3 : Nat) : Int),((n + 4 : Nat) : Int)⟩
def mFetl (k n : Nat) : List Fet := (List.range n).map fun j => mFet (k + 5 * j)
theorem mFetl_length (k n : Nat) : (mFetl k n).length = n := by simp [mFetl]
theorem mFetl_at {k n j : Nat} (h : j < n) : (mFetl k n)[j]'(by rw [mFetl_length]; exact h) = mFet (k + 5 * j) := by simp [mFetl]
theorem mFetl_succ (k n : Nat) : mFetl k (n + 1) = mFetl k n ++ [mFet (k + 5 * n)] := by simp [mFetl,List.range_succ]
theorem mFetl_set (k j : Nat) (L : List Fet) (h : j < L.length) : (mFetl k j ++ L.drop j).set j (mFet (k + 5 * j)) = mFetl k (j + 1) ++ L.drop (j + 1) := by
 rw [List.set_append_right _ _ (by rw [mFetl_length]; exact Nat.le_refl _),mFetl_length,Nat.sub_self,List.drop_eq_getElem_cons h,List.set_cons_zero,mFetl_succ]
 simp
set_option maxRecDepth 100000 in
set_option maxHeartbeats 4000000 in
theorem markFetchS_any (w : World) (base : Nat) (v : Value) (L : List Fet) (k : Nat) (hown : OwnFet w base 83 v L) (hl : L.length ≤ 1048576) (hk0 : 0 < k) (hk1 : k ≤ 100000000) :
  Calls Tryz.prog 29 #[v,.int .i64 k] w fun e w' => e = .returned (.int .i64 ((k + 5 * L.length : Nat) : Int)) ∧ OwnFet w' base 83 v (mFetl k L.length) ∧ w.grownBy w' v.ownBlock := by
 obtain ⟨a,cap,rfl,_⟩ := hown.at
 obtain ⟨n,hn⟩ : ∃ n,L.length = n := ⟨_,rfl⟩
 have HN : Hid (L.length = n) := hn
 rw [hn] at hl ⊢
 rw [hn] at hown
 clear hn
 go_enter Tryz.func29,Tryz.ntmps29
 go_wp2
 go_loopw [1, 5] (fun q i wr => Box (∃ (j : Nat),j ≤ n ∧ i = .int .i64 j ∧ q = .int .i64 ((k + 5 * j : Nat) : Int) ∧ OwnFet wr base 83 (.slice a n cap) (mFetl k j ++ L.drop j) ∧ w.grownBy wr (Value.slice a n cap).ownBlock))
  (fun _ i _ => n - (intOf i).toNat)
 case atStart => exact ⟨⟨0,by omega,rfl,rfl,hown,grownBy_refl _ _⟩⟩
 case round =>
  obtain ⟨j,hj,rfl,rfl,hown1,hgr⟩ := hrel.out
  clear hrel hown
  by_cases hlt : j < n
  ·have hlt' : j < L.length := by have := HN.out; omega
   obtain ⟨M,hM⟩ : ∃ M,mFetl k j ++ L.drop j = M := ⟨_,rfl⟩
   have HL : Hid (M.length = n) := by show _ = _; have := HN.out; rw [← hM,List.length_append,mFetl_length,List.length_drop]; omega
   have HS : Hid (M.set j (mFet (k + 5 * j)) = mFetl k (j + 1) ++ L.drop (j + 1)) := by rw [← hM]; exact mFetl_set k j L hlt'
   rw [hM] at hown1
   clear hM hlt'
   have hrow1 : wr.ownsRow base 83 5 (.slice a n cap) n (ftl M) := by have h := hown1; unfold OwnFet at h; rwa [HL.out] at h
   obtain ⟨g,rfl,hgs,_⟩ := row5_addr hrow1 (by omega)
   have hi1 : (0 : Int) ≤ (j : Int) := by omega
   have hi2 : (j : Int) < (n : Int) := by omega
   obtain ⟨p,hp⟩ : ∃ p,k + 5 * j = p := ⟨_,rfl⟩
   have HP : Hid (k + 5 * j = p) := hp
   have hpb : p ≤ 110000000 := by omega
   have hp0 : 0 < p := by omega
   rw [hp] at HS ⊢
   clear hp
   have HR : Hid (wr.ownsRow base 83 5 (.slice (some ⟨g, 0,none⟩) n cap) n (ftl M)) := hrow1
   have HG : Hid (w.grownBy wr (some g)) := hgr
   clear hrow1 hgr hown1 hgs
   have cM := markText_any p wr (by omega) (by omega)
   go_wp2_with fail
   refine cM.mono ?_
   rintro e w1 ⟨rfl,hb⟩
   have HR2 : Hid (w1.ownsRow base 83 5 (.slice (some ⟨g, 0,none⟩) n cap) n (ftl M)) := row5_below HR.out hb (Nat.le_refl _)
   have HG2 : Hid (w.grownBy w1 (some g)) := grownBy_trans HG.out (grownBy_below hb)
   clear cM hb HR HG
   have HR : Hid (w1.ownsRow base 83 5 (.slice (some ⟨g, 0,none⟩) n cap) n (ftl M)) := HR2.out
   have HG : Hid (w.grownBy w1 (some g)) := HG2.out
   clear HR2 HG2
   have S0 := row5_stored HR.out (j * 5) (.string (mkT p))
   obtain ⟨u0,k0,f0⟩ := row5_there HR.out (j * 5) (by omega)
   have HR1 : Hid ((w1.setCell ⟨g,j * 5,none⟩ (.string (mkT p))).ownsRow base 83 5 (.slice (some ⟨g, 0,none⟩) n cap) n ((ftl M).set (j * 5) (.string (mkT p)))) := S0.1
   have HG1 : Hid (w.grownBy (w1.setCell ⟨g,j * 5,none⟩ (.string (mkT p))) (some g)) := (grownBy_trans HG.out S0.2)
   clear S0 HR HG
   obtain ⟨wa1,hwa1⟩ : ∃ x,(w1.setCell ⟨g,j * 5,none⟩ (.string (mkT p))) = x := ⟨_,rfl⟩
   rw [hwa1] at HR1 HG1
   have HW1 : Hid ((w1.setCell ⟨g,j * 5,none⟩ (.string (mkT p))) = wa1) := hwa1
   clear hwa1
   have cM := markText_any (p + 1) wa1 (by omega) (by omega)
   rw [show ((p + 1 : Nat) : Int) = (p : Int) + 1 by omega] at cM
   go_wp2_with fail
   rw [HW1.out]
   refine cM.mono ?_
   rintro e w2 ⟨rfl,hb⟩
   have HR2 : Hid (w2.ownsRow base 83 5 (.slice (some ⟨g, 0,none⟩) n cap) n ((ftl M).set (j * 5) (.string (mkT p)))) := row5_below HR1.out hb (Nat.le_refl _)
   have HG2 : Hid (w.grownBy w2 (some g)) := grownBy_trans HG1.out (grownBy_below hb)
   clear cM hb HR1 HG1 k0 f0
   have HR : Hid (w2.ownsRow base 83 5 (.slice (some ⟨g, 0,none⟩) n cap) n ((ftl M).set (j * 5) (.string (mkT p)))) := HR2.out
   have HG : Hid (w.grownBy w2 (some g)) := HG2.out
   clear HR2 HG2
   have S0 := row5_stored HR.out (j * 5 + 1) (.string (mkT (p + 1)))
   have S1 := row5_stored S0.1 (j * 5 + 2) (.int .i64 ((p : Int) + 1 + 1))
   have S2 := row5_stored S1.1 (j * 5 + 3) (.int .i64 ((p : Int) + 1 + 1 + 1))
   have S3 := row5_stored S2.1 (j * 5 + 4) (.int .i64 ((p : Int) + 1 + 1 + 1 + 1))
   obtain ⟨u0,k0,f0⟩ := row5_there HR.out (j * 5 + 1) (by omega)
   obtain ⟨u1,k1,f1⟩ := row5_there HR.out (j * 5 + 2) (by omega)
   obtain ⟨u2,k2,f2⟩ := row5_there HR.out (j * 5 + 3) (by omega)
   obtain ⟨u3,k3,f3⟩ := row5_there HR.out (j * 5 + 4) (by omega)
   have HR1 : Hid (((((w2.setCell ⟨g,j * 5 + 1,none⟩ (.string (mkT (p + 1)))).setCell ⟨g,j * 5 + 2,none⟩ (.int .i64 ((p : Int) + 1 + 1))).setCell ⟨g,j * 5 + 3,none⟩ (.int .i64 ((p : Int) + 1 + 1 + 1))).setCell ⟨g,j * 5 + 4,none⟩ (.int .i64 ((p : Int) + 1 + 1 + 1 + 1))).ownsRow base 83 5 (.slice (some ⟨g, 0,none⟩) n cap) n ((((((ftl M).set (j * 5) (.string (mkT p))).set (j * 5 + 1) (.string (mkT (p + 1)))).set (j * 5 + 2) (.int .i64 ((p : Int) + 1 + 1))).set (j * 5 + 3) (.int .i64 ((p : Int) + 1 + 1 + 1))).set (j * 5 + 4) (.int .i64 ((p : Int) + 1 + 1 + 1 + 1)))) := S3.1
   have HG1 : Hid (w.grownBy ((((w2.setCell ⟨g,j * 5 + 1,none⟩ (.string (mkT (p + 1)))).setCell ⟨g,j * 5 + 2,none⟩ (.int .i64 ((p : Int) + 1 + 1))).setCell ⟨g,j * 5 + 3,none⟩ (.int .i64 ((p : Int) + 1 + 1 + 1))).setCell ⟨g,j * 5 + 4,none⟩ (.int .i64 ((p : Int) + 1 + 1 + 1 + 1))) (some g)) := (grownBy_trans (grownBy_trans (grownBy_trans (grownBy_trans HG.out S0.2) S1.2) S2.2) S3.2)
   clear S0 S1 S2 S3 HR HG
   go_wp2
   go_roundw
   case rel =>
    try ((repeat apply Exists.intro); refine ⟨?_,rfl⟩)
    refine ⟨⟨j + 1,by omega,by go_num, ?_, ?_,HG1.out⟩⟩
    ·have := HP.out
     congr 1
     omega
    ·have h := HR1.out
     have e : ((((((ftl M).set (j * 5) (.string (mkT p))).set (j * 5 + 1) (.string (mkT (p + 1)))).set (j * 5 + 2) (.int .i64 ((p : Int) + 1 + 1))).set (j * 5 + 3) (.int .i64 ((p : Int) + 1 + 1 + 1))).set (j * 5 + 4) (.int .i64 ((p : Int) + 1 + 1 + 1 + 1))) = ftl (M.set j (mFet p)) := ftl_set M j (mFet p)
     rw [e] at h
     rw [← HS.out]
     unfold OwnFet
     rw [List.length_set,HL.out]
     exact h
   case measure => simp [intOf]; omega
  ·go_wp2
   go_ret
   have hje : j = n := by omega
   have hd : L.drop j = [] := List.drop_of_length_le (by have := HN.out; omega)
   rw [hd,List.append_nil] at hown1
   subst hje
   exact ⟨rfl,hown1,hgr⟩
set_option maxRecDepth 100000 in
set_option maxHeartbeats 4000000 in
theorem heldFetchS_any (w : World) (base : Nat) (v : Value) (n k : Nat) (hown : OwnFet w base 83 v (mFetl k n)) (hl : n ≤ 1048576) (hk0 : 0 < k) (hk1 : k ≤ 100000000) :
  Calls Tryz.prog 33 #[v,.int .i64 k] w fun e w' => e = .returned (.int .i64 ((k + 5 * n : Nat) : Int)) ∧ Below w.heap.size w w' := by
 obtain ⟨a,cap,rfl,hA⟩ := hown.at
 rw [mFetl_length] at *
 clear hown
 go_enter Tryz.func33,Tryz.ntmps33
 go_wp2
 go_loopw [1, 5] (fun m i wr => Box (∃ (j : Nat),j ≤ n ∧ i = .int .i64 j ∧ m = .int .i64 ((k + 5 * j : Nat) : Int) ∧ Below w.heap.size w wr))
  (fun _ i _ => n - (intOf i).toNat)
 case atStart => exact ⟨⟨0,by omega,rfl,rfl,Below.refl _ _⟩⟩
 case round =>
  obtain ⟨j,hj,rfl,rfl,hbel⟩ := hrel.out
  by_cases hlt : j < n
  ·obtain ⟨g,off,rfl,hg,hc0,hc1,hc2,hc3,hc4⟩ := (hA.below hbel (Nat.le_refl _)) j (by rw [mFetl_length]; exact hlt)
   rw [mFetl_at hlt] at hc0 hc1 hc2 hc3 hc4
   obtain ⟨N,hN⟩ : ∃ N,k + 5 * j = N := ⟨_,rfl⟩
   rw [hN] at hc0 hc1 hc2 hc3 hc4
   have HN : Hid (k + 5 * j = N) := hN
   have hN1 : 0 < N := by omega
   have hN2 : N ≤ 110000000 := by omega
   simp only [mFet] at hc0 hc1 hc2 hc3 hc4
   rw [show ((N + 2 : Nat) : Int) = (N : Int) + 1 + 1 by omega] at hc2
   rw [show ((N + 3 : Nat) : Int) = (N : Int) + 1 + 1 + 1 by omega] at hc3
   rw [show ((N + 4 : Nat) : Int) = (N : Int) + 1 + 1 + 1 + 1 by omega] at hc4
   have hi1 : (0 : Int) ≤ (j : Int) := by omega
   have hi2 : (j : Int) < (n : Int) := by omega
   have HC : Hid (∀ w',Below wr.heap.size wr w' → w'.cell? ⟨g,off + j * 5,none⟩ = some (.string (mkT N)) ∧ w'.cell? ⟨g,off + j * 5 + 1,none⟩ = some (.string (mkT (N + 1))) ∧ w'.cell? ⟨g,off + j * 5 + 2,none⟩ = some (.int .i64 ((N : Int) + 1 + 1)) ∧ w'.cell? ⟨g,off + j * 5 + 3,none⟩ = some (.int .i64 ((N : Int) + 1 + 1 + 1)) ∧ w'.cell? ⟨g,off + j * 5 + 4,none⟩ = some (.int .i64 ((N : Int) + 1 + 1 + 1 + 1))) := fun w' hb => ⟨(hb.cell (Nat.lt_of_lt_of_le hg hbel.size)).trans hc0,(hb.cell (Nat.lt_of_lt_of_le hg hbel.size)).trans hc1,(hb.cell (Nat.lt_of_lt_of_le hg hbel.size)).trans hc2,(hb.cell (Nat.lt_of_lt_of_le hg hbel.size)).trans hc3,(hb.cell (Nat.lt_of_lt_of_le hg hbel.size)).trans hc4⟩
   rw [hN]
   clear hrel hA hN hc0 hc1 hc2 hc3 hc4
   obtain ⟨d0,d1,d2,d3,d4⟩ := HC.out wr (Below.refl _ _)
   have l0 := cell_regrown d0
   have cV : ∀ d os,Calls Tryz.prog 27 #[.int .i64 ((N : Int))] (grow (redrawn wr d) os) fun e w'' => e = .returned (.string (mkT N)) ∧ ∃ p : Regrown,w'' = grow (redrawn wr p.d) p.os := fun d os => Calls.regrown_of (by have := markText_any N (grow (redrawn wr d) os) (by omega) (by omega); exact this)
   clear d0 d1 d2 d3 d4
   go_wp2
   refine wp_region_quiet_below (by kernel_rfl) (by kernel_rfl) ?_
   repeat (first | go_big_quiet_step (exact cV _ _) | quiet_step (exact cV _ _))
   refine wpQuiet_nil ?_
   intro _ hw'
   obtain ⟨⟨dq,osq⟩,hw''⟩ := hw'
   subst hw''
   have hb := below_regrown wr dq osq
   obtain ⟨w1,hwn⟩ : ∃ x,grow (redrawn wr dq) osq = x := ⟨_,rfl⟩
   rw [hwn] at hb ⊢
   have hbc : Below wr.heap.size wr w1 := hb
   clear hwn l0 cV hb
   obtain ⟨d0,d1,d2,d3,d4⟩ := HC.out w1 hbc
   have l0 := cell_regrown d1
   have cV : ∀ d os,Calls Tryz.prog 27 #[.int .i64 ((N : Int) + 1)] (grow (redrawn w1 d) os) fun e w'' => e = .returned (.string (mkT (N + 1))) ∧ ∃ p : Regrown,w'' = grow (redrawn w1 p.d) p.os := fun d os => Calls.regrown_of (by have := markText_any (N + 1) (grow (redrawn w1 d) os) (by omega) (by omega); rw [show ((N + 1 : Nat) : Int) = (N : Int) + 1 by omega] at this; exact this)
   clear d0 d1 d2 d3 d4
   go_wp2
   refine wp_region_quiet_below (by kernel_rfl) (by kernel_rfl) ?_
   repeat (first | go_big_quiet_step (exact cV _ _) | quiet_step (exact cV _ _))
   refine wpQuiet_nil ?_
   intro _ hw'
   obtain ⟨⟨dq,osq⟩,hw''⟩ := hw'
   subst hw''
   have hb := below_regrown w1 dq osq
   obtain ⟨w2,hwn⟩ : ∃ x,grow (redrawn w1 dq) osq = x := ⟨_,rfl⟩
   rw [hwn] at hb ⊢
   have hbc : Below wr.heap.size wr w2 := (hbc.trans (hb.mono hbc.size))
   clear hwn l0 cV hb
   obtain ⟨d0,d1,d2,d3,d4⟩ := HC.out w2 hbc
   go_wp2
   go_roundw
   case rel =>
    try ((repeat apply Exists.intro); refine ⟨?_,rfl⟩)
    exact ⟨⟨j + 1,by omega,by go_num,by have := HN.out; congr 1; omega,hbel.trans (hbc.mono hbel.size)⟩⟩
   case measure => simp [intOf]; omega
  ·go_wp2
   go_ret
   have hje : j = n := by omega
   subst hje
   exact ⟨rfl,hbel⟩
def mCli (n : Nat) : Cli := ⟨((n : Nat) : Int),mkT (n + 1),((n + 2 : Nat) : Int),((n + 3 : Nat) : Int),((n + 4 : Nat) : Int),mkT (n + 5),((n + 6 : Nat) : Int)⟩
def mClil (k n : Nat) : List Cli := (List.range n).map fun j => mCli (k + 7 * j)
theorem mClil_length (k n : Nat) : (mClil k n).length = n := by simp [mClil]
theorem mClil_at {k n j : Nat} (h : j < n) : (mClil k n)[j]'(by rw [mClil_length]; exact h) = mCli (k + 7 * j) := by simp [mClil]
theorem mClil_succ (k n : Nat) : mClil k (n + 1) = mClil k n ++ [mCli (k + 7 * n)] := by simp [mClil,List.range_succ]
theorem mClil_set (k j : Nat) (L : List Cli) (h : j < L.length) : (mClil k j ++ L.drop j).set j (mCli (k + 7 * j)) = mClil k (j + 1) ++ L.drop (j + 1) := by
 rw [List.set_append_right _ _ (by rw [mClil_length]; exact Nat.le_refl _),mClil_length,Nat.sub_self,List.drop_eq_getElem_cons h,List.set_cons_zero,mClil_succ]
 simp
set_option maxRecDepth 100000 in
set_option maxHeartbeats 4000000 in
theorem markClientS_any (w : World) (base : Nat) (v : Value) (L : List Cli) (k : Nat) (hown : OwnCli w base 86 v L) (hl : L.length ≤ 1048576) (hk0 : 0 < k) (hk1 : k ≤ 100000000) :
  Calls Tryz.prog 30 #[v,.int .i64 k] w fun e w' => e = .returned (.int .i64 ((k + 7 * L.length : Nat) : Int)) ∧ OwnCli w' base 86 v (mClil k L.length) ∧ w.grownBy w' v.ownBlock := by
 obtain ⟨a,cap,rfl,_⟩ := hown.at
 obtain ⟨n,hn⟩ : ∃ n,L.length = n := ⟨_,rfl⟩
 have HN : Hid (L.length = n) := hn
 rw [hn] at hl ⊢
 rw [hn] at hown
 clear hn
 go_enter Tryz.func30,Tryz.ntmps30
 go_wp2
 go_loopw [1, 5] (fun q i wr => Box (∃ (j : Nat),j ≤ n ∧ i = .int .i64 j ∧ q = .int .i64 ((k + 7 * j : Nat) : Int) ∧ OwnCli wr base 86 (.slice a n cap) (mClil k j ++ L.drop j) ∧ w.grownBy wr (Value.slice a n cap).ownBlock))
  (fun _ i _ => n - (intOf i).toNat)
 case atStart => exact ⟨⟨0,by omega,rfl,rfl,hown,grownBy_refl _ _⟩⟩
 case round =>
  obtain ⟨j,hj,rfl,rfl,hown1,hgr⟩ := hrel.out
  clear hrel hown
  by_cases hlt : j < n
  ·have hlt' : j < L.length := by have := HN.out; omega
   obtain ⟨M,hM⟩ : ∃ M,mClil k j ++ L.drop j = M := ⟨_,rfl⟩
   have HL : Hid (M.length = n) := by show _ = _; have := HN.out; rw [← hM,List.length_append,mClil_length,List.length_drop]; omega
   have HS : Hid (M.set j (mCli (k + 7 * j)) = mClil k (j + 1) ++ L.drop (j + 1)) := by rw [← hM]; exact mClil_set k j L hlt'
   rw [hM] at hown1
   clear hM hlt'
   have hrow1 : wr.ownsRow base 86 7 (.slice a n cap) n (cltl M) := by have h := hown1; unfold OwnCli at h; rwa [HL.out] at h
   obtain ⟨g,rfl,hgs,_⟩ := row7_addr hrow1 (by omega)
   have hi1 : (0 : Int) ≤ (j : Int) := by omega
   have hi2 : (j : Int) < (n : Int) := by omega
   obtain ⟨p,hp⟩ : ∃ p,k + 7 * j = p := ⟨_,rfl⟩
   have HP : Hid (k + 7 * j = p) := hp
   have hpb : p ≤ 110000000 := by omega
   have hp0 : 0 < p := by omega
   rw [hp] at HS ⊢
   clear hp
   have HR : Hid (wr.ownsRow base 86 7 (.slice (some ⟨g, 0,none⟩) n cap) n (cltl M)) := hrow1
   have HG : Hid (w.grownBy wr (some g)) := hgr
   clear hrow1 hgr hown1 hgs
   have S0 := row7_stored HR.out (j * 7) (.int .i64 ((p : Int)))
   obtain ⟨u0,k0,f0⟩ := row7_there HR.out (j * 7) (by omega)
   have HR1 : Hid ((wr.setCell ⟨g,j * 7,none⟩ (.int .i64 ((p : Int)))).ownsRow base 86 7 (.slice (some ⟨g, 0,none⟩) n cap) n ((cltl M).set (j * 7) (.int .i64 ((p : Int))))) := S0.1
   have HG1 : Hid (w.grownBy (wr.setCell ⟨g,j * 7,none⟩ (.int .i64 ((p : Int)))) (some g)) := (grownBy_trans HG.out S0.2)
   clear S0 HR HG
   obtain ⟨wa1,hwa1⟩ : ∃ x,(wr.setCell ⟨g,j * 7,none⟩ (.int .i64 ((p : Int)))) = x := ⟨_,rfl⟩
   rw [hwa1] at HR1 HG1
   have HW1 : Hid ((wr.setCell ⟨g,j * 7,none⟩ (.int .i64 ((p : Int)))) = wa1) := hwa1
   clear hwa1
   have cM := markText_any (p + 1) wa1 (by omega) (by omega)
   rw [show ((p + 1 : Nat) : Int) = (p : Int) + 1 by omega] at cM
   go_wp2_with fail
   rw [HW1.out]
   refine cM.mono ?_
   rintro e w2 ⟨rfl,hb⟩
   have HR2 : Hid (w2.ownsRow base 86 7 (.slice (some ⟨g, 0,none⟩) n cap) n ((cltl M).set (j * 7) (.int .i64 ((p : Int))))) := row7_below HR1.out hb (Nat.le_refl _)
   have HG2 : Hid (w.grownBy w2 (some g)) := grownBy_trans HG1.out (grownBy_below hb)
   clear cM hb HR1 HG1 k0 f0
   have HR : Hid (w2.ownsRow base 86 7 (.slice (some ⟨g, 0,none⟩) n cap) n ((cltl M).set (j * 7) (.int .i64 ((p : Int))))) := HR2.out
   have HG : Hid (w.grownBy w2 (some g)) := HG2.out
   clear HR2 HG2
   have S0 := row7_stored HR.out (j * 7 + 1) (.string (mkT (p + 1)))
   have S1 := row7_stored S0.1 (j * 7 + 2) (.int .i64 ((p : Int) + 1 + 1))
   have S2 := row7_stored S1.1 (j * 7 + 3) (.int .i64 ((p : Int) + 1 + 1 + 1))
   have S3 := row7_stored S2.1 (j * 7 + 4) (.int .i64 ((p : Int) + 1 + 1 + 1 + 1))
   obtain ⟨u0,k0,f0⟩ := row7_there HR.out (j * 7 + 1) (by omega)
   obtain ⟨u1,k1,f1⟩ := row7_there HR.out (j * 7 + 2) (by omega)
   obtain ⟨u2,k2,f2⟩ := row7_there HR.out (j * 7 + 3) (by omega)
   obtain ⟨u3,k3,f3⟩ := row7_there HR.out (j * 7 + 4) (by omega)
   have HR1 : Hid (((((w2.setCell ⟨g,j * 7 + 1,none⟩ (.string (mkT (p + 1)))).setCell ⟨g,j * 7 + 2,none⟩ (.int .i64 ((p : Int) + 1 + 1))).setCell ⟨g,j * 7 + 3,none⟩ (.int .i64 ((p : Int) + 1 + 1 + 1))).setCell ⟨g,j * 7 + 4,none⟩ (.int .i64 ((p : Int) + 1 + 1 + 1 + 1))).ownsRow base 86 7 (.slice (some ⟨g, 0,none⟩) n cap) n ((((((cltl M).set (j * 7) (.int .i64 ((p : Int)))).set (j * 7 + 1) (.string (mkT (p + 1)))).set (j * 7 + 2) (.int .i64 ((p : Int) + 1 + 1))).set (j * 7 + 3) (.int .i64 ((p : Int) + 1 + 1 + 1))).set (j * 7 + 4) (.int .i64 ((p : Int) + 1 + 1 + 1 + 1)))) := S3.1
   have HG1 : Hid (w.grownBy ((((w2.setCell ⟨g,j * 7 + 1,none⟩ (.string (mkT (p + 1)))).setCell ⟨g,j * 7 + 2,none⟩ (.int .i64 ((p : Int) + 1 + 1))).setCell ⟨g,j * 7 + 3,none⟩ (.int .i64 ((p : Int) + 1 + 1 + 1))).setCell ⟨g,j * 7 + 4,none⟩ (.int .i64 ((p : Int) + 1 + 1 + 1 + 1))) (some g)) := (grownBy_trans (grownBy_trans (grownBy_trans (grownBy_trans HG.out S0.2) S1.2) S2.2) S3.2)
   clear S0 S1 S2 S3 HR HG
   obtain ⟨wa2,hwa2⟩ : ∃ x,((((w2.setCell ⟨g,j * 7 + 1,none⟩ (.string (mkT (p + 1)))).setCell ⟨g,j * 7 + 2,none⟩ (.int .i64 ((p : Int) + 1 + 1))).setCell ⟨g,j * 7 + 3,none⟩ (.int .i64 ((p : Int) + 1 + 1 + 1))).setCell ⟨g,j * 7 + 4,none⟩ (.int .i64 ((p : Int) + 1 + 1 + 1 + 1))) = x := ⟨_,rfl⟩
   rw [hwa2] at HR1 HG1
   have HW2 : Hid (((((w2.setCell ⟨g,j * 7 + 1,none⟩ (.string (mkT (p + 1)))).setCell ⟨g,j * 7 + 2,none⟩ (.int .i64 ((p : Int) + 1 + 1))).setCell ⟨g,j * 7 + 3,none⟩ (.int .i64 ((p : Int) + 1 + 1 + 1))).setCell ⟨g,j * 7 + 4,none⟩ (.int .i64 ((p : Int) + 1 + 1 + 1 + 1))) = wa2) := hwa2
   clear hwa2
   have cM := markText_any (p + 5) wa2 (by omega) (by omega)
   rw [show ((p + 5 : Nat) : Int) = (p : Int) + 1 + 1 + 1 + 1 + 1 by omega] at cM
   go_wp2_with fail
   rw [HW2.out]
   refine cM.mono ?_
   rintro e w6 ⟨rfl,hb⟩
   have HR2 : Hid (w6.ownsRow base 86 7 (.slice (some ⟨g, 0,none⟩) n cap) n ((((((cltl M).set (j * 7) (.int .i64 ((p : Int)))).set (j * 7 + 1) (.string (mkT (p + 1)))).set (j * 7 + 2) (.int .i64 ((p : Int) + 1 + 1))).set (j * 7 + 3) (.int .i64 ((p : Int) + 1 + 1 + 1))).set (j * 7 + 4) (.int .i64 ((p : Int) + 1 + 1 + 1 + 1)))) := row7_below HR1.out hb (Nat.le_refl _)
   have HG2 : Hid (w.grownBy w6 (some g)) := grownBy_trans HG1.out (grownBy_below hb)
   clear cM hb HR1 HG1 k0 f0 k1 f1 k2 f2 k3 f3
   have HR : Hid (w6.ownsRow base 86 7 (.slice (some ⟨g, 0,none⟩) n cap) n ((((((cltl M).set (j * 7) (.int .i64 ((p : Int)))).set (j * 7 + 1) (.string (mkT (p + 1)))).set (j * 7 + 2) (.int .i64 ((p : Int) + 1 + 1))).set (j * 7 + 3) (.int .i64 ((p : Int) + 1 + 1 + 1))).set (j * 7 + 4) (.int .i64 ((p : Int) + 1 + 1 + 1 + 1)))) := HR2.out
   have HG : Hid (w.grownBy w6 (some g)) := HG2.out
   clear HR2 HG2
   have S0 := row7_stored HR.out (j * 7 + 5) (.string (mkT (p + 5)))
   have S1 := row7_stored S0.1 (j * 7 + 6) (.int .i64 ((p : Int) + 1 + 1 + 1 + 1 + 1 + 1))
   obtain ⟨u0,k0,f0⟩ := row7_there HR.out (j * 7 + 5) (by omega)
   obtain ⟨u1,k1,f1⟩ := row7_there HR.out (j * 7 + 6) (by omega)
   have HR1 : Hid (((w6.setCell ⟨g,j * 7 + 5,none⟩ (.string (mkT (p + 5)))).setCell ⟨g,j * 7 + 6,none⟩ (.int .i64 ((p : Int) + 1 + 1 + 1 + 1 + 1 + 1))).ownsRow base 86 7 (.slice (some ⟨g, 0,none⟩) n cap) n ((((((((cltl M).set (j * 7) (.int .i64 ((p : Int)))).set (j * 7 + 1) (.string (mkT (p + 1)))).set (j * 7 + 2) (.int .i64 ((p : Int) + 1 + 1))).set (j * 7 + 3) (.int .i64 ((p : Int) + 1 + 1 + 1))).set (j * 7 + 4) (.int .i64 ((p : Int) + 1 + 1 + 1 + 1))).set (j * 7 + 5) (.string (mkT (p + 5)))).set (j * 7 + 6) (.int .i64 ((p : Int) + 1 + 1 + 1 + 1 + 1 + 1)))) := S1.1
   have HG1 : Hid (w.grownBy ((w6.setCell ⟨g,j * 7 + 5,none⟩ (.string (mkT (p + 5)))).setCell ⟨g,j * 7 + 6,none⟩ (.int .i64 ((p : Int) + 1 + 1 + 1 + 1 + 1 + 1))) (some g)) := (grownBy_trans (grownBy_trans HG.out S0.2) S1.2)
   clear S0 S1 HR HG
   go_wp2
   go_roundw
   case rel =>
    try ((repeat apply Exists.intro); refine ⟨?_,rfl⟩)
    refine ⟨⟨j + 1,by omega,by go_num, ?_, ?_,HG1.out⟩⟩
    ·have := HP.out
     congr 1
     omega
    ·have h := HR1.out
     have e : ((((((((cltl M).set (j * 7) (.int .i64 ((p : Int)))).set (j * 7 + 1) (.string (mkT (p + 1)))).set (j * 7 + 2) (.int .i64 ((p : Int) + 1 + 1))).set (j * 7 + 3) (.int .i64 ((p : Int) + 1 + 1 + 1))).set (j * 7 + 4) (.int .i64 ((p : Int) + 1 + 1 + 1 + 1))).set (j * 7 + 5) (.string (mkT (p + 5)))).set (j * 7 + 6) (.int .i64 ((p : Int) + 1 + 1 + 1 + 1 + 1 + 1))) = cltl (M.set j (mCli p)) := cltl_set M j (mCli p)
     rw [e] at h
     rw [← HS.out]
     unfold OwnCli
     rw [List.length_set,HL.out]
     exact h
   case measure => simp [intOf]; omega
  ·go_wp2
   go_ret
   have hje : j = n := by omega
   have hd : L.drop j = [] := List.drop_of_length_le (by have := HN.out; omega)
   rw [hd,List.append_nil] at hown1
   subst hje
   exact ⟨rfl,hown1,hgr⟩
set_option maxRecDepth 100000 in
set_option maxHeartbeats 4000000 in
theorem heldClientS_any (w : World) (base : Nat) (v : Value) (n k : Nat) (hown : OwnCli w base 86 v (mClil k n)) (hl : n ≤ 1048576) (hk0 : 0 < k) (hk1 : k ≤ 100000000) :
  Calls Tryz.prog 34 #[v,.int .i64 k] w fun e w' => e = .returned (.int .i64 ((k + 7 * n : Nat) : Int)) ∧ Below w.heap.size w w' := by
 obtain ⟨a,cap,rfl,hA⟩ := hown.at
 rw [mClil_length] at *
 clear hown
 go_enter Tryz.func34,Tryz.ntmps34
 go_wp2
 go_loopw [1, 5] (fun m i wr => Box (∃ (j : Nat),j ≤ n ∧ i = .int .i64 j ∧ m = .int .i64 ((k + 7 * j : Nat) : Int) ∧ Below w.heap.size w wr))
  (fun _ i _ => n - (intOf i).toNat)
 case atStart => exact ⟨⟨0,by omega,rfl,rfl,Below.refl _ _⟩⟩
 case round =>
  obtain ⟨j,hj,rfl,rfl,hbel⟩ := hrel.out
  by_cases hlt : j < n
  ·obtain ⟨g,off,rfl,hg,hc0,hc1,hc2,hc3,hc4,hc5,hc6⟩ := (hA.below hbel (Nat.le_refl _)) j (by rw [mClil_length]; exact hlt)
   rw [mClil_at hlt] at hc0 hc1 hc2 hc3 hc4 hc5 hc6
   obtain ⟨N,hN⟩ : ∃ N,k + 7 * j = N := ⟨_,rfl⟩
   rw [hN] at hc0 hc1 hc2 hc3 hc4 hc5 hc6
   have HN : Hid (k + 7 * j = N) := hN
   have hN1 : 0 < N := by omega
   have hN2 : N ≤ 110000000 := by omega
   simp only [mCli] at hc0 hc1 hc2 hc3 hc4 hc5 hc6
   rw [show ((N + 2 : Nat) : Int) = (N : Int) + 1 + 1 by omega] at hc2
   rw [show ((N + 3 : Nat) : Int) = (N : Int) + 1 + 1 + 1 by omega] at hc3
   rw [show ((N + 4 : Nat) : Int) = (N : Int) + 1 + 1 + 1 + 1 by omega] at hc4
   rw [show ((N + 6 : Nat) : Int) = (N : Int) + 1 + 1 + 1 + 1 + 1 + 1 by omega] at hc6
   have hi1 : (0 : Int) ≤ (j : Int) := by omega
   have hi2 : (j : Int) < (n : Int) := by omega
   have HC : Hid (∀ w',Below wr.heap.size wr w' → w'.cell? ⟨g,off + j * 7,none⟩ = some (.int .i64 ((N : Int))) ∧ w'.cell? ⟨g,off + j * 7 + 1,none⟩ = some (.string (mkT (N + 1))) ∧ w'.cell? ⟨g,off + j * 7 + 2,none⟩ = some (.int .i64 ((N : Int) + 1 + 1)) ∧ w'.cell? ⟨g,off + j * 7 + 3,none⟩ = some (.int .i64 ((N : Int) + 1 + 1 + 1)) ∧ w'.cell? ⟨g,off + j * 7 + 4,none⟩ = some (.int .i64 ((N : Int) + 1 + 1 + 1 + 1)) ∧ w'.cell? ⟨g,off + j * 7 + 5,none⟩ = some (.string (mkT (N + 5))) ∧ w'.cell? ⟨g,off + j * 7 + 6,none⟩ = some (.int .i64 ((N : Int) + 1 + 1 + 1 + 1 + 1 + 1))) := fun w' hb => ⟨(hb.cell (Nat.lt_of_lt_of_le hg hbel.size)).trans hc0,(hb.cell (Nat.lt_of_lt_of_le hg hbel.size)).trans hc1,(hb.cell (Nat.lt_of_lt_of_le hg hbel.size)).trans hc2,(hb.cell (Nat.lt_of_lt_of_le hg hbel.size)).trans hc3,(hb.cell (Nat.lt_of_lt_of_le hg hbel.size)).trans hc4,(hb.cell (Nat.lt_of_lt_of_le hg hbel.size)).trans hc5,(hb.cell (Nat.lt_of_lt_of_le hg hbel.size)).trans hc6⟩
   rw [hN]
   clear hrel hA hN hc0 hc1 hc2 hc3 hc4 hc5 hc6
   obtain ⟨d0,d1,d2,d3,d4,d5,d6⟩ := HC.out wr (Below.refl _ _)
   have l0 := cell_regrown d1
   have cV : ∀ d os,Calls Tryz.prog 27 #[.int .i64 ((N : Int) + 1)] (grow (redrawn wr d) os) fun e w'' => e = .returned (.string (mkT (N + 1))) ∧ ∃ p : Regrown,w'' = grow (redrawn wr p.d) p.os := fun d os => Calls.regrown_of (by have := markText_any (N + 1) (grow (redrawn wr d) os) (by omega) (by omega); rw [show ((N + 1 : Nat) : Int) = (N : Int) + 1 by omega] at this; exact this)
   clear d1 d2 d3 d4 d5 d6
   go_wp2
   refine wp_region_quiet_below (by kernel_rfl) (by kernel_rfl) ?_
   repeat (first | go_big_quiet_step (exact cV _ _) | quiet_step (exact cV _ _))
   refine wpQuiet_nil ?_
   intro _ hw'
   obtain ⟨⟨dq,osq⟩,hw''⟩ := hw'
   subst hw''
   have hb := below_regrown wr dq osq
   obtain ⟨w1,hwn⟩ : ∃ x,grow (redrawn wr dq) osq = x := ⟨_,rfl⟩
   rw [hwn] at hb ⊢
   have hbc : Below wr.heap.size wr w1 := hb
   clear hwn l0 cV hb d0
   obtain ⟨d0,d1,d2,d3,d4,d5,d6⟩ := HC.out w1 hbc
   have l0 := cell_regrown d5
   have cV : ∀ d os,Calls Tryz.prog 27 #[.int .i64 ((N : Int) + 1 + 1 + 1 + 1 + 1)] (grow (redrawn w1 d) os) fun e w'' => e = .returned (.string (mkT (N + 5))) ∧ ∃ p : Regrown,w'' = grow (redrawn w1 p.d) p.os := fun d os => Calls.regrown_of (by have := markText_any (N + 5) (grow (redrawn w1 d) os) (by omega) (by omega); rw [show ((N + 5 : Nat) : Int) = (N : Int) + 1 + 1 + 1 + 1 + 1 by omega] at this; exact this)
   clear d1 d5 d6
   go_wp2
   refine wp_region_quiet_below (by kernel_rfl) (by kernel_rfl) ?_
   repeat (first | go_big_quiet_step (exact cV _ _) | quiet_step (exact cV _ _))
   refine wpQuiet_nil ?_
   intro _ hw'
   obtain ⟨⟨dq,osq⟩,hw''⟩ := hw'
   subst hw''
   have hb := below_regrown w1 dq osq
   obtain ⟨w2,hwn⟩ : ∃ x,grow (redrawn w1 dq) osq = x := ⟨_,rfl⟩
   rw [hwn] at hb ⊢
   have hbc : Below wr.heap.size wr w2 := (hbc.trans (hb.mono hbc.size))
   clear hwn l0 cV hb d0 d2 d3 d4
   obtain ⟨d0,d1,d2,d3,d4,d5,d6⟩ := HC.out w2 hbc
   go_wp2
   go_roundw
   case rel =>
    try ((repeat apply Exists.intro); refine ⟨?_,rfl⟩)
    exact ⟨⟨j + 1,by omega,by go_num,by have := HN.out; congr 1; omega,hbel.trans (hbc.mono hbel.size)⟩⟩
   case measure => simp [intOf]; omega
  ·go_wp2
   go_ret
   have hje : j = n := by omega
   subst hje
   exact ⟨rfl,hbel⟩
end Go.Proofs.YthfjfccdelbkhaaGreatDoor
