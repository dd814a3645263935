/- Texts that stand in one: Ret9X, SpecWithout, Var, EntOk, EntFresh, DiskPlain, AtPlain, KeptPlain, ActPlain. -/
import Derived.Test.YthfjfccdelbkhaaGreatDoorPolSzTextJ
import Derived.Test.YthfjfccdelbkhaaGreatDoorFilesJ
import Derived.Test.YthfjfccdelbkhaaGreatDoorPrxBaseJ
import Derived.Test.YthfjfccdelbkhaaGreatDoorPolSpecJ
import Derived.Test.YthfjfccdelbkhaaGreatDoorSkBaseJ
import Derived.Test.YthfjfccdelbkhaaGreatDoorPolLaw2J
import Derived.Test.YthfjfccdelbkhaaGreatDoorReadPlainJ
namespace Go.Proofs.YthfjfccdelbkhaaGreatDoor
open Go.RowKit Go.Sort
theorem ret9x {r : Nat} {w w0 : World} {A lo hi : Nat} {X : Pc} {R : Prx} {z0 z1 z2 z3 z4 z5 z6 z7 z8 : Value} (ho : PxOwn w lo hi X R) (hr : NB w r 34 z0 z1 z2 z3 z4 z5 z6 z7 z8) (hb : Below A w0 w) (hr9 : A ≤ r) :
  NB (((((((((w.setCell ⟨r, 0,none⟩ (.int .i64 R.now)).setCell ⟨r, 1,none⟩ X.e).setCell ⟨r, 2,none⟩ X.w).setCell ⟨r, 3,none⟩ X.m).setCell ⟨r, 4,none⟩ X.k).setCell ⟨r, 5,none⟩ (.int .i64 R.pol.sk.added)).setCell ⟨r, 6,none⟩ X.f).setCell ⟨r, 7,none⟩ X.c).setCell ⟨r, 8,none⟩ (.int .i64 R.hits)) r 34 (.int .i64 R.now) X.e X.w X.m X.k (.int .i64 R.pol.sk.added) X.f X.c (.int .i64 R.hits) ∧ PxOwn (((((((((w.setCell ⟨r, 0,none⟩ (.int .i64 R.now)).setCell ⟨r, 1,none⟩ X.e).setCell ⟨r, 2,none⟩ X.w).setCell ⟨r, 3,none⟩ X.m).setCell ⟨r, 4,none⟩ X.k).setCell ⟨r, 5,none⟩ (.int .i64 R.pol.sk.added)).setCell ⟨r, 6,none⟩ X.f).setCell ⟨r, 7,none⟩ X.c).setCell ⟨r, 8,none⟩ (.int .i64 R.hits)) lo (((((((((w.setCell ⟨r, 0,none⟩ (.int .i64 R.now)).setCell ⟨r, 1,none⟩ X.e).setCell ⟨r, 2,none⟩ X.w).setCell ⟨r, 3,none⟩ X.m).setCell ⟨r, 4,none⟩ X.k).setCell ⟨r, 5,none⟩ (.int .i64 R.pol.sk.added)).setCell ⟨r, 6,none⟩ X.f).setCell ⟨r, 7,none⟩ X.c).setCell ⟨r, 8,none⟩ (.int .i64 R.hits)).heap.size X R ∧ Below A w0 (((((((((w.setCell ⟨r, 0,none⟩ (.int .i64 R.now)).setCell ⟨r, 1,none⟩ X.e).setCell ⟨r, 2,none⟩ X.w).setCell ⟨r, 3,none⟩ X.m).setCell ⟨r, 4,none⟩ X.k).setCell ⟨r, 5,none⟩ (.int .i64 R.pol.sk.added)).setCell ⟨r, 6,none⟩ X.f).setCell ⟨r, 7,none⟩ X.c).setCell ⟨r, 8,none⟩ (.int .i64 R.hits)) :=
 ⟨hr.put _ _ _ _ _ _ _ _ _,(ho.box hr (by unfold PxT; decide) (fun j hj => put9_other w r _ _ _ _ _ _ _ _ _ j hj)).up,Below.put9 hb (T := r) hr9 _ _ _ _ _ _ _ _ _⟩
theorem Tryz.infoEnW : (Tryz.prog.info? 47).map (fun i => (i.zero,i.size,i.bytes)) = some (some (.agg #[.string ⟨#[]⟩,.int .i64 0,.int .i64 0,.string ⟨#[]⟩]), 4, 48) := by kernel_rfl
theorem filterN_on {L : List En} {p : En → Bool} {k : Nat} (hk : k < L.length) {x : En} (hx : L[k] = x) (hp : p x = true) : (L.take (k + 1)).filter p = (L.take k).filter p ++ [x] := by
 rw [List.take_succ_eq_append_getElem hk,List.filter_append,hx]; simp [hp]
theorem filterN_off {L : List En} {p : En → Bool} {k : Nat} (hk : k < L.length) {x : En} (hx : L[k] = x) (hp : p x = false) : (L.take (k + 1)).filter p = (L.take k).filter p := by
 rw [List.take_succ_eq_append_getElem hk,List.filter_append,hx]; simp [hp]
theorem filterN_len (L : List En) (p : En → Bool) (k : Nat) : ((L.take k).filter p).length ≤ L.length := by
 have h1 := List.length_filter_le p (L.take k)
 have h2 : (L.take k).length ≤ L.length := by rw [List.length_take]; omega
 omega
set_option maxRecDepth 100000 in
set_option maxHeartbeats 4000000 in
theorem l16Without_any (w : World) (a : Option Addr) (c : Nat) (L : List En) (key : ByteArray) (hL : NAt w a L w.heap.size) (hm : L.length ≤ 100000) :
  Calls Tryz.prog 39 #[.slice a L.length c,.string key] w fun e' w' => ∃ v,e' = .returned v ∧ OwnN w' w.heap.size 47 v (L.filter fun x => !decide (x.key = key)) ∧ Below w.heap.size w w' := by
 obtain ⟨wb,hwb⟩ : ∃ wb,wb = w := ⟨_,rfl⟩
 subst hwb
 have HD : Hid (∀ wi,Below wb.heap.size wb wi → NAt wi a L wi.heap.size) := fun wi hi => hL.on hi
 obtain ⟨wd,hwd⟩ : ∃ wd,wb.alloc (.cells #[] 47) = wd := ⟨_,rfl⟩
 have HBd : Hid (Below wb.heap.size wb wd) := by show Below _ _ _; rw [← hwd]; exact (Below.refl _ _).alloc (Nat.le_refl _) _
 have HO : Hid (OwnN wd wb.heap.size 47 (.slice (some ⟨wb.heap.size, 0,none⟩) 0 0) []) := by
  show OwnN _ _ _ _ _
  rw [← hwd]
  exact ownN_new wb 47 [] _ rfl (by simp [maxLen])
 have HW : Hid (wb.alloc (.cells #[] 47) = wd) := hwd
 clear hwd hL
 go_enter Tryz.func39,Tryz.ntmps39
 go_wp2_with fail
 rw [HW.out]
 go_loopw [5, 6] (fun s i wr => Box (∃ (k : Nat) (v : Value),k ≤ L.length ∧ i = .int .i64 k ∧ v = s ∧ Below wb.heap.size wb wr ∧ OwnN wr wb.heap.size 47 v ((L.take k).filter fun x => !decide (x.key = key))))
  (fun _ i _ => L.length - (intOf i).toNat)
 case atStart => exact ⟨⟨0,_,by omega,rfl,rfl,HBd.out,HO.out⟩⟩
 case round =>
  obtain ⟨k,v,hk,rfl,hsv,hbel,hown⟩ := hrel.out
  subst hsv
  have hLr := HD.out wr hbel
  have HB : Hid (Below wb.heap.size wb wr) := hbel
  by_cases hlt : k < L.length
  ·obtain ⟨g,off,rfl,hg,hc0,hc1,hc2,hc3⟩ := hLr k hlt
   obtain ⟨x,hx⟩ : ∃ x,L[k] = x := ⟨_,rfl⟩
   rw [hx] at hc0 hc1 hc2 hc3
   have hi1 : (0 : Int) ≤ (k : Int) := by omega
   have hi2 : (k : Int) < (L.length : Int) := by omega
   have HF : Hid (L[k] = x) := hx
   have HOW : Hid (OwnN wr wb.heap.size 47 v ((L.take k).filter fun x => !decide (x.key = key))) := hown
   have hlenf := filterN_len L (fun x => !decide (x.key = key)) k
   clear hx hown hLr hrel hbel
   by_cases he : x.key = key
   ·have hp : (!decide (x.key = key)) = false := by simp [he]
    have HN : Hid (((L.take (k + 1)).filter fun x => !decide (x.key = key)) = (L.take k).filter fun x => !decide (x.key = key)) := filterN_off (p := fun x => !decide (x.key = key)) hlt HF.out hp
    clear hp
    subst he
    go_wp2
    go_roundw
    case rel =>
     try ((repeat apply Exists.intro); refine ⟨?_,rfl⟩)
     exact ⟨⟨k + 1,v,by omega,by go_num,rfl,HB.out.trans ⟨rfl,rfl,rfl,Nat.le_refl _,fun _ _ => rfl⟩,by rw [HN.out]; exact HOW.out⟩⟩
    case measure => simp [intOf]; omega
   ·have hp : Hid ((!decide (x.key = key)) = true) := by show _ = _; simp [he]
    have hz1 := bytes_nk he
    obtain ⟨wq,hwq⟩ : ∃ wq,wr = wq := ⟨_,rfl⟩
    have HQ : Hid (Below wb.heap.size wb wq ∧ OwnN wq wb.heap.size 47 v ((L.take k).filter fun x => !decide (x.key = key))) := by
     rw [← hwq]
     exact ⟨HB.out.trans ⟨rfl,rfl,rfl,Nat.le_refl _,fun _ _ => rfl⟩,HOW.out⟩
    have d0 : wq.cell? ⟨g,off + k * 4,none⟩ = some (.string x.key) := by rw [← hwq]; exact hc0
    have d1 : wq.cell? ⟨g,off + k * 4 + 1,none⟩ = some (.int .i64 x.st) := by rw [← hwq]; exact hc1
    have d2 : wq.cell? ⟨g,off + k * 4 + 2,none⟩ = some (.int .i64 x.lf) := by rw [← hwq]; exact hc2
    have d3 : wq.cell? ⟨g,off + k * 4 + 3,none⟩ = some (.string x.bd) := by rw [← hwq]; exact hc3
    rw [hwq]
    clear hwq hc0 hc1 hc2 hc3 HOW HB
    go_wp2_with (at_builtin; refine wpList_plusN rfl (.tmp 21) (.tmp 26) 24 rfl wb.heap.size 47 Tryz.underlying24 Tryz.infoEnW v ((L.take k).filter fun x => !decide (x.key = key)) rfl HQ.out.2 [x] _ rfl rfl (by simp only [List.length_singleton]; omega) HQ.out.1.size ?_; intro v2 w2 ho2 hg2)
    have HB2 : Hid (Below wb.heap.size wb w2) := Below.grown HQ.out.1 hg2 HQ.out.1.size (fun j hj => (HQ.out.2.lt j hj).1)
    rw [← filterN_on (p := fun x => !decide (x.key = key)) hlt HF.out hp.out] at ho2
    clear hg2 HQ
    go_roundw
    case rel =>
     try ((repeat apply Exists.intro); refine ⟨?_,rfl⟩)
     exact ⟨⟨k + 1,v2,by omega,by go_num,rfl,HB2.out,ho2⟩⟩
    case measure => simp [intOf]; omega
  ·have hke : k = L.length := by omega
   rw [hke,List.take_length] at hown
   have HOW : Hid (OwnN wr wb.heap.size 47 v (L.filter fun x => !decide (x.key = key)) ∧ Below wb.heap.size wb wr) := ⟨hown,HB.out⟩
   clear hown hLr hrel hbel
   go_wp2
   go_ret
   exact ⟨_,rfl,HOW.out.1,HOW.out.2⟩
end Go.Proofs.YthfjfccdelbkhaaGreatDoor
namespace Go.Proofs.YthfjfccdelbkhaaGreatDoor
open Go.RowKit
theorem l01In_any (x a b : Int) (w : World) :
  Calls Tryz.prog 37 #[.int .i64 x,.int .i64 a,.int .i64 b] w fun e w' => e = .returned (.bool (inB x a b)) ∧ w = w' := by
 by_cases h1 : a ≤ x
 ·by_cases h2 : x ≤ b
  ·rw [inB_yes h1 h2]
   go_enter Tryz.func37,Tryz.ntmps37
   go_wp2
   go_ret
   exact ⟨rfl,rfl⟩
  ·rw [inB_no (by omega)]
   have h3 : decide (x ≤ b) = false := by simpa using h2
   go_enter Tryz.func37,Tryz.ntmps37
   go_wp2
   go_ret
   exact ⟨rfl,rfl⟩
 ·rw [inB_no (by omega)]
  have h3 : decide (a ≤ x) = false := by simpa using h1
  go_enter Tryz.func37,Tryz.ntmps37
  go_wp2
  go_ret
  exact ⟨rfl,rfl⟩
theorem enKey_bytes {s : ByteArray} (h : 1 ≤ s.size) : s.toList.isEmpty = false := not_emptyE h
set_option maxHeartbeats 1000000 in
theorem keyE_any (w : World) (s : ByteArray) (hs : s.size ≤ 1099511627776) :
  Calls Tryz.prog 71 #[.string s] w fun e w' => e = .returned (.bool (enKey s)) ∧ w = w' := by
 by_cases h : 1 ≤ s.size
 ·have h1 := enKey_bytes h
  have HK : Hid (enKey s = decide ((s.size : Int) ≤ 30)) := by
   show _ = _
   unfold enKey
   by_cases h' : s.size ≤ 30
   ·rw [decide_eq_true (⟨h,h'⟩ : 1 ≤ s.size ∧ s.size ≤ 30),decide_eq_true (by omega)]
   ·rw [decide_eq_false (by omega),decide_eq_false (by omega)]
  clear h
  go_enter Tryz.func71,Tryz.ntmps71
  go_wp2
  go_ret
  exact ⟨by rw [HK.out]; rfl,rfl⟩
 ·have h0 : s = ⟨#[]⟩ := size_zeroE (by omega)
  subst h0
  go_enter Tryz.func71,Tryz.ntmps71
  go_wp2
  go_ret
  exact ⟨rfl,rfl⟩
theorem numE_any (n : Int) (w : World) :
  Calls Tryz.prog 67 #[.int .i64 n] w fun e w' => e = .returned (.bool (inB n 0 1000000000)) ∧ w = w' := by
 by_cases h1 : 0 ≤ n
 ·have d1 : decide ((0 : Int) ≤ n) = true := decide_eq_true h1
  by_cases h2 : n ≤ 1000000000
  ·rw [inB_yes h1 h2]
   have d2 : decide (n ≤ 1000000000) = true := decide_eq_true h2
   go_enter Tryz.func67,Tryz.ntmps67
   go_wp2
   go_ret
   exact ⟨rfl,rfl⟩
  ·rw [inB_no (by omega)]
   have d2 : decide (n ≤ 1000000000) = false := decide_eq_false h2
   go_enter Tryz.func67,Tryz.ntmps67
   go_wp2
   go_ret
   exact ⟨rfl,rfl⟩
 ·rw [inB_no (by omega)]
  have d1 : decide ((0 : Int) ≤ n) = false := decide_eq_false h1
  go_enter Tryz.func67,Tryz.ntmps67
  go_wp2
  go_ret
  exact ⟨rfl,rfl⟩
theorem lifeE_any (x : Int) (w : World) :
  Calls Tryz.prog 89 #[.int .i64 x] w fun e w' => e = .returned (.bool (inB x 0 999999)) ∧ w = w' := by
 by_cases h1 : 0 ≤ x
 ·have d1 : decide ((0 : Int) ≤ x) = true := decide_eq_true h1
  by_cases h2 : x ≤ 999999
  ·rw [inB_yes h1 h2]
   have h3 : decide (x ≤ 999999) = true := decide_eq_true h2
   go_enter Tryz.func89,Tryz.ntmps89
   go_wp2
   go_ret
   exact ⟨rfl,rfl⟩
  ·rw [inB_no (by omega)]
   have h3 : decide (x ≤ 999999) = false := decide_eq_false h2
   go_enter Tryz.func89,Tryz.ntmps89
   go_wp2
   go_ret
   exact ⟨rfl,rfl⟩
 ·rw [inB_no (by omega)]
  have h3 : decide (0 ≤ x) = false := decide_eq_false h1
  go_enter Tryz.func89,Tryz.ntmps89
  go_wp2
  go_ret
  exact ⟨rfl,rfl⟩
set_option maxHeartbeats 2000000 in
theorem implEntryOk_any (w : World) (k b : ByteArray) (s l : Int) (hk : k.size ≤ 1099511627776) (hb : b.size ≤ 1099511627776) :
  Calls Tryz.prog 66 #[.agg #[.string k,.int .i64 s,.int .i64 l,.string b]] w fun e w' => e = .returned (.bool (enOk ⟨k,s,l,b⟩)) ∧ Below w.heap.size w w' := by
 unfold enOk
 dsimp only
 have hbel := (Below.refl w.heap.size w).alloc (Nat.le_refl _) (.cells #[.string k,.int .i64 s,.int .i64 l,.string b] 47)
 have c1 := fun w => keyE_any w k hk
 have c2 := fun w => numE_any s w
 have c3 := fun w => lifeE_any l w
 have e3 : (decide (0 < l) && inB l 0 999999) = inB l 1 999999 := by
  unfold inB
  by_cases h : 0 < l
  ·rw [decide_eq_true h,decide_eq_true (show (0 : Int) ≤ l by omega),decide_eq_true (show (1 : Int) ≤ l by omega)]; rfl
  ·rw [decide_eq_false h,decide_eq_false (show ¬ (1 : Int) ≤ l by omega)]; rfl
 rw [← e3]
 clear e3 hk
 generalize enKey k = x1 at c1 ⊢
 generalize inB s 0 1000000000 = x2 at c2 ⊢
 generalize inB l 0 999999 = x3 at c3 ⊢
 have e4 : decide (b.size ≤ 400) = decide ((b.size : Int) ≤ 400) := decide_eq_decide.2 (by omega)
 rw [e4]
 cases x1
 case false =>
  go_enter Tryz.func66,Tryz.ntmps66
  go_wp2_with (go_at_call 71; refine (c1 _).mono ?_; rintro e w' ⟨rfl,rfl⟩)
  go_ret
  exact ⟨rfl,hbel⟩
 cases x2
 case false =>
  go_enter Tryz.func66,Tryz.ntmps66
  go_wp2_with (first | (go_at_call 71; refine (c1 _).mono ?_; rintro e w' ⟨rfl,rfl⟩) | (go_at_call 67; refine (c2 _).mono ?_; rintro e w' ⟨rfl,rfl⟩))
  go_ret
  exact ⟨rfl,hbel⟩
 by_cases hl : 0 < l
 case neg =>
  rw [decide_eq_false hl]
  have hl' : decide (0 < l) = false := decide_eq_false hl
  go_enter Tryz.func66,Tryz.ntmps66
  go_wp2_with (first | (go_at_call 71; refine (c1 _).mono ?_; rintro e w' ⟨rfl,rfl⟩) | (go_at_call 67; refine (c2 _).mono ?_; rintro e w' ⟨rfl,rfl⟩))
  go_ret
  exact ⟨rfl,hbel⟩
 rw [decide_eq_true hl]
 have hl' : decide (0 < l) = true := decide_eq_true hl
 cases x3
 all_goals
  go_enter Tryz.func66,Tryz.ntmps66
  go_wp2_with (first | (go_at_call 71; refine (c1 _).mono ?_; rintro e w' ⟨rfl,rfl⟩) | (go_at_call 67; refine (c2 _).mono ?_; rintro e w' ⟨rfl,rfl⟩) | (go_at_call 89; refine (c3 _).mono ?_; rintro e w' ⟨rfl,rfl⟩))
  go_ret
  exact ⟨rfl,hbel⟩
theorem l13KeyE_any (w : World) (s : ByteArray) :
  Calls Tryz.prog 36 #[.string s] w fun e w' => e = .returned (.bool (enKey s)) ∧ w = w' := by
 have c := l01In_any (s.size : Int) 1 30 w
 have e : inB (s.size : Int) 1 30 = enKey s := by
  unfold inB enKey
  by_cases h1 : 1 ≤ s.size
  ·by_cases h2 : s.size ≤ 30
   ·rw [decide_eq_true (show 1 ≤ s.size ∧ s.size ≤ 30 from ⟨h1,h2⟩),decide_eq_true (show (1 : Int) ≤ s.size by omega),decide_eq_true (show (s.size : Int) ≤ 30 by omega)]; rfl
   ·rw [decide_eq_false (show ¬ (1 ≤ s.size ∧ s.size ≤ 30) by omega),decide_eq_false (show ¬ (s.size : Int) ≤ 30 by omega)]; simp
  ·rw [decide_eq_false (show ¬ (1 ≤ s.size ∧ s.size ≤ 30) by omega),decide_eq_false (show ¬ (1 : Int) ≤ s.size by omega)]; rfl
 rw [e] at c
 clear e
 go_enter Tryz.func36,Tryz.ntmps36
 go_wp2_with (go_at_call 37; refine c.mono ?_; rintro e w' ⟨rfl,rfl⟩)
 go_ret
 exact ⟨rfl,rfl⟩
set_option maxHeartbeats 2000000 in
theorem specEntryOk_any (w : World) (k b : ByteArray) (s l : Int) :
  Calls Tryz.prog 15 #[.agg #[.string k,.int .i64 s,.int .i64 l,.string b]] w fun e w' => e = .returned (.bool (enOk ⟨k,s,l,b⟩)) ∧ Below w.heap.size w w' := by
 unfold enOk
 dsimp only
 have hbel := (Below.refl w.heap.size w).alloc (Nat.le_refl _) (.cells #[.string k,.int .i64 s,.int .i64 l,.string b] 47)
 have c1 := fun w => l13KeyE_any w k
 have c2 := fun w => l01In_any s 0 1000000000 w
 have c3 := fun w => l01In_any l 1 999999 w
 generalize enKey k = x1 at c1 ⊢
 generalize inB s 0 1000000000 = x2 at c2 ⊢
 generalize inB l 1 999999 = x3 at c3 ⊢
 have e4 : decide (b.size ≤ 400) = decide ((b.size : Int) ≤ 400) := decide_eq_decide.2 (by omega)
 rw [e4]
 cases x1 <;> cases x2 <;> cases x3
 all_goals
  go_enter Tryz.func15,Tryz.ntmps15
  go_wp2_with (first | (go_at_call 36; refine (c1 _).mono ?_; rintro e w' ⟨rfl,rfl⟩) | (go_at_call 37; first | (with_reducible refine (c2 _).mono ?_; rintro e w' ⟨rfl,rfl⟩) | (with_reducible refine (c3 _).mono ?_; rintro e w' ⟨rfl,rfl⟩)))
  go_ret
  exact ⟨rfl,hbel⟩
def enFresh (E : En) (now : Int) : Bool := enOk E && (inB now E.st 1000000000 && decide (now - E.st < E.lf))
theorem enFresh_bad {E : En} {now : Int} (h : enOk E = false) : enFresh E now = false := by unfold enFresh; rw [h]; rfl
set_option maxRecDepth 100000 in
set_option maxHeartbeats 2000000 in
theorem specFreshAt_any (w : World) (k b : ByteArray) (s l now : Int) :
  Calls Tryz.prog 16 #[.agg #[.string k,.int .i64 s,.int .i64 l,.string b],.int .i64 now] w fun e w' => e = .returned (.bool (enFresh ⟨k,s,l,b⟩ now)) ∧ Below w.heap.size w w' := by
 obtain ⟨wb,hwb⟩ : ∃ wb,w.alloc (.cells #[.string k,.int .i64 s,.int .i64 l,.string b] 47) = wb := ⟨_,rfl⟩
 have hb : Below w.heap.size w wb := by rw [← hwb]; exact (Below.refl _ _).alloc (Nat.le_refl _) _
 obtain ⟨A,hA⟩ : ∃ A,w.heap.size = A := ⟨_,rfl⟩
 have hx : EnB wb A 47 ⟨k,s,l,b⟩ := by rw [← hwb, ← hA]; exact EnB.new w _ ⟨k,s,l,b⟩
 have c0 := specEntryOk_any wb k b s l
 obtain ⟨b0,b1,b2,b3⟩ := hx.cells
 dsimp only at b0 b1 b2 b3
 have HX : Hid (EnB wb A 47 ⟨k,s,l,b⟩ ∧ Below w.heap.size w wb ∧ w.heap.size ≤ wb.heap.size) := ⟨hx,hb,hb.size⟩
 clear hx hb
 have cI := fun w => l01In_any now s 1000000000 w
 cases hok : enOk ⟨k,s,l,b⟩
 case false =>
  rw [enFresh_bad hok]
  rw [hok] at c0
  go_enter Tryz.func16,Tryz.ntmps16
  go_wp2_with fail
  refine c0.mono ?_
  rintro e w1 ⟨rfl,hb1⟩
  have HB1 : Hid (Below w.heap.size w w1) := HX.out.2.1.trans (hb1.mono HX.out.2.2)
  clear c0 hb1
  go_wp2_with fail
  go_ret
  exact ⟨rfl,HB1.out⟩
 case true =>
  have HF : Hid (enFresh ⟨k,s,l,b⟩ now = (inB now s 1000000000 && decide (now - s < l))) := by show _ = _; unfold enFresh; rw [hok]; rfl
  have HR : Hid (enOk ⟨k,s,l,b⟩ = true) := hok
  rw [hok] at c0
  rw [HF.out]
  clear hok HF
  by_cases hin : s ≤ now ∧ now ≤ 1000000000
  ·rw [inB_yes hin.1 hin.2] at cI ⊢
   obtain ⟨h1,h2,h3,h4⟩ := enOk_iff.1 HR.out
   dsimp only at h2
   obtain ⟨hi1,hi2⟩ := hin
   clear h1 h3 h4
   go_enter Tryz.func16,Tryz.ntmps16
   go_wp2_with fail
   refine c0.mono ?_
   rintro e w1 ⟨rfl,hb1⟩
   have hx1 := HX.out.1.on hb1
   have HB1 : Hid (Below w.heap.size w w1) := HX.out.2.1.trans (hb1.mono HX.out.2.2)
   clear c0 hb1 b0 b1 b2 b3
   obtain ⟨b0,b1,b2,b3⟩ := hx1.cells
   dsimp only at b0 b1 b2 b3
   clear hx1
   go_wp2_with (go_at_call 37; refine (cI _).mono ?_; rintro e w2 ⟨rfl,rfl⟩)
   go_ret
   exact ⟨rfl,HB1.out⟩
  ·rw [inB_no hin] at cI ⊢
   clear hin
   go_enter Tryz.func16,Tryz.ntmps16
   go_wp2_with fail
   refine c0.mono ?_
   rintro e w1 ⟨rfl,hb1⟩
   have hx1 := HX.out.1.on hb1
   have HB1 : Hid (Below w.heap.size w w1) := HX.out.2.1.trans (hb1.mono HX.out.2.2)
   clear c0 hb1 b0 b1 b2 b3
   obtain ⟨b0,b1,b2,b3⟩ := hx1.cells
   dsimp only at b0 b1 b2 b3
   clear hx1
   go_wp2_with (go_at_call 37; refine (cI _).mono ?_; rintro e w2 ⟨rfl,rfl⟩)
   go_ret
   exact ⟨rfl,HB1.out⟩
set_option maxRecDepth 100000 in
set_option maxHeartbeats 2000000 in
theorem implFreshAt_any (w : World) (k b : ByteArray) (s l now : Int) (hk : k.size ≤ 1099511627776) (hbd : b.size ≤ 1099511627776) :
  Calls Tryz.prog 43 #[.agg #[.string k,.int .i64 s,.int .i64 l,.string b],.int .i64 now] w fun e w' => e = .returned (.bool (enFresh ⟨k,s,l,b⟩ now)) ∧ Below w.heap.size w w' := by
 obtain ⟨wb,hwb⟩ : ∃ wb,w.alloc (.cells #[.string k,.int .i64 s,.int .i64 l,.string b] 47) = wb := ⟨_,rfl⟩
 have hb : Below w.heap.size w wb := by rw [← hwb]; exact (Below.refl _ _).alloc (Nat.le_refl _) _
 obtain ⟨A,hA⟩ : ∃ A,w.heap.size = A := ⟨_,rfl⟩
 have hx : EnB wb A 47 ⟨k,s,l,b⟩ := by rw [← hwb, ← hA]; exact EnB.new w _ ⟨k,s,l,b⟩
 have c0 := implEntryOk_any wb k b s l hk hbd
 obtain ⟨b0,b1,b2,b3⟩ := hx.cells
 dsimp only at b0 b1 b2 b3
 have HX : Hid (EnB wb A 47 ⟨k,s,l,b⟩ ∧ Below w.heap.size w wb ∧ w.heap.size ≤ wb.heap.size) := ⟨hx,hb,hb.size⟩
 clear hx hb hk hbd
 have cI := fun w => numE_any now w
 cases hok : enOk ⟨k,s,l,b⟩
 case false =>
  rw [enFresh_bad hok]
  rw [hok] at c0
  go_enter Tryz.func43,Tryz.ntmps43
  go_wp2_with fail
  refine c0.mono ?_
  rintro e w1 ⟨rfl,hb1⟩
  have HB1 : Hid (Below w.heap.size w w1) := HX.out.2.1.trans (hb1.mono HX.out.2.2)
  clear c0 hb1
  go_wp2_with fail
  go_ret
  exact ⟨rfl,HB1.out⟩
 case true =>
  have HR : Hid (enOk ⟨k,s,l,b⟩ = true) := hok
  obtain ⟨h1,h2,h3,h4⟩ := enOk_iff.1 hok
  dsimp only at h2
  clear h1 h3 h4
  have HF : Hid (enFresh ⟨k,s,l,b⟩ now = (inB now 0 1000000000 && (decide (s ≤ now) && decide (now - s < l)))) := by
   show _ = _
   unfold enFresh inB
   rw [hok]
   by_cases q1 : s ≤ now
   ·by_cases q2 : now ≤ 1000000000
    ·simp only [decide_eq_true q1,decide_eq_true q2,decide_eq_true (show (0 : Int) ≤ now by omega),Bool.true_and]
    ·simp only [decide_eq_false q2,Bool.and_false,Bool.false_and]
   ·simp only [decide_eq_false q1,Bool.false_and,Bool.and_false]
  rw [hok] at c0
  rw [HF.out]
  clear hok HF
  by_cases hin : 0 ≤ now ∧ now ≤ 1000000000
  ·rw [inB_yes hin.1 hin.2] at cI ⊢
   obtain ⟨hi1,hi2⟩ := hin
   by_cases hle : s ≤ now
   ·rw [decide_eq_true hle]
    have hle' : decide (s ≤ now) = true := decide_eq_true hle
    go_enter Tryz.func43,Tryz.ntmps43
    go_wp2_with fail
    refine c0.mono ?_
    rintro e w1 ⟨rfl,hb1⟩
    have hx1 := HX.out.1.on hb1
    have HB1 : Hid (Below w.heap.size w w1) := HX.out.2.1.trans (hb1.mono HX.out.2.2)
    clear c0 hb1 b0 b1 b2 b3
    obtain ⟨b0,b1,b2,b3⟩ := hx1.cells
    dsimp only at b0 b1 b2 b3
    clear hx1
    go_wp2_with (go_at_call 67; refine (cI _).mono ?_; rintro e w2 ⟨rfl,rfl⟩)
    go_ret
    exact ⟨rfl,HB1.out⟩
   ·rw [decide_eq_false hle]
    have hle' : decide (s ≤ now) = false := decide_eq_false hle
    go_enter Tryz.func43,Tryz.ntmps43
    go_wp2_with fail
    refine c0.mono ?_
    rintro e w1 ⟨rfl,hb1⟩
    have hx1 := HX.out.1.on hb1
    have HB1 : Hid (Below w.heap.size w w1) := HX.out.2.1.trans (hb1.mono HX.out.2.2)
    clear c0 hb1 b0 b1 b2 b3
    obtain ⟨b0,b1,b2,b3⟩ := hx1.cells
    dsimp only at b0 b1 b2 b3
    clear hx1
    go_wp2_with (go_at_call 67; refine (cI _).mono ?_; rintro e w2 ⟨rfl,rfl⟩)
    go_ret
    exact ⟨rfl,HB1.out⟩
  ·rw [inB_no hin] at cI ⊢
   clear hin
   go_enter Tryz.func43,Tryz.ntmps43
   go_wp2_with fail
   refine c0.mono ?_
   rintro e w1 ⟨rfl,hb1⟩
   have HB1 : Hid (Below w.heap.size w w1) := HX.out.2.1.trans (hb1.mono HX.out.2.2)
   clear c0 hb1
   go_wp2_with (go_at_call 67; refine (cI _).mono ?_; rintro e w2 ⟨rfl,rfl⟩)
   go_ret
   exact ⟨rfl,HB1.out⟩
def ltS (a b : ByteArray) : Bool := Op.bytesLess a.toList b.toList
def eqS (a b : ByteArray) : Bool := a.toList == b.toList
def pos (L : List Fil) (nm : ByteArray) : Option Nat := L.findIdx? fun f => eqS f.nm nm
end Go.Proofs.YthfjfccdelbkhaaGreatDoor
