/- Texts that stand in one: PolDropImpl, SpecJoin, SpecEntry, Var, EntOk. -/
import Derived.Test.YtpgcfgbhkodmeaaGreatDoorPolSzTextJ
import Derived.Test.YtpgcfgbhkodmeaaGreatDoorEntPlaceJ
import Derived.Test.YtpgcfgbhkodmeaaGreatDoorInvModeJ
import Derived.Test.YtpgcfgbhkodmeaaGreatDoorCliLawJ
import Derived.Test.YtpgcfgbhkodmeaaGreatDoorDiskPlainJ
import Derived.Test.YtpgcfgbhkodmeaaGreatDoorPrxMarkJ
import Derived.Test.YtpgcfgbhkodmeaaGreatDoorFilesJ
import Derived.Test.YtpgcfgbhkodmeaaGreatDoorSumPlainJ
import Derived.Test.YtpgcfgbhkodmeaaGreatDoorPolLaw2J
import Derived.Test.YtpgcfgbhkodmeaaGreatDoorReadPlainJ
namespace Go.Proofs.YtpgcfgbhkodmeaaGreatDoor
open Go.RowKit Go.Sort
set_option maxRecDepth 100000 in
set_option maxHeartbeats 8000000 in
theorem implPolicyDrop_any (w : World) (aw am ak : Option Addr) (cw cm ck : Nat) (P : Pol) (key : ByteArray) (hA : PolAt w aw am ak P w.heap.size) (hsz : PolSz P) :
  Calls Tryz.prog 131 #[.agg #[.slice aw P.win.length cw,.slice am P.main.length cm,.slice ak P.sk.rows.length ck,.int .i64 P.sk.added],.string key] w fun e w' => ∃ v,e = .returned v ∧ POwn w' w.heap.size w'.heap.size v (dropP P key) ∧ Below w.heap.size w w' := by
 obtain ⟨l1,l2,l3⟩ := hsz.parts
 obtain ⟨w1,hw1⟩ : ∃ x,((w.alloc (.cells #[.slice aw P.win.length cw,.slice am P.main.length cm,.slice ak P.sk.rows.length ck,.int .i64 P.sk.added] 44)).alloc (.cells #[.string key] 9)).alloc (.cells #[.slice none 0 0,.slice none 0 0,.slice none 0 0,.int .i64 0] 44) = x := ⟨_,rfl⟩
 have hb1 : Below w.heap.size w w1 := by rw [← hw1]; exact (((Below.refl _ _).alloc (Nat.le_refl _) _).alloc (by simp) _).alloc (by simp; omega) _
 have s1 : w1.heap.size = w.heap.size + 3 := by rw [← hw1]; simp
 have hK : w1.heap[w.heap.size + 1]? = some (.cells #[.string key] 9 (0, 0)) := by
  have h := heap_alloc_new (w.alloc (.cells #[.slice aw P.win.length cw,.slice am P.main.length cm,.slice ak P.sk.rows.length ck,.int .i64 P.sk.added] 44)) (.cells #[.string key] 9)
  rw [← hw1]
  exact (((Below.refl _ _).alloc (Nat.le_refl _) _).block _ (by simp)).trans (by simpa using h)
 have hR : PBox w1 (w.heap.size + 2) (.slice none 0 0) (.slice none 0 0) (.slice none 0 0) (.int .i64 0) := by
  have h := PBox.new ((w.alloc (.cells #[.slice aw P.win.length cw,.slice am P.main.length cm,.slice ak P.sk.rows.length ck,.int .i64 P.sk.added] 44)).alloc (.cells #[.string key] 9)) (.slice none 0 0) (.slice none 0 0) (.slice none 0 0) (.int .i64 0)
  rw [hw1] at h
  simpa using h
 have c1 := policyCopy_any w1 aw am ak cw cm ck P (hA.on hb1) hsz
 have HW : Hid (((w.alloc (.cells #[.slice aw P.win.length cw,.slice am P.main.length cm,.slice ak P.sk.rows.length ck,.int .i64 P.sk.added] 44)).alloc (.cells #[.string key] 9)).alloc (.cells #[.slice none 0 0,.slice none 0 0,.slice none 0 0,.int .i64 0] 44) = w1) := hw1
 have HB1 : Hid (Below w.heap.size w w1 ∧ w1.heap.size = w.heap.size + 3) := ⟨hb1,s1⟩
 clear hw1 hb1 s1 hA
 go_enter Tryz.func131,Tryz.ntmps131
 go_wp2_with fail
 rw [HW.out]
 refine c1.mono ?_
 rintro e w2 ⟨v,rfl,hO,hb2⟩
 have hO0 := hO
 obtain ⟨v1,v2,v3,rfl,o1,o2,d1,d2,o3⟩ := hO
 obtain ⟨a2,k2,rfl,_⟩ := o1.strsAt
 obtain ⟨a3,k3,rfl,_⟩ := o2.strsAt
 obtain ⟨a4,k4,rfl,_⟩ := o3.at
 obtain ⟨hb1,s1⟩ := HB1.out
 have H3 := hO0.hold 44 []
 have ht : tyOk 44 := by unfold tyOk; decide
 obtain ⟨w3,hw3⟩ : ∃ x,w2.alloc (.cells #[.slice a2 P.win.length k2,.slice a3 P.main.length k3,.slice a4 P.sk.rows.length k4,.int .i64 P.sk.added] 44) = x := ⟨_,rfl⟩
 have hb3 : Below w1.heap.size w1 w3 := by
  rw [← hw3]
  exact hb2.alloc hb2.size _
 rw [hw3] at H3
 have HW3 : Hid (w2.alloc (.cells #[.slice a2 P.win.length k2,.slice a3 P.main.length k3,.slice a4 P.sk.rows.length k4,.int .i64 P.sk.added] 44) = w3) := hw3
 obtain ⟨V,hV⟩ : ∃ V,w2.heap.size = V := ⟨_,rfl⟩
 rw [hV] at H3
 have hVlo : w1.heap.size ≤ V := by rw [← hV]; exact hb2.size
 have hKc : ∀ W,Below w1.heap.size w1 W → W.cell? ⟨w.heap.size + 1, 0,none⟩ = some (.string key) := fun W h => by
  rw [cell_of_row W (w.heap.size + 1) 0 _ _ (0, 0) ((h.block _ (by omega)).trans hK)]; rfl
 have hs3 := hb3.size
 have c2 := deleteF_any w3 w1.heap.size (w.heap.size + 1) _ P.win key H3.2.1 l1 (by omega) (by omega) (hKc _ hb3)
 have HL : Hid (P.win.length ≤ 1048576 ∧ P.main.length ≤ 1048576) := ⟨l1,l2⟩
 have HKC : Hid _ := hKc
 have HV : Hid (w2.heap.size = V) := hV
 clear c1 hO0 o1 o2 d1 d2 o3 hw3 hKc hV hK hs3 l1 l2 l3 hsz hb2
 go_wp2_with fail
 rw [HW3.out]
 refine c2.mono ?_
 rintro e w4 ⟨v1',rfl,ho4,hn4,hg4⟩
 obtain ⟨a5,k5,rfl,_⟩ := ho4.strsAt
 obtain ⟨x0,xf⟩ := H3.var1 ht hg4
 have xf0 := xf 0
 have hb4 : Below w1.heap.size w1 w4 := hb3.grown hg4 hb3.size (fun k e => (H3.2.1.lt k e).1)
 have H5 := H3.setWin ht hg4 ho4 (fun k e => .inl (by rw [← hn4]; exact e))
 have hb5 : Below w1.heap.size w1 (w4.setCell ⟨V, 0,none⟩ (.slice a5 (without P.win key).length k5)) := hb4.setCell hVlo _
 obtain ⟨w5,hw5⟩ : ∃ x,w4.setCell ⟨V, 0,none⟩ (.slice a5 (without P.win key).length k5) = x := ⟨_,rfl⟩
 have HW5 : Hid (w4.setCell ⟨V, 0,none⟩ (.slice a5 (without P.win key).length k5) = w5) := hw5
 obtain ⟨n1,hn1⟩ : ∃ n,(without P.win key).length = n := ⟨_,rfl⟩
 rw [hw5] at H5 hb5
 rw [hn1] at H5 HW5 ⊢
 have c3 := deleteF_any w5 w1.heap.size (w.heap.size + 1) _ P.main key H5.2.2.1 HL.out.2 (by omega) (by have := hb5.size; omega) (HKC.out _ hb5)
 obtain ⟨y0,y1,y2,y3,_⟩ := H5.cells
 have HP5 : Hid (PHold w5 V 44 [] w1.heap.size (.slice a5 n1 k5) (.slice a3 P.main.length k3) (.slice a4 P.sk.rows.length k4) ⟨without P.win key,P.main,P.sk⟩) := H5
 have HQ5 : Hid (Below w1.heap.size w1 w5 ∧ w1.heap.size ≤ V ∧ Below w.heap.size w w1 ∧ w1.heap.size = w.heap.size + 3 ∧ PBox w1 (w.heap.size + 2) (.slice none 0 0) (.slice none 0 0) (.slice none 0 0) (.int .i64 0)) := ⟨hb5,hVlo,hb1,s1,hR⟩
 rw [← HW5.out] at y0 y1 y2 y3
 rw [HV.out]
 clear c2 hw5 hn1 H3 H5 hb3 hb4 hb5 ho4 hn4 hg4 xf hb1 s1 hVlo HB1 HW HW3 hR
 go_wp2_with fail
 rw [HW5.out] at y0 y1 y2 y3 ⊢
 refine c3.mono ?_
 rintro e w6 ⟨v2',rfl,ho6,hn6,hg6⟩
 obtain ⟨a6,k6,rfl,_⟩ := ho6.strsAt
 have H5 : PHold w5 V 44 [] w1.heap.size (.slice a5 n1 k5) (.slice a3 P.main.length k3) (.slice a4 P.sk.rows.length k4) ⟨without P.win key,P.main,P.sk⟩ := HP5.out
 obtain ⟨hb5,hVlo,hb1,s1,hR⟩ := HQ5.out
 obtain ⟨z0,zf⟩ := H5.var2 ht hg6
 have zf1 := zf 1
 have hb6 : Below w1.heap.size w1 w6 := hb5.grown hg6 hb5.size (fun k e => (H5.2.2.1.lt k e).1)
 have H7 := H5.setMain ht hg6 ho6 (fun k e => .inl (by rw [← hn6]; exact e))
 have hb7 : Below w1.heap.size w1 (w6.setCell ⟨V, 1,none⟩ (.slice a6 (without P.main key).length k6)) := hb6.setCell hVlo _
 obtain ⟨w7,hw7⟩ : ∃ x,w6.setCell ⟨V, 1,none⟩ (.slice a6 (without P.main key).length k6) = x := ⟨_,rfl⟩
 have HW7 : Hid (w6.setCell ⟨V, 1,none⟩ (.slice a6 (without P.main key).length k6) = w7) := hw7
 obtain ⟨n2,hn2⟩ : ∃ n,(without P.main key).length = n := ⟨_,rfl⟩
 rw [hw7] at H7 hb7
 rw [hn2] at H7 HW7 ⊢
 obtain ⟨u0,u1,u2,u3,_⟩ := H7.cells
 have hR7 := hR.on hb7
 obtain ⟨r0,r1,r2,r3⟩ := hR7.cells
 have f0 := hR7.thaw 0
 have f1 := hR7.thaw 1
 have f2 := hR7.thaw 2
 have f3 := hR7.thaw 3
 have HF : Hid (PHold w7 V 44 [] w1.heap.size (.slice a5 n1 k5) (.slice a6 n2 k6) (.slice a4 P.sk.rows.length k4) (dropP P key) ∧ PBox w7 (w.heap.size + 2) (.slice none 0 0) (.slice none 0 0) (.slice none 0 0) (.int .i64 0) ∧ Below w.heap.size w w7 ∧ w.heap.size ≤ w1.heap.size) := ⟨H7,hR7,hb1.trans (hb7.mono (by omega)),by omega⟩
 dsimp only at u3
 rw [← HW7.out] at u0 u1 u2 u3 r0 r1 r2 r3 f0 f1 f2 f3
 clear c3 hw7 hn2 H5 H7 hb5 hb6 hb7 ho6 hn6 hg6 zf hb1 s1 hVlo hR hR7 HP5 HQ5 y0 y1 y2 y3
 go_wp2_with fail
 rw [HW7.out]
 obtain ⟨H7',hR7,hbw,hlo⟩ := HF.out
 have H7 : PHold w7 V 44 [] w1.heap.size (.slice a5 n1 k5) (.slice a6 n2 k6) (.slice a4 P.sk.rows.length k4) (dropP P key) := H7'
 obtain ⟨q0,q1,q2,q3⟩ := (hR7.put (.slice a5 n1 k5) (.slice a6 n2 k6) (.slice a4 P.sk.rows.length k4) (.int .i64 P.sk.added)).cells
 refine bodyPost_ret (v := .agg #[.slice a5 n1 k5,.slice a6 n2 k6,.slice a4 P.sk.rows.length k4,.int .i64 P.sk.added]) (by simp [results,Tryz.results131,go_sem,q0,q1,q2,q3]) rfl ⟨_,rfl, ?_,Below.put4 hbw (by omega) _ _ _ _⟩
 refine POwn.mono (H7.own.put4 hR7 _ _ _ _) hlo ?_
 simp
def insC (L : List Cli) (e : Cli) : List Cli := (L.filter fun x => decide (x.id < e.id)) ++ e :: (L.filter fun x => decide (e.id < x.id))
theorem filterC_on {L : List Cli} {p : Cli → Bool} {k : Nat} (hk : k < L.length) {x : Cli} (hx : L[k] = x) (hp : p x = true) : (L.take (k + 1)).filter p = (L.take k).filter p ++ [x] := by
 rw [List.take_succ_eq_append_getElem hk,List.filter_append,hx]; simp [hp]
theorem filterC_off {L : List Cli} {p : Cli → Bool} {k : Nat} (hk : k < L.length) {x : Cli} (hx : L[k] = x) (hp : p x = false) : (L.take (k + 1)).filter p = (L.take k).filter p := by
 rw [List.take_succ_eq_append_getElem hk,List.filter_append,hx]; simp [hp]
theorem filterC_len (L : List Cli) (p : Cli → Bool) (k : Nat) : ((L.take k).filter p).length ≤ L.length := by
 have h1 := List.length_filter_le p (L.take k)
 have h2 : (L.take k).length ≤ L.length := by rw [List.length_take]; omega
 omega
set_option maxRecDepth 100000 in
set_option maxHeartbeats 4000000 in
theorem l16Join_any (w : World) (a : Option Addr) (c : Nat) (L : List Cli) (e : Cli) (hL : CliAt w a L w.heap.size) (hm : L.length ≤ 100000) :
  Calls Tryz.prog 48 #[.slice a L.length c,.agg #[.int .i64 e.id,.string e.key,.int .i64 e.fe,.int .i64 e.fr,.int .i64 e.st,.string e.got,.int .i64 e.ag]] w fun e' w' => ∃ v,e' = .returned v ∧ OwnCli w' w.heap.size 87 v (insC L e) ∧ Below w.heap.size w w' := by
 obtain ⟨A,hA⟩ : ∃ A,w.heap.size = A := ⟨_,rfl⟩
 obtain ⟨wb,hwb⟩ : ∃ wb,w.alloc (.cells #[.int .i64 e.id,.string e.key,.int .i64 e.fe,.int .i64 e.fr,.int .i64 e.st,.string e.got,.int .i64 e.ag] 87) = wb := ⟨_,rfl⟩
 have hb : Below A w wb := by rw [← hwb, ← hA]; exact (Below.refl _ _).alloc (Nat.le_refl _) _
 have hV : wb.heap.size = A + 1 := by rw [← hwb, ← hA]; simp
 have hx : CliB wb A 87 e := by rw [← hwb, ← hA]; exact CliB.new w _ e
 have HD : Hid (∀ wi,Below wb.heap.size wb wi → (wi.cell? ⟨A, 0,none⟩ = some (.int .i64 e.id) ∧ wi.cell? ⟨A, 1,none⟩ = some (.string e.key) ∧ wi.cell? ⟨A, 2,none⟩ = some (.int .i64 e.fe) ∧ wi.cell? ⟨A, 3,none⟩ = some (.int .i64 e.fr) ∧ wi.cell? ⟨A, 4,none⟩ = some (.int .i64 e.st) ∧ wi.cell? ⟨A, 5,none⟩ = some (.string e.got) ∧ wi.cell? ⟨A, 6,none⟩ = some (.int .i64 e.ag)) ∧ CliAt wi a L wi.heap.size ∧ Below A w wi ∧ wb.heap.size ≤ wi.heap.size) := by
  intro wi hi
  exact ⟨(hx.on hi).cells,(hL.on (by rw [hA]; exact hb)).on hi,hb.trans (hi.mono (by omega)),hi.size⟩
 obtain ⟨wd,hwd⟩ : ∃ wd,wb.alloc (.cells #[] 87) = wd := ⟨_,rfl⟩
 have HBd : Hid (Below wb.heap.size wb wd) := by show Below _ _ _; rw [← hwd]; exact (Below.refl _ _).alloc (Nat.le_refl _) _
 have HO : Hid (OwnCli wd wb.heap.size 87 (.slice (some ⟨A + 1, 0,none⟩) 0 0) []) := by
  show OwnCli _ _ _ _ _
  rw [← hwd]
  have h := OwnCli.new wb 87 [] _ rfl (by simp [maxLen])
  rw [hV] at h ⊢
  exact h
 have HW : Hid (wb.alloc (.cells #[] 87) = wd ∧ w.alloc (.cells #[.int .i64 e.id,.string e.key,.int .i64 e.fe,.int .i64 e.fr,.int .i64 e.st,.string e.got,.int .i64 e.ag] 87) = wb) := ⟨hwd,hwb⟩
 have HAV : Hid (A ≤ wb.heap.size) := by show _ ≤ _; omega
 rw [hA]
 clear hwb hb hV hx hwd hL
 go_enter Tryz.func48,Tryz.ntmps48
 go_wp2_with fail
 rw [HW.out.2,HW.out.1]
 go_loopw [5, 6] (fun s i wr => Box (∃ (k : Nat) (v : Value),k ≤ L.length ∧ i = .int .i64 k ∧ v = s ∧ Below wb.heap.size wb wr ∧ OwnCli wr wb.heap.size 87 v ((L.take k).filter fun x => decide (x.id < e.id))))
  (fun _ i _ => L.length - (intOf i).toNat)
 case atStart => exact ⟨⟨0,_,by omega,rfl,rfl,HBd.out,HO.out⟩⟩
 case round =>
  obtain ⟨k,v,hk,rfl,hsv,hbel,hown⟩ := hrel.out
  subst hsv
  obtain ⟨⟨b0,b1,b2,b3,b4,b5,b6⟩,hLr,_⟩ := HD.out wr hbel
  have HB : Hid (Below wb.heap.size wb wr) := hbel
  by_cases hlt : k < L.length
  ·obtain ⟨g,off,rfl,hg,hc0,hc1,hc2,hc3,hc4,hc5,hc6⟩ := hLr k hlt
   obtain ⟨x,hx⟩ : ∃ x,L[k] = x := ⟨_,rfl⟩
   rw [hx] at hc0 hc1 hc2 hc3 hc4 hc5 hc6
   have hi1 : (0 : Int) ≤ (k : Int) := by omega
   have hi2 : (k : Int) < (L.length : Int) := by omega
   have HF : Hid (L[k] = x) := hx
   have HOW : Hid (OwnCli wr wb.heap.size 87 v ((L.take k).filter fun x => decide (x.id < e.id))) := hown
   have hlenf := filterC_len L (fun x => decide (x.id < e.id)) k
   clear hx hown hLr hrel hbel
   by_cases he : x.id < e.id
   rotate_left
   ·have hp : decide (x.id < e.id) = false := by simp [he]
    go_wp2
    go_quiet (fail)
    go_wp2
    go_roundw
    case rel =>
     try ((repeat apply Exists.intro); refine ⟨?_,rfl⟩)
     exact ⟨⟨k + 1,v,by omega,by go_num,rfl,HB.out.trans ⟨rfl,rfl,rfl,Nat.le_refl _,fun _ _ => rfl⟩,by rw [filterC_off (p := fun x => decide (x.id < e.id)) hlt HF.out hp]; exact HOW.out⟩⟩
    case measure => simp [intOf]; omega
   ·have hp : Hid (decide (x.id < e.id) = true) := by show _ = _; simp [he]
    go_wp2
    go_quiet (fail)
    obtain ⟨wq,hwq⟩ : ∃ wq,wr.drewN nq = wq := ⟨_,rfl⟩
    have HQ : Hid (Below wb.heap.size wb wq ∧ OwnCli wq wb.heap.size 87 v ((L.take k).filter fun x => decide (x.id < e.id))) := by
     rw [← hwq]
     exact ⟨HB.out.trans ⟨rfl,rfl,rfl,Nat.le_refl _,fun _ _ => rfl⟩,HOW.out⟩
    have d0 : wq.cell? ⟨g,off + k * 7,none⟩ = some (.int .i64 x.id) := by rw [← hwq]; exact hc0
    have d1 : wq.cell? ⟨g,off + k * 7 + 1,none⟩ = some (.string x.key) := by rw [← hwq]; exact hc1
    have d2 : wq.cell? ⟨g,off + k * 7 + 2,none⟩ = some (.int .i64 x.fe) := by rw [← hwq]; exact hc2
    have d3 : wq.cell? ⟨g,off + k * 7 + 3,none⟩ = some (.int .i64 x.fr) := by rw [← hwq]; exact hc3
    have d4 : wq.cell? ⟨g,off + k * 7 + 4,none⟩ = some (.int .i64 x.st) := by rw [← hwq]; exact hc4
    have d5 : wq.cell? ⟨g,off + k * 7 + 5,none⟩ = some (.string x.got) := by rw [← hwq]; exact hc5
    have d6 : wq.cell? ⟨g,off + k * 7 + 6,none⟩ = some (.int .i64 x.ag) := by rw [← hwq]; exact hc6
    rw [hwq]
    clear hwq hc0 hc1 hc2 hc3 hc4 hc5 hc6 HOW HB b0 b1 b2 b3 b4 b5 b6
    go_wp2_with (at_builtin; refine wpList_plusCli rfl (.tmp 23) (.tmp 28) 46 rfl wb.heap.size 87 Tryz.underlying46 Tryz.infoCli v ((L.take k).filter fun x => decide (x.id < e.id)) rfl HQ.out.2 [x] _ rfl rfl (by simp only [List.length_singleton]; omega) HQ.out.1.size ?_; intro v2 w2 ho2 hg2)
    have HB2 : Hid (Below wb.heap.size wb w2) := Below.grown HQ.out.1 hg2 HQ.out.1.size (fun j hj => (HQ.out.2.lt j hj).1)
    rw [← filterC_on (p := fun x => decide (x.id < e.id)) hlt HF.out hp.out] at ho2
    clear hg2 HQ
    go_roundw
    case rel =>
     try ((repeat apply Exists.intro); refine ⟨?_,rfl⟩)
     exact ⟨⟨k + 1,v2,by omega,by go_num,rfl,HB2.out,ho2⟩⟩
    case measure => simp [intOf]; omega
  ·have hke : k = L.length := by omega
   rw [hke,List.take_length] at hown
   have HOW : Hid (OwnCli wr wb.heap.size 87 v (L.filter fun x => decide (x.id < e.id))) := hown
   have hlenf := List.length_filter_le (fun x : Cli => decide (x.id < e.id)) L
   clear hown hLr hrel hbel
   go_wp2_with (at_builtin; refine wpList_plusCli rfl (.tmp 30) (.tmp 32) 46 rfl wb.heap.size 87 Tryz.underlying46 Tryz.infoCli v (L.filter fun x => decide (x.id < e.id)) rfl HOW.out [e] _ rfl rfl (by simp only [List.length_singleton]; omega) HB.out.size ?_; intro v2 w2 ho2 hg2)
   have HB2 : Hid (Below wb.heap.size wb w2) := Below.grown HB.out hg2 HB.out.size (fun j hj => (HOW.out.lt j hj).1)
   have HO2 : Hid (OwnCli w2 wb.heap.size 87 v2 ((L.filter fun x => decide (x.id < e.id)) ++ [e] ++ (L.take 0).filter fun x => decide (e.id < x.id))) := by show OwnCli _ _ _ _ _; simpa using ho2
   clear hg2 ho2 HOW HB b0 b1 b2 b3 b4 b5 b6
   go_wp2
   go_loopw [5, 7] (fun s i wr => Box (∃ (k : Nat) (v : Value),k ≤ L.length ∧ i = .int .i64 k ∧ v = s ∧ Below wb.heap.size wb wr ∧ OwnCli wr wb.heap.size 87 v ((L.filter fun x => decide (x.id < e.id)) ++ [e] ++ (L.take k).filter fun x => decide (e.id < x.id))))
    (fun _ i _ => L.length - (intOf i).toNat)
   case atStart => exact ⟨⟨0,_,by omega,rfl,rfl,HB2.out,HO2.out⟩⟩
   case round =>
    obtain ⟨k,v,hk,rfl,hsv,hbel,hown⟩ := hrel.out
    subst hsv
    obtain ⟨⟨b0,b1,b2,b3,b4,b5,b6⟩,hLr,hAw,_⟩ := HD.out wr hbel
    have HB : Hid (Below wb.heap.size wb wr ∧ Below A w wr) := ⟨hbel,hAw⟩
    by_cases hlt : k < L.length
    ·obtain ⟨g,off,rfl,hg,hc0,hc1,hc2,hc3,hc4,hc5,hc6⟩ := hLr k hlt
     obtain ⟨x,hx⟩ : ∃ x,L[k] = x := ⟨_,rfl⟩
     rw [hx] at hc0 hc1 hc2 hc3 hc4 hc5 hc6
     have hi1 : (0 : Int) ≤ (k : Int) := by omega
     have hi2 : (k : Int) < (L.length : Int) := by omega
     have HF : Hid (L[k] = x) := hx
     have HOW : Hid (OwnCli wr wb.heap.size 87 v ((L.filter fun x => decide (x.id < e.id)) ++ [e] ++ (L.take k).filter fun x => decide (e.id < x.id))) := hown
     have hlen3 : ((L.filter fun x => decide (x.id < e.id)) ++ [e] ++ (L.take k).filter fun x => decide (e.id < x.id)).length ≤ 1799999 - 1 := by
      have := filterC_len L (fun x => decide (e.id < x.id)) k
      simp only [List.length_append,List.length_singleton]
      have := hm
      omega
     clear hx hown hLr hrel hbel hAw
     by_cases he : e.id < x.id
     rotate_left
     ·have hp : decide (e.id < x.id) = false := by simp [he]
      go_wp2
      go_quiet (fail)
      go_wp2
      go_roundw
      case rel =>
       try ((repeat apply Exists.intro); refine ⟨?_,rfl⟩)
       exact ⟨⟨k + 1,v,by omega,by go_num,rfl,HB.out.1.trans ⟨rfl,rfl,rfl,Nat.le_refl _,fun _ _ => rfl⟩,by rw [filterC_off (p := fun x => decide (e.id < x.id)) hlt HF.out hp]; exact HOW.out⟩⟩
      case measure => simp [intOf]; omega
     ·have hp : Hid (decide (e.id < x.id) = true) := by show _ = _; simp [he]
      go_wp2
      go_quiet (fail)
      obtain ⟨wq,hwq⟩ : ∃ wq,wr.drewN nq = wq := ⟨_,rfl⟩
      obtain ⟨F,hF⟩ : ∃ F,((L.filter fun x => decide (x.id < e.id)) ++ [e] ++ (L.take k).filter fun x => decide (e.id < x.id)) = F := ⟨_,rfl⟩
      have HFF : Hid (((L.filter fun x => decide (x.id < e.id)) ++ [e] ++ (L.take (k + 1)).filter fun x => decide (e.id < x.id)) = F ++ [x]) := by
       show _ = _
       rw [← hF,filterC_on (p := fun x => decide (e.id < x.id)) hlt HF.out hp.out,List.append_assoc ((L.filter fun x => decide (x.id < e.id)) ++ [e])]
      rw [hF] at HOW hlen3
      have HQ : Hid (Below wb.heap.size wb wq ∧ OwnCli wq wb.heap.size 87 v F) := by
       rw [← hwq]
       exact ⟨HB.out.1.trans ⟨rfl,rfl,rfl,Nat.le_refl _,fun _ _ => rfl⟩,HOW.out⟩
      have d0 : wq.cell? ⟨g,off + k * 7,none⟩ = some (.int .i64 x.id) := by rw [← hwq]; exact hc0
      have d1 : wq.cell? ⟨g,off + k * 7 + 1,none⟩ = some (.string x.key) := by rw [← hwq]; exact hc1
      have d2 : wq.cell? ⟨g,off + k * 7 + 2,none⟩ = some (.int .i64 x.fe) := by rw [← hwq]; exact hc2
      have d3 : wq.cell? ⟨g,off + k * 7 + 3,none⟩ = some (.int .i64 x.fr) := by rw [← hwq]; exact hc3
      have d4 : wq.cell? ⟨g,off + k * 7 + 4,none⟩ = some (.int .i64 x.st) := by rw [← hwq]; exact hc4
      have d5 : wq.cell? ⟨g,off + k * 7 + 5,none⟩ = some (.string x.got) := by rw [← hwq]; exact hc5
      have d6 : wq.cell? ⟨g,off + k * 7 + 6,none⟩ = some (.int .i64 x.ag) := by rw [← hwq]; exact hc6
      rw [hwq]
      clear hwq hF hc0 hc1 hc2 hc3 hc4 hc5 hc6 HOW HB b0 b1 b2 b3 b4 b5 b6
      go_wp2_with (at_builtin; refine wpList_plusCli rfl (.tmp 48) (.tmp 53) 46 rfl wb.heap.size 87 Tryz.underlying46 Tryz.infoCli v F rfl HQ.out.2 [x] _ rfl rfl (by simp only [List.length_singleton]; omega) HQ.out.1.size ?_; intro v2 w2 ho2 hg2)
      have HB2 : Hid (Below wb.heap.size wb w2) := Below.grown HQ.out.1 hg2 HQ.out.1.size (fun j hj => (HQ.out.2.lt j hj).1)
      rw [← HFF.out] at ho2
      clear hg2 HQ
      go_roundw
      case rel =>
       try ((repeat apply Exists.intro); refine ⟨?_,rfl⟩)
       exact ⟨⟨k + 1,v2,by omega,by go_num,rfl,HB2.out,ho2⟩⟩
      case measure => simp [intOf]; omega
    ·have hke : k = L.length := by omega
     rw [hke,List.take_length] at hown
     have hfin : OwnCli wr A 87 v (insC L e) := by
      have h := hown.mono HAV.out
      unfold insC
      simpa using h
     clear hown hLr hrel
     go_wp2
     go_ret
     exact ⟨v,rfl,hfin,HB.out.2⟩
def entAtX (L : List En) (key : ByteArray) : En × Bool := match L.find? (fun x => decide (x.key = key)) with | some x => (x,true) | none => (⟨⟨#[]⟩, 0, 0,⟨#[]⟩⟩,false)
theorem entAtX_there {L : List En} {key : ByteArray} {k : Nat} (hk : k < L.length) (hno : ∀ j (hj : j < L.length),j < k → ¬ L[j].key = key) (he : L[k].key = key) : entAtX L key = (L[k],true) := by
 have h : L.find? (fun x => decide (x.key = key)) = some L[k] := by
  rw [List.find?_eq_some_iff_getElem]
  exact ⟨by simpa using he,k,hk,rfl,fun j hj => by simpa using hno j (by omega) hj⟩
 unfold entAtX
 rw [h]
theorem entAtX_none {L : List En} {key : ByteArray} (hno : ∀ j (hj : j < L.length),j < L.length → ¬ L[j].key = key) : entAtX L key = (⟨⟨#[]⟩, 0, 0,⟨#[]⟩⟩,false) := by
 have h : L.find? (fun x => decide (x.key = key)) = none := by
  rw [List.find?_eq_none]
  intro x hx
  obtain ⟨j,hj,rfl⟩ := List.getElem_of_mem hx
  simpa using hno j hj hj
 unfold entAtX
 rw [h]
set_option maxRecDepth 100000 in
set_option maxHeartbeats 8000000 in
theorem l16Entry_any (w : World) (X : Pc) (R : Prx) (key : ByteArray) (hA : PxAt w X R w.heap.size) (hm : R.ents.length ≤ 1048576) :
  Calls Tryz.prog 46 #[.agg #[.int .i64 R.now,X.e,X.w,X.m,X.k,.int .i64 R.pol.sk.added,X.f,X.c,.int .i64 R.hits],.string key] w fun e w' => ∃ x : En,e = .returned (.tuple #[.agg #[.string x.key,.int .i64 x.st,.int .i64 x.lf,.string x.bd],.bool (entAtX R.ents key).2]) ∧ x = (entAtX R.ents key).1 ∧ Below w.heap.size w w' := by
 obtain ⟨e0,e1,p0,p1,m0,m1,k0,k1,f0,f1,c0,c1,rfl⟩ := hA.slices
 dsimp only
 obtain ⟨ax,cx,hvx,hex⟩ := hA.e
 simp only [Value.slice.injEq,true_and] at hvx
 obtain ⟨hax,hcx'⟩ := hvx
 subst hax hcx'
 obtain ⟨w1,hw1⟩ : ∃ x,w.alloc (.cells #[.int .i64 R.now,.slice e0 R.ents.length e1,.slice p0 R.pol.win.length p1,.slice m0 R.pol.main.length m1,.slice k0 R.pol.sk.rows.length k1,.int .i64 R.pol.sk.added,.slice f0 R.fes.length f1,.slice c0 R.cls.length c1,.int .i64 R.hits] 48) = x := ⟨_,rfl⟩
 obtain ⟨w2,hw2⟩ : ∃ x,w1.alloc (.cells #[.string ⟨#[]⟩,.int .i64 0,.int .i64 0,.string ⟨#[]⟩] 69) = x := ⟨_,rfl⟩
 have hb1 : Below w.heap.size w w1 := by rw [← hw1]; exact (Below.refl _ _).alloc (Nat.le_refl _) _
 have hb2 : Below w1.heap.size w1 w2 := by rw [← hw2]; exact (Below.refl _ _).alloc (Nat.le_refl _) _
 have s1 : w1.heap.size = w.heap.size + 1 := by rw [← hw1]; simp
 have hb : Below w.heap.size w w2 := hb1.trans (hb2.mono hb1.size)
 have hB1 : NB w1 w.heap.size 48 (.int .i64 R.now) (.slice e0 R.ents.length e1) (.slice p0 R.pol.win.length p1) (.slice m0 R.pol.main.length m1) (.slice k0 R.pol.sk.rows.length k1) (.int .i64 R.pol.sk.added) (.slice f0 R.fes.length f1) (.slice c0 R.cls.length c1) (.int .i64 R.hits) := by rw [← hw1]; exact NB.new _ _ _ _ _ _ _ _ _ _ _
 have hE1 : EnB w2 (w.heap.size + 1) 69 ⟨⟨#[]⟩, 0, 0,⟨#[]⟩⟩ := by rw [← hw2, ← s1]; exact EnB.new w1 _ ⟨⟨#[]⟩, 0, 0,⟨#[]⟩⟩
 have HD : Hid (∀ W,Below w2.heap.size w2 W → NB W w.heap.size 48 (.int .i64 R.now) (.slice e0 R.ents.length e1) (.slice p0 R.pol.win.length p1) (.slice m0 R.pol.main.length m1) (.slice k0 R.pol.sk.rows.length k1) (.int .i64 R.pol.sk.added) (.slice f0 R.fes.length f1) (.slice c0 R.cls.length c1) (.int .i64 R.hits) ∧ EnB W (w.heap.size + 1) 69 ⟨⟨#[]⟩, 0, 0,⟨#[]⟩⟩ ∧ NAt W e0 R.ents W.heap.size ∧ Below w.heap.size w W) := fun W h =>
  ⟨(hB1.on hb2).on h,hE1.on h,(hex.on hb).on h,hb.trans (h.mono hb.size)⟩
 have HW : Hid ((w.alloc (.cells #[.int .i64 R.now,.slice e0 R.ents.length e1,.slice p0 R.pol.win.length p1,.slice m0 R.pol.main.length m1,.slice k0 R.pol.sk.rows.length k1,.int .i64 R.pol.sk.added,.slice f0 R.fes.length f1,.slice c0 R.cls.length c1,.int .i64 R.hits] 48)).alloc (.cells #[.string ⟨#[]⟩,.int .i64 0,.int .i64 0,.string ⟨#[]⟩] 69) = w2) := by show _ = _; rw [hw1]; exact hw2
 clear hw1 hw2 hb1 hb2 s1 hb hB1 hE1 hex hA
 go_enter Tryz.func46,Tryz.ntmps46
 go_wp2_with fail
 rw [HW.out]
 go_loopw [6] (fun i wr => Box (∃ k : Nat,k ≤ R.ents.length ∧ i = .int .i64 k ∧ Below w2.heap.size w2 wr ∧ ∀ j (hj : j < R.ents.length),j < k → ¬ R.ents[j].key = key))
  (fun i _ => R.ents.length - (intOf i).toNat)
 case atStart => exact ⟨⟨0,by omega,rfl,Below.refl _ _,fun j hj h => absurd h (by omega)⟩⟩
 case round =>
  obtain ⟨k,hk,rfl,hbel,hno⟩ := hrel.out
  clear hrel
  obtain ⟨hP,hE,hL,hbw⟩ := HD.out wr hbel
  obtain ⟨b0,b1,b2,b3,b4,b5,b6,b7,b8⟩ := hP.cells
  have HR : Hid (∀ j (hj : j < R.ents.length),j < k → ¬ R.ents[j].key = key) := hno
  have HB : Hid (Below w2.heap.size w2 wr ∧ Below w.heap.size w wr) := ⟨hbel,hbw⟩
  have HE : Hid (EnB wr (w.heap.size + 1) 69 ⟨⟨#[]⟩, 0, 0,⟨#[]⟩⟩) := hE
  by_cases hlt : k < R.ents.length
  ·obtain ⟨g,off,hga,hgl,q0,q1,q2,q3⟩ := hL k hlt
   obtain ⟨x,hx⟩ : ∃ x,R.ents[k] = x := ⟨_,rfl⟩
   rw [hx] at q0 q1 q2 q3
   have HX : Hid (R.ents[k] = x) := hx
   have hi1 : (0 : Int) ≤ (k : Int) := by omega
   have hi2 : (k : Int) < (R.ents.length : Int) := by omega
   subst hga
   by_cases he : x.key = key
   ·have HA : Hid (entAtX R.ents key = (x,true)) := by show _ = _; rw [entAtX_there hlt HR.out (by rw [hx]; exact he),hx]
    subst he
    obtain ⟨r0,r1,r2,r3⟩ := hE.cells
    have t0 := hE.thaw 0
    have t1 := hE.thaw 1
    have t2 := hE.thaw 2
    have t3 := hE.thaw 3
    have HF : Hid (EnB (putE wr (w.heap.size + 1) x) (w.heap.size + 1) 69 x ∧ Below w.heap.size w (putE wr (w.heap.size + 1) x)) := ⟨hE.put x,by
     unfold putE
     exact (((hbw.setCell (Nat.le_succ _) _).setCell (Nat.le_succ _) _).setCell (Nat.le_succ _) _).setCell (Nat.le_succ _) _⟩
    clear hx hP hL hno hbel hbw hE
    go_wp2_with fail
    obtain ⟨u0,u1,u2,u3⟩ := HF.out.1.cells
    unfold putE at u0 u1 u2 u3
    refine bodyPost_ret (v := .tuple #[.agg #[.string x.key,.int .i64 x.st,.int .i64 x.lf,.string x.bd],.bool true]) (by simp [results,Tryz.results46,go_sem,u0,u1,u2,u3]) rfl ⟨x,by rw [HA.out],by rw [HA.out],HF.out.2⟩
   ·have hne := bytes_nk he
    clear hP hL hno hbel hbw hE hx
    go_wp2_with fail
    go_roundw
    case rel =>
     try ((repeat apply Exists.intro); refine ⟨?_,rfl⟩)
     refine ⟨⟨k + 1,by omega,by go_num,HB.out.1,fun j hj hjk => ?_⟩⟩
     by_cases hjk' : j = k
     ·subst hjk'; rw [HX.out]; exact he
     ·exact HR.out j hj (by omega)
    case measure => simp [intOf]; omega
  ·have hke : k = R.ents.length := by omega
   subst hke
   have HA : Hid (entAtX R.ents key = (⟨⟨#[]⟩, 0, 0,⟨#[]⟩⟩,false)) := entAtX_none HR.out
   have hi2 : ¬ ((R.ents.length : Int) < (R.ents.length : Int)) := by omega
   obtain ⟨r0,r1,r2,r3⟩ := hE.cells
   have t0 := hE.thaw 0
   have t1 := hE.thaw 1
   have t2 := hE.thaw 2
   have t3 := hE.thaw 3
   have HF : Hid (EnB (putE wr (w.heap.size + 1) ⟨⟨#[]⟩, 0, 0,⟨#[]⟩⟩) (w.heap.size + 1) 69 ⟨⟨#[]⟩, 0, 0,⟨#[]⟩⟩ ∧ Below w.heap.size w (putE wr (w.heap.size + 1) ⟨⟨#[]⟩, 0, 0,⟨#[]⟩⟩)) := ⟨hE.put _,by
    unfold putE
    exact (((hbw.setCell (Nat.le_succ _) _).setCell (Nat.le_succ _) _).setCell (Nat.le_succ _) _).setCell (Nat.le_succ _) _⟩
   clear hP hL hno hbel hbw hE
   go_wp2_with fail
   obtain ⟨u0,u1,u2,u3⟩ := HF.out.1.cells
   unfold putE at u0 u1 u2 u3
   refine bodyPost_ret (v := .tuple #[.agg #[.string ⟨#[]⟩,.int .i64 0,.int .i64 0,.string ⟨#[]⟩],.bool false]) (by simp [results,Tryz.results46,go_sem,u0,u1,u2,u3]) rfl ⟨⟨⟨#[]⟩, 0, 0,⟨#[]⟩⟩,by rw [HA.out],by rw [HA.out],HF.out.2⟩
end Go.Proofs.YtpgcfgbhkodmeaaGreatDoor
namespace Go.Proofs.YtpgcfgbhkodmeaaGreatDoor
open Go.RowKit
theorem l01In_any (x a b : Int) (w : World) :
  Calls Tryz.prog 44 #[.int .i64 x,.int .i64 a,.int .i64 b] w fun e w' => e = .returned (.bool (inB x a b)) ∧ w = w' := by
 by_cases h1 : a ≤ x
 ·by_cases h2 : x ≤ b
  ·rw [inB_yes h1 h2]
   go_enter Tryz.func44,Tryz.ntmps44
   go_wp2
   go_ret
   exact ⟨rfl,rfl⟩
  ·rw [inB_no (by omega)]
   have h3 : decide (x ≤ b) = false := by simpa using h2
   go_enter Tryz.func44,Tryz.ntmps44
   go_wp2
   go_ret
   exact ⟨rfl,rfl⟩
 ·rw [inB_no (by omega)]
  have h3 : decide (a ≤ x) = false := by simpa using h1
  go_enter Tryz.func44,Tryz.ntmps44
  go_wp2
  go_ret
  exact ⟨rfl,rfl⟩
theorem enKey_bytes {s : ByteArray} (h : 1 ≤ s.size) : s.toList.isEmpty = false := not_emptyE h
set_option maxHeartbeats 1000000 in
theorem keyE_any (w : World) (s : ByteArray) (hs : s.size ≤ 1099511627776) :
  Calls Tryz.prog 120 #[.string s] w fun e w' => e = .returned (.bool (enKey s)) ∧ w = w' := by
 by_cases h : 1 ≤ s.size
 ·have h1 := enKey_bytes h
  have HK : Hid (enKey s = decide ((s.size : Int) ≤ 30)) := by
   show _ = _
   unfold enKey
   by_cases h' : s.size ≤ 30
   ·rw [decide_eq_true (⟨h,h'⟩ : 1 ≤ s.size ∧ s.size ≤ 30),decide_eq_true (by omega)]
   ·rw [decide_eq_false (by omega),decide_eq_false (by omega)]
  clear h
  go_enter Tryz.func120,Tryz.ntmps120
  go_wp2
  go_ret
  exact ⟨by rw [HK.out]; rfl,rfl⟩
 ·have h0 : s = ⟨#[]⟩ := size_zeroE (by omega)
  subst h0
  go_enter Tryz.func120,Tryz.ntmps120
  go_wp2
  go_ret
  exact ⟨rfl,rfl⟩
theorem numE_any (n : Int) (w : World) :
  Calls Tryz.prog 86 #[.int .i64 n] w fun e w' => e = .returned (.bool (inB n 0 1000000000)) ∧ w = w' := by
 by_cases h1 : 0 ≤ n
 ·have d1 : decide ((0 : Int) ≤ n) = true := decide_eq_true h1
  by_cases h2 : n ≤ 1000000000
  ·rw [inB_yes h1 h2]
   have d2 : decide (n ≤ 1000000000) = true := decide_eq_true h2
   go_enter Tryz.func86,Tryz.ntmps86
   go_wp2
   go_ret
   exact ⟨rfl,rfl⟩
  ·rw [inB_no (by omega)]
   have d2 : decide (n ≤ 1000000000) = false := decide_eq_false h2
   go_enter Tryz.func86,Tryz.ntmps86
   go_wp2
   go_ret
   exact ⟨rfl,rfl⟩
 ·rw [inB_no (by omega)]
  have d1 : decide ((0 : Int) ≤ n) = false := decide_eq_false h1
  go_enter Tryz.func86,Tryz.ntmps86
  go_wp2
  go_ret
  exact ⟨rfl,rfl⟩
theorem lifeE_any (x : Int) (w : World) :
  Calls Tryz.prog 157 #[.int .i64 x] w fun e w' => e = .returned (.bool (inB x 0 999999)) ∧ w = w' := by
 by_cases h1 : 0 ≤ x
 ·have d1 : decide ((0 : Int) ≤ x) = true := decide_eq_true h1
  by_cases h2 : x ≤ 999999
  ·rw [inB_yes h1 h2]
   have h3 : decide (x ≤ 999999) = true := decide_eq_true h2
   go_enter Tryz.func157,Tryz.ntmps157
   go_wp2
   go_ret
   exact ⟨rfl,rfl⟩
  ·rw [inB_no (by omega)]
   have h3 : decide (x ≤ 999999) = false := decide_eq_false h2
   go_enter Tryz.func157,Tryz.ntmps157
   go_wp2
   go_ret
   exact ⟨rfl,rfl⟩
 ·rw [inB_no (by omega)]
  have h3 : decide (0 ≤ x) = false := decide_eq_false h1
  go_enter Tryz.func157,Tryz.ntmps157
  go_wp2
  go_ret
  exact ⟨rfl,rfl⟩
set_option maxHeartbeats 2000000 in
theorem implEntryOk_any (w : World) (k b : ByteArray) (s l : Int) (hk : k.size ≤ 1099511627776) (hb : b.size ≤ 1099511627776) :
  Calls Tryz.prog 124 #[.agg #[.string k,.int .i64 s,.int .i64 l,.string b]] w fun e w' => e = .returned (.bool (enOk ⟨k,s,l,b⟩)) ∧ Below w.heap.size w w' := by
 unfold enOk
 dsimp only
 have hbel := (Below.refl w.heap.size w).alloc (Nat.le_refl _) (.cells #[.string k,.int .i64 s,.int .i64 l,.string b] 69)
 have c1 := fun w => keyE_any w k hk
 have c2 := fun w => numE_any s w
 have c3 := fun w => lifeE_any l w
 have e3 : (decide (0 < l) && inB l 0 999999) = inB l 1 999999 := by
  unfold inB
  by_cases h : 0 < l
  ·rw [decide_eq_true h,decide_eq_true (show (0 : Int) ≤ l by omega),decide_eq_true (show (1 : Int) ≤ l by omega)]; rfl
  ·rw [decide_eq_false h,decide_eq_false (show ¬ (1 : Int) ≤ l by omega)]; rfl
 rw [← e3]
 clear e3 hk
 generalize enKey k = x1 at c1 ⊢
 generalize inB s 0 1000000000 = x2 at c2 ⊢
 generalize inB l 0 999999 = x3 at c3 ⊢
 have e4 : decide (b.size ≤ 400) = decide ((b.size : Int) ≤ 400) := decide_eq_decide.2 (by omega)
 rw [e4]
 cases x1
 case false =>
  go_enter Tryz.func124,Tryz.ntmps124
  go_wp2_with (go_at_call 120; refine (c1 _).mono ?_; rintro e w' ⟨rfl,rfl⟩)
  go_ret
  exact ⟨rfl,hbel⟩
 cases x2
 case false =>
  go_enter Tryz.func124,Tryz.ntmps124
  go_wp2_with (first | (go_at_call 120; refine (c1 _).mono ?_; rintro e w' ⟨rfl,rfl⟩) | (go_at_call 86; refine (c2 _).mono ?_; rintro e w' ⟨rfl,rfl⟩))
  go_ret
  exact ⟨rfl,hbel⟩
 by_cases hl : 0 < l
 case neg =>
  rw [decide_eq_false hl]
  have hl' : decide (0 < l) = false := decide_eq_false hl
  go_enter Tryz.func124,Tryz.ntmps124
  go_wp2_with (first | (go_at_call 120; refine (c1 _).mono ?_; rintro e w' ⟨rfl,rfl⟩) | (go_at_call 86; refine (c2 _).mono ?_; rintro e w' ⟨rfl,rfl⟩))
  go_ret
  exact ⟨rfl,hbel⟩
 rw [decide_eq_true hl]
 have hl' : decide (0 < l) = true := decide_eq_true hl
 cases x3
 all_goals
  go_enter Tryz.func124,Tryz.ntmps124
  go_wp2_with (first | (go_at_call 120; refine (c1 _).mono ?_; rintro e w' ⟨rfl,rfl⟩) | (go_at_call 86; refine (c2 _).mono ?_; rintro e w' ⟨rfl,rfl⟩) | (go_at_call 157; refine (c3 _).mono ?_; rintro e w' ⟨rfl,rfl⟩))
  go_ret
  exact ⟨rfl,hbel⟩
theorem l13KeyE_any (w : World) (s : ByteArray) :
  Calls Tryz.prog 45 #[.string s] w fun e w' => e = .returned (.bool (enKey s)) ∧ w = w' := by
 have c := l01In_any (s.size : Int) 1 30 w
 have e : inB (s.size : Int) 1 30 = enKey s := by
  unfold inB enKey
  by_cases h1 : 1 ≤ s.size
  ·by_cases h2 : s.size ≤ 30
   ·rw [decide_eq_true (show 1 ≤ s.size ∧ s.size ≤ 30 from ⟨h1,h2⟩),decide_eq_true (show (1 : Int) ≤ s.size by omega),decide_eq_true (show (s.size : Int) ≤ 30 by omega)]; rfl
   ·rw [decide_eq_false (show ¬ (1 ≤ s.size ∧ s.size ≤ 30) by omega),decide_eq_false (show ¬ (s.size : Int) ≤ 30 by omega)]; simp
  ·rw [decide_eq_false (show ¬ (1 ≤ s.size ∧ s.size ≤ 30) by omega),decide_eq_false (show ¬ (1 : Int) ≤ s.size by omega)]; rfl
 rw [e] at c
 clear e
 go_enter Tryz.func45,Tryz.ntmps45
 go_wp2_with (go_at_call 44; refine c.mono ?_; rintro e w' ⟨rfl,rfl⟩)
 go_ret
 exact ⟨rfl,rfl⟩
set_option maxHeartbeats 2000000 in
theorem specEntryOk_any (w : World) (k b : ByteArray) (s l : Int) :
  Calls Tryz.prog 80 #[.agg #[.string k,.int .i64 s,.int .i64 l,.string b]] w fun e w' => e = .returned (.bool (enOk ⟨k,s,l,b⟩)) ∧ Below w.heap.size w w' := by
 unfold enOk
 dsimp only
 have hbel := (Below.refl w.heap.size w).alloc (Nat.le_refl _) (.cells #[.string k,.int .i64 s,.int .i64 l,.string b] 69)
 have c1 := fun w => l13KeyE_any w k
 have c2 := fun w => l01In_any s 0 1000000000 w
 have c3 := fun w => l01In_any l 1 999999 w
 generalize enKey k = x1 at c1 ⊢
 generalize inB s 0 1000000000 = x2 at c2 ⊢
 generalize inB l 1 999999 = x3 at c3 ⊢
 have e4 : decide (b.size ≤ 400) = decide ((b.size : Int) ≤ 400) := decide_eq_decide.2 (by omega)
 rw [e4]
 cases x1 <;> cases x2 <;> cases x3
 all_goals
  go_enter Tryz.func80,Tryz.ntmps80
  go_wp2_with (first | (go_at_call 45; refine (c1 _).mono ?_; rintro e w' ⟨rfl,rfl⟩) | (go_at_call 44; first | (with_reducible refine (c2 _).mono ?_; rintro e w' ⟨rfl,rfl⟩) | (with_reducible refine (c3 _).mono ?_; rintro e w' ⟨rfl,rfl⟩)))
  go_ret
  exact ⟨rfl,hbel⟩
end Go.Proofs.YtpgcfgbhkodmeaaGreatDoor
