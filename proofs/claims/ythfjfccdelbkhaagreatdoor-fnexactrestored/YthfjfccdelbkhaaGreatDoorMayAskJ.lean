/- Texts that stand in one: MayAsk, AskPlain, AskSame, SpecPut. -/
import Derived.Test.YthfjfccdelbkhaaGreatDoorPxEntsImplJ
import Derived.Test.YthfjfccdelbkhaaGreatDoorRet9XJ
import Derived.Test.YthfjfccdelbkhaaGreatDoorRestIJ
import Derived.Test.YthfjfccdelbkhaaGreatDoorPxPlainJ
import Derived.Test.YthfjfccdelbkhaaGreatDoorRowStepJ
import Derived.Test.YthfjfccdelbkhaaGreatDoorFolderPlainJ
import Derived.Test.YthfjfccdelbkhaaGreatDoorFilesJ
import Derived.Test.YthfjfccdelbkhaaGreatDoorPrxBaseJ
import Derived.Test.YthfjfccdelbkhaaGreatDoorPolSpecJ
import Derived.WalkSmall
import Derived.Deep.RegionWith
import Derived.BigQuiet
import Derived.OpenShut
import Derived.Laws.Cover1
import Derived.Lib.LaidTab
import Derived.Lib.BufferWrite
namespace Go.Proofs.YthfjfccdelbkhaaGreatDoor
open Go.RowKit Go.Sort
theorem offE_filter (E : List En) (key : ByteArray) : (E.filter fun x => !decide (x.key = key)) = offE E key := by
 unfold offE keepX
 refine List.filter_congr fun x _ => ?_
 show (!decide (x.key = key)) = !(eqS x.key key)
 by_cases h : x.key = key
 ·rw [decide_eq_true h,eqS_iff.2 h]
 ·rw [decide_eq_false h]
  cases hb : eqS x.key key with
  | true => exact absurd (eqS_iff.1 hb) h
  | false => rfl
theorem Tryz.infoEnU : (Tryz.prog.info? 47).map (fun i => (i.zero,i.size,i.bytes)) = some (some (.agg #[.string ⟨#[]⟩,.int .i64 0,.int .i64 0,.string ⟨#[]⟩]), 4, 48) := by kernel_rfl
theorem filterU_on {L : List En} {p : En → Bool} {k : Nat} (hk : k < L.length) {x : En} (hx : L[k] = x) (hp : p x = true) : (L.take (k + 1)).filter p = (L.take k).filter p ++ [x] := by
 rw [List.take_succ_eq_append_getElem hk,List.filter_append,hx]; simp [hp]
theorem filterU_off {L : List En} {p : En → Bool} {k : Nat} (hk : k < L.length) {x : En} (hx : L[k] = x) (hp : p x = false) : (L.take (k + 1)).filter p = (L.take k).filter p := by
 rw [List.take_succ_eq_append_getElem hk,List.filter_append,hx]; simp [hp]
theorem filterU_len (L : List En) (p : En → Bool) (k : Nat) : ((L.take k).filter p).length ≤ L.length := by
 have h1 := List.length_filter_le p (L.take k)
 have h2 : (L.take k).length ≤ L.length := by rw [List.length_take]; omega
 omega
set_option maxRecDepth 100000 in
set_option maxHeartbeats 4000000 in
theorem l15PutX_any (w : World) (a : Option Addr) (c : Nat) (L : List En) (e : En) (hL : NAt w a L w.heap.size) (hm : L.length ≤ 100000) :
  Calls Tryz.prog 41 #[.slice a L.length c,.agg #[.string e.key,.int .i64 e.st,.int .i64 e.lf,.string e.bd]] w fun e' w' => ∃ v,e' = .returned v ∧ OwnN w' w.heap.size 47 v (insE L e) ∧ Below w.heap.size w w' := by
 obtain ⟨A,hA⟩ : ∃ A,w.heap.size = A := ⟨_,rfl⟩
 obtain ⟨wb,hwb⟩ : ∃ wb,w.alloc (.cells #[.string e.key,.int .i64 e.st,.int .i64 e.lf,.string e.bd] 47) = wb := ⟨_,rfl⟩
 have hb : Below A w wb := by rw [← hwb, ← hA]; exact (Below.refl _ _).alloc (Nat.le_refl _) _
 have hV : wb.heap.size = A + 1 := by rw [← hwb, ← hA]; simp
 have hx : EnB wb A 47 e := by rw [← hwb, ← hA]; exact EnB.new w _ e
 have HD : Hid (∀ wi,Below wb.heap.size wb wi → (wi.cell? ⟨A, 0,none⟩ = some (.string e.key) ∧ wi.cell? ⟨A, 1,none⟩ = some (.int .i64 e.st) ∧ wi.cell? ⟨A, 2,none⟩ = some (.int .i64 e.lf) ∧ wi.cell? ⟨A, 3,none⟩ = some (.string e.bd)) ∧ NAt wi a L wi.heap.size ∧ Below A w wi ∧ wb.heap.size ≤ wi.heap.size) := by
  intro wi hi
  exact ⟨(hx.on hi).cells,(hL.on (by rw [hA]; exact hb)).on hi,hb.trans (hi.mono (by omega)),hi.size⟩
 obtain ⟨wd,hwd⟩ : ∃ wd,wb.alloc (.cells #[] 47) = wd := ⟨_,rfl⟩
 have HBd : Hid (Below wb.heap.size wb wd) := by show Below _ _ _; rw [← hwd]; exact (Below.refl _ _).alloc (Nat.le_refl _) _
 have HO : Hid (OwnN wd wb.heap.size 47 (.slice (some ⟨A + 1, 0,none⟩) 0 0) []) := by
  show OwnN _ _ _ _ _
  rw [← hwd]
  have h := ownN_new wb 47 [] _ rfl (by simp [maxLen])
  rw [hV] at h ⊢
  exact h
 have HW : Hid (wb.alloc (.cells #[] 47) = wd ∧ w.alloc (.cells #[.string e.key,.int .i64 e.st,.int .i64 e.lf,.string e.bd] 47) = wb) := ⟨hwd,hwb⟩
 have HAV : Hid (A ≤ wb.heap.size) := by show _ ≤ _; omega
 rw [hA]
 clear hwb hb hV hx hwd hL
 go_enter Tryz.func41,Tryz.ntmps41
 go_wp2_with fail
 rw [HW.out.2,HW.out.1]
 go_loopw [5, 6] (fun s i wr => Box (∃ (k : Nat) (v : Value),k ≤ L.length ∧ i = .int .i64 k ∧ v = s ∧ Below wb.heap.size wb wr ∧ OwnN wr wb.heap.size 47 v ((L.take k).filter fun x => ltS x.key e.key)))
  (fun _ i _ => L.length - (intOf i).toNat)
 case atStart => exact ⟨⟨0,_,by omega,rfl,rfl,HBd.out,HO.out⟩⟩
 case round =>
  obtain ⟨k,v,hk,rfl,hsv,hbel,hown⟩ := hrel.out
  subst hsv
  obtain ⟨⟨b0,b1,b2,b3⟩,hLr,_⟩ := HD.out wr hbel
  have HB : Hid (Below wb.heap.size wb wr) := hbel
  by_cases hlt : k < L.length
  ·obtain ⟨g,off,rfl,hg,hc0,hc1,hc2,hc3⟩ := hLr k hlt
   obtain ⟨x,hx⟩ : ∃ x,L[k] = x := ⟨_,rfl⟩
   rw [hx] at hc0 hc1 hc2 hc3
   have hi1 : (0 : Int) ≤ (k : Int) := by omega
   have hi2 : (k : Int) < (L.length : Int) := by omega
   have HF : Hid (L[k] = x) := hx
   have HOW : Hid (OwnN wr wb.heap.size 47 v ((L.take k).filter fun x => ltS x.key e.key)) := hown
   have hlenf := filterU_len L (fun x => ltS x.key e.key) k
   clear hx hown hLr hrel hbel
   cases he : Op.bytesLess x.key.toList e.key.toList with
   | false =>
    have hp : ltS x.key e.key = false := by simp [ltS,he]
    go_wp2
    go_quiet (fail)
    go_wp2
    go_roundw
    case rel =>
     try ((repeat apply Exists.intro); refine ⟨?_,rfl⟩)
     exact ⟨⟨k + 1,v,by omega,by go_num,rfl,HB.out.trans ⟨rfl,rfl,rfl,Nat.le_refl _,fun _ _ => rfl⟩,by rw [filterU_off (p := fun x => ltS x.key e.key) hlt HF.out hp]; exact HOW.out⟩⟩
    case measure => simp [intOf]; omega
   | true =>
    have hp : Hid (ltS x.key e.key = true) := by show _ = _; simp [ltS,he]
    go_wp2
    go_quiet (fail)
    obtain ⟨wq,hwq⟩ : ∃ wq,wr.drewN nq = wq := ⟨_,rfl⟩
    have HQ : Hid (Below wb.heap.size wb wq ∧ OwnN wq wb.heap.size 47 v ((L.take k).filter fun x => ltS x.key e.key)) := by
     rw [← hwq]
     exact ⟨HB.out.trans ⟨rfl,rfl,rfl,Nat.le_refl _,fun _ _ => rfl⟩,HOW.out⟩
    have d0 : wq.cell? ⟨g,off + k * 4,none⟩ = some (.string x.key) := by rw [← hwq]; exact hc0
    have d1 : wq.cell? ⟨g,off + k * 4 + 1,none⟩ = some (.int .i64 x.st) := by rw [← hwq]; exact hc1
    have d2 : wq.cell? ⟨g,off + k * 4 + 2,none⟩ = some (.int .i64 x.lf) := by rw [← hwq]; exact hc2
    have d3 : wq.cell? ⟨g,off + k * 4 + 3,none⟩ = some (.string x.bd) := by rw [← hwq]; exact hc3
    rw [hwq]
    clear hwq hc0 hc1 hc2 hc3 HOW HB b0 b1 b2 b3
    go_wp2_with (at_builtin; refine wpList_plusN rfl (.tmp 23) (.tmp 28) 24 rfl wb.heap.size 47 Tryz.underlying24 Tryz.infoEnU v ((L.take k).filter fun x => ltS x.key e.key) rfl HQ.out.2 [x] _ rfl rfl (by simp only [List.length_singleton]; omega) HQ.out.1.size ?_; intro v2 w2 ho2 hg2)
    have HB2 : Hid (Below wb.heap.size wb w2) := Below.grown HQ.out.1 hg2 HQ.out.1.size (fun j hj => (HQ.out.2.lt j hj).1)
    rw [← filterU_on (p := fun x => ltS x.key e.key) hlt HF.out hp.out] at ho2
    clear hg2 HQ
    go_roundw
    case rel =>
     try ((repeat apply Exists.intro); refine ⟨?_,rfl⟩)
     exact ⟨⟨k + 1,v2,by omega,by go_num,rfl,HB2.out,ho2⟩⟩
    case measure => simp [intOf]; omega
  ·have hke : k = L.length := by omega
   rw [hke,List.take_length] at hown
   have HOW : Hid (OwnN wr wb.heap.size 47 v (L.filter fun x => ltS x.key e.key)) := hown
   have hlenf := List.length_filter_le (fun x : En => ltS x.key e.key) L
   clear hown hLr hrel hbel
   go_wp2_with (at_builtin; refine wpList_plusN rfl (.tmp 30) (.tmp 32) 24 rfl wb.heap.size 47 Tryz.underlying24 Tryz.infoEnU v (L.filter fun x => ltS x.key e.key) rfl HOW.out [e] _ rfl rfl (by simp only [List.length_singleton]; omega) HB.out.size ?_; intro v2 w2 ho2 hg2)
   have HB2 : Hid (Below wb.heap.size wb w2) := Below.grown HB.out hg2 HB.out.size (fun j hj => (HOW.out.lt j hj).1)
   have HO2 : Hid (OwnN w2 wb.heap.size 47 v2 ((L.filter fun x => ltS x.key e.key) ++ [e] ++ (L.take 0).filter fun x => ltS e.key x.key)) := by show OwnN _ _ _ _ _; simpa using ho2
   clear hg2 ho2 HOW HB b0 b1 b2 b3
   go_wp2
   go_loopw [5, 7] (fun s i wr => Box (∃ (k : Nat) (v : Value),k ≤ L.length ∧ i = .int .i64 k ∧ v = s ∧ Below wb.heap.size wb wr ∧ OwnN wr wb.heap.size 47 v ((L.filter fun x => ltS x.key e.key) ++ [e] ++ (L.take k).filter fun x => ltS e.key x.key)))
    (fun _ i _ => L.length - (intOf i).toNat)
   case atStart => exact ⟨⟨0,_,by omega,rfl,rfl,HB2.out,HO2.out⟩⟩
   case round =>
    obtain ⟨k,v,hk,rfl,hsv,hbel,hown⟩ := hrel.out
    subst hsv
    obtain ⟨⟨b0,b1,b2,b3⟩,hLr,hAw,_⟩ := HD.out wr hbel
    have HB : Hid (Below wb.heap.size wb wr ∧ Below A w wr) := ⟨hbel,hAw⟩
    by_cases hlt : k < L.length
    ·obtain ⟨g,off,rfl,hg,hc0,hc1,hc2,hc3⟩ := hLr k hlt
     obtain ⟨x,hx⟩ : ∃ x,L[k] = x := ⟨_,rfl⟩
     rw [hx] at hc0 hc1 hc2 hc3
     have hi1 : (0 : Int) ≤ (k : Int) := by omega
     have hi2 : (k : Int) < (L.length : Int) := by omega
     have HF : Hid (L[k] = x) := hx
     have HOW : Hid (OwnN wr wb.heap.size 47 v ((L.filter fun x => ltS x.key e.key) ++ [e] ++ (L.take k).filter fun x => ltS e.key x.key)) := hown
     have hlen3 : ((L.filter fun x => ltS x.key e.key) ++ [e] ++ (L.take k).filter fun x => ltS e.key x.key).length ≤ 1999999 - 1 := by
      have := filterU_len L (fun x => ltS e.key x.key) k
      simp only [List.length_append,List.length_singleton]
      have := hm
      omega
     clear hx hown hLr hrel hbel hAw
     cases he : (Op.bytesLess x.key.toList e.key.toList || x.key.toList == e.key.toList) with
     | true =>
      have hp : ltS e.key x.key = false := by
       have h1 := gtS_iff (a := x.key) (b := e.key)
       rw [← h1]
       simp [ltS,eqS,he]
      go_wp2
      go_quiet (fail)
      go_wp2
      go_roundw
      case rel =>
       try ((repeat apply Exists.intro); refine ⟨?_,rfl⟩)
       exact ⟨⟨k + 1,v,by omega,by go_num,rfl,HB.out.1.trans ⟨rfl,rfl,rfl,Nat.le_refl _,fun _ _ => rfl⟩,by rw [filterU_off (p := fun x => ltS e.key x.key) hlt HF.out hp]; exact HOW.out⟩⟩
      case measure => simp [intOf]; omega
     | false =>
      have hp : Hid (ltS e.key x.key = true) := by
       have h1 := gtS_iff (a := x.key) (b := e.key)
       show _ = _
       rw [← h1]
       simp [ltS,eqS,he]
      go_wp2
      go_quiet (fail)
      obtain ⟨wq,hwq⟩ : ∃ wq,wr.drewN nq = wq := ⟨_,rfl⟩
      obtain ⟨F,hF⟩ : ∃ F,((L.filter fun x => ltS x.key e.key) ++ [e] ++ (L.take k).filter fun x => ltS e.key x.key) = F := ⟨_,rfl⟩
      have HFF : Hid (((L.filter fun x => ltS x.key e.key) ++ [e] ++ (L.take (k + 1)).filter fun x => ltS e.key x.key) = F ++ [x]) := by
       show _ = _
       rw [← hF,filterU_on (p := fun x => ltS e.key x.key) hlt HF.out hp.out,List.append_assoc ((L.filter fun x => ltS x.key e.key) ++ [e])]
      rw [hF] at HOW hlen3
      have HQ : Hid (Below wb.heap.size wb wq ∧ OwnN wq wb.heap.size 47 v F) := by
       rw [← hwq]
       exact ⟨HB.out.1.trans ⟨rfl,rfl,rfl,Nat.le_refl _,fun _ _ => rfl⟩,HOW.out⟩
      have d0 : wq.cell? ⟨g,off + k * 4,none⟩ = some (.string x.key) := by rw [← hwq]; exact hc0
      have d1 : wq.cell? ⟨g,off + k * 4 + 1,none⟩ = some (.int .i64 x.st) := by rw [← hwq]; exact hc1
      have d2 : wq.cell? ⟨g,off + k * 4 + 2,none⟩ = some (.int .i64 x.lf) := by rw [← hwq]; exact hc2
      have d3 : wq.cell? ⟨g,off + k * 4 + 3,none⟩ = some (.string x.bd) := by rw [← hwq]; exact hc3
      rw [hwq]
      clear hwq hF hc0 hc1 hc2 hc3 HOW HB b0 b1 b2 b3
      go_wp2_with (at_builtin; refine wpList_plusN rfl (.tmp 48) (.tmp 53) 24 rfl wb.heap.size 47 Tryz.underlying24 Tryz.infoEnU v F rfl HQ.out.2 [x] _ rfl rfl (by simp only [List.length_singleton]; omega) HQ.out.1.size ?_; intro v2 w2 ho2 hg2)
      have HB2 : Hid (Below wb.heap.size wb w2) := Below.grown HQ.out.1 hg2 HQ.out.1.size (fun j hj => (HQ.out.2.lt j hj).1)
      rw [← HFF.out] at ho2
      clear hg2 HQ
      go_roundw
      case rel =>
       try ((repeat apply Exists.intro); refine ⟨?_,rfl⟩)
       exact ⟨⟨k + 1,v2,by omega,by go_num,rfl,HB2.out,ho2⟩⟩
      case measure => simp [intOf]; omega
    ·have hke : k = L.length := by omega
     rw [hke,List.take_length] at hown
     have hfin : OwnN wr A 47 v (insE L e) := by
      have h := hown.mono HAV.out
      unfold insE
      simpa using h
     clear hown hLr hrel
     go_wp2
     go_ret
     exact ⟨v,rfl,hfin,HB.out.2⟩
end Go.Proofs.YthfjfccdelbkhaaGreatDoor
