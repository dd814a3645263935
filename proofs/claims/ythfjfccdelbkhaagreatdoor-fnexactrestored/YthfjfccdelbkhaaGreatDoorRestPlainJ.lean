/- Texts that stand in one: RestPlain, FreshOnesI, EntCopyI. -/
import Derived.Test.YthfjfccdelbkhaaGreatDoorPxPlainJ
import Derived.Test.YthfjfccdelbkhaaGreatDoorRet9XJ
import Derived.Test.YthfjfccdelbkhaaGreatDoorPolSzTextJ
import Derived.Deep.AppendLies
import Derived.Deep.RegionLaw
namespace Go.Proofs.YthfjfccdelbkhaaGreatDoor
open Go.RowKit Go.Sort
theorem touchP_stay {P : Pol} {key k : ByteArray} (hs : hasP P k = true) (hn : k ≠ (touchP P key).2) : hasP (touchP P key).1 k = true := by
 have hm : k ∈ P.win ∨ k ∈ P.main := by
  unfold hasP at hs
  rw [Bool.or_eq_true,inL_iff,inL_iff] at hs
  exact hs
 have toQ : ∀ Q : Pol,k ∈ Q.win ∨ k ∈ Q.main → hasP Q k = true := fun Q h => by
  unfold hasP
  rw [Bool.or_eq_true,inL_iff,inL_iff]
  exact h
 have wk : ∀ l : List ByteArray,k ∈ l → k ∈ without l key ++ [key] := fun l h => by
  by_cases e : k = key
  ·rw [e]; simp
  ·exact List.mem_append_left _ (without_mem.2 ⟨h,e⟩)
 revert hn
 unfold touchP
 by_cases h0 : (okP P && keyOk key) = true
 ·rw [if_pos h0]
  by_cases h1 : inL P.win key = true
  ·rw [if_pos h1]
   intro _
   exact toQ _ (hm.imp (wk _) id)
  rw [if_neg h1]
  by_cases h2 : inL P.main key = true
  ·rw [if_pos h2]
   intro _
   exact toQ _ (hm.imp id (wk _))
  rw [if_neg h2]
  by_cases h3 : P.win.length + 1 ≤ 2
  ·rw [if_pos h3]
   intro _
   exact toQ _ (hm.imp (fun h => List.mem_append_left _ h) id)
  rw [if_neg h3]
  obtain ⟨win,main,sk⟩ := P
  dsimp only at h3 hm ⊢
  cases win with
  | nil => simp at h3
  | cons f r =>
   have e2 : ((f :: r) ++ [key]).tail = r ++ [key] := rfl
   have e3 : (f :: r : List ByteArray).getD 0 noKey = f := rfl
   rw [e2,e3]
   have hm2 : k = f ∨ k ∈ r ++ [key] ∨ k ∈ main := by
    rcases hm with h | h
    ·rcases List.mem_cons.1 h with h | h
     ·exact Or.inl h
     ·exact Or.inr (Or.inl (List.mem_append_left _ h))
    ·exact Or.inr (Or.inr h)
   unfold pushP
   by_cases h4 : main.length < 4
   ·rw [if_pos h4]
    intro _
    rcases hm2 with h | h | h
    ·exact toQ _ (Or.inr (by rw [h]; simp))
    ·exact toQ _ (Or.inl h)
    ·exact toQ _ (Or.inr (List.mem_append_left _ h))
   rw [if_neg h4]
   split
   ·intro hn
    dsimp only at hn
    rcases hm2 with h | h | h
    ·exact toQ _ (Or.inr (by rw [h]; simp))
    ·exact toQ _ (Or.inl h)
    ·cases main with
     | nil => cases h
     | cons a b =>
      rcases List.mem_cons.1 h with h | h
      ·exact absurd h hn
      ·exact toQ _ (Or.inr (List.mem_append_left _ h))
   ·intro hn
    dsimp only at hn
    rcases hm2 with h | h | h
    ·exact absurd h hn
    ·exact toQ _ (Or.inl h)
    ·exact toQ _ (Or.inr h)
 ·rw [if_neg h0]
  intro _
  exact toQ _ hm
structure KeepJ (R : Prx) : Prop where
 pol : okP R.pol = true
 up : UpK R.ents
 ents : ∀ x ∈ R.ents,enOk x = true ∧ hasP R.pol x.key = true
theorem enOk_keyOk {e : En} (h : enOk e = true) : keyOk e.key = true := by
 obtain ⟨h1,h2,_⟩ := enOk_iff.1 h
 unfold keyOk
 rw [decide_eq_true_eq]
 omega
theorem KeepJ.has {R : Prx} (H : KeepJ R) {e : En} (he : enOk e = true) : keepB R e = true := (touchP_right H.pol (enOk_keyOk he)).2.1
theorem KeepJ.keep {R : Prx} (H : KeepJ R) {e : En} (he : enOk e = true) : KeepJ (keepR R e) := by
 obtain ⟨h1,h2,_⟩ := touchP_right H.pol (enOk_keyOk he)
 rw [keepR_yes (H.has he)]
 refine ⟨h1,insE_up (offE_up _ H.up) _,fun x hx => ?_⟩
 rcases mem_insE.1 hx with rfl | ⟨hx,_⟩
 ·exact ⟨he,h2⟩
 ·obtain ⟨hx,hne⟩ := offE_mem hx
  exact ⟨(H.ents x hx).1,touchP_stay (H.ents x hx).2 hne⟩
theorem nodup_fit : ∀ {l m : List ByteArray},l.Nodup → (∀ k ∈ l,k ∈ m) → l.length ≤ m.length
 | [],_,_,_ => Nat.zero_le _
 | a :: r,m,h,hs => by
  rw [List.nodup_cons] at h
  obtain ⟨s,t,rfl⟩ := List.append_of_mem (hs a (by simp))
  have h1 := nodup_fit (m := s ++ t) h.2 (fun k hk => by
   have h2 := hs k (List.mem_cons_of_mem _ hk)
   rcases List.mem_append.1 h2 with h2 | h2
   ·exact List.mem_append_left _ h2
   ·rcases List.mem_cons.1 h2 with h2 | h2
    ·subst h2; exact absurd hk h.1
    ·exact List.mem_append_right _ h2)
  simp only [List.length_append,List.length_cons] at h1 ⊢
  omega
theorem KeepJ.len {R : Prx} (H : KeepJ R) : R.ents.length ≤ 6 := by
 obtain ⟨_,_,_,_,_,hw,hm,_⟩ := okP_iff.1 H.pol
 have h1 : (R.ents.map (·.key)).Nodup := by
  rw [List.nodup_iff_pairwise_ne,List.pairwise_map]
  exact H.up.imp fun h e => by rw [e,ltS_irr] at h; cases h
 have h2 : ∀ k ∈ R.ents.map (·.key),k ∈ R.pol.win ++ R.pol.main := fun k hk => by
  obtain ⟨x,hx,rfl⟩ := List.mem_map.1 hk
  have h := (H.ents x hx).2
  unfold hasP at h
  rw [Bool.or_eq_true,inL_iff,inL_iff] at h
  exact List.mem_append.2 h
 have h3 := nodup_fit h1 h2
 rw [List.length_map,List.length_append] at h3
 omega
theorem KeepJ.sz {R : Prx} (H : KeepJ R) (hf : R.fes = []) (hc : R.cls = []) : wgtX R ≤ 4000 ∧ ewg R.ents ≤ 2600 := by
 have hp := okP_wgt H.pol
 have he := ewg_le (b := 430) (L := R.ents) (fun e he => by
  obtain ⟨h1,_,_,h4⟩ := enOk_iff.1 (H.ents e he).1
  unfold En.wg; omega)
 have l1 := H.len
 have e1 : R.ents.length * 430 ≤ 6 * 430 := Nat.mul_le_mul_right _ (by omega)
 unfold wgtX
 rw [hf,hc]
 simp only [ftwg,clwg,List.length_nil]
 omega
def restZ (now : Int) : Prx := ⟨now, [],newP, [], [], 0⟩
def restL (now : Int) (L : List En) : Prx := L.foldl keepR (restZ now)
theorem restZ_J (now : Int) : KeepJ (restZ now) := ⟨newP_ok,List.Pairwise.nil,fun x hx => by cases hx⟩
theorem restL_snoc (now : Int) (L : List En) (e : En) : restL now (L ++ [e]) = keepR (restL now L) e := by unfold restL; rw [List.foldl_append]; rfl
theorem restL_J (now : Int) : ∀ (n : Nat) (L : List En),L.length = n → (∀ x ∈ L,enOk x = true) → KeepJ (restL now L) ∧ (restL now L).fes = [] ∧ (restL now L).cls = [] ∧ (restL now L).now = now ∧ (restL now L).hits = 0
 | 0,L,hl,_ => by
  rw [List.length_eq_zero_iff] at hl
  subst hl
  exact ⟨restZ_J now,rfl,rfl,rfl,rfl⟩
 | n + 1,L,hl,h => by
  obtain ⟨M,e,rfl⟩ : ∃ M e,L = M ++ [e] := ⟨L.dropLast,L.getLast (by intro e; subst e; simp at hl),(List.dropLast_concat_getLast _).symm⟩
  have hM := restL_J now n M (by simp at hl; exact hl) (fun x hx => h x (List.mem_append_left _ hx))
  rw [restL_snoc]
  exact ⟨hM.1.keep (h e (by simp)),hM.2⟩
def freshL (now : Int) (L : List En) : List En := L.filter fun e => enFresh e now
def restR (now : Int) (L : List En) : Prx := restL now (freshL now L)
theorem enFresh_ok {e : En} {now : Int} (h : enFresh e now = true) : enOk e = true := by
 unfold enFresh at h
 rw [Bool.and_eq_true] at h
 exact h.1
theorem freshL_ok {now : Int} {L : List En} : ∀ x ∈ freshL now L,enOk x = true := fun _ hx => enFresh_ok (List.mem_filter.1 hx).2
set_option maxRecDepth 100000 in
set_option maxHeartbeats 4000000 in
theorem freshOnes_any (w : World) (a : Option Addr) (c : Nat) (L : List En) (now : Int) (hL : NAt w a L w.heap.size) (hm : L.length ≤ 1048576) (hz : ∀ x ∈ L,x.key.size ≤ 1048576 ∧ x.bd.size ≤ 1048576) :
  Calls Tryz.prog 20 #[.slice a L.length c,.int .i64 now] w fun e' w' => ∃ v,e' = .returned v ∧ OwnN w' w.heap.size 47 v (freshL now L) ∧ Below w.heap.size w w' := by
 obtain ⟨wb,hwb⟩ : ∃ wb,wb = w := ⟨_,rfl⟩
 subst hwb
 have HD : Hid (∀ wi,Below wb.heap.size wb wi → NAt wi a L wi.heap.size) := fun wi hi => hL.on hi
 have HZ : Hid (∀ x ∈ L,x.key.size ≤ 1048576 ∧ x.bd.size ≤ 1048576) := hz
 have HBd : Hid (Below wb.heap.size wb wb) := Below.refl _ _
 have HO : Hid (OwnN wb wb.heap.size 47 (.slice none 0 0) []) := ownN_nil _ _ _
 clear hL hz
 go_enter Tryz.func20,Tryz.ntmps20
 go_wp2_with fail
 go_loopw [5, 10] (fun s i wr => Box (∃ (k : Nat) (v : Value),k ≤ L.length ∧ i = .int .i64 k ∧ v = s ∧ Below wb.heap.size wb wr ∧ OwnN wr wb.heap.size 47 v ((L.take k).filter fun x => enFresh x now)))
  (fun _ i _ => L.length - (intOf i).toNat)
 case atStart => exact ⟨⟨0,_,by omega,rfl,rfl,HBd.out,HO.out⟩⟩
 case round =>
  obtain ⟨k,v,hk,rfl,hsv,hbel,hown⟩ := hrel.out
  subst hsv
  by_cases hlt : k < L.length
  ·obtain ⟨g,off,rfl,hg,hc0,hc1,hc2,hc3⟩ := HD.out wr hbel k hlt
   have hzk := HZ.out L[k] (List.getElem_mem hlt)
   obtain ⟨x,hx⟩ : ∃ x,L[k] = x := ⟨_,rfl⟩
   rw [hx] at hc0 hc1 hc2 hc3 hzk
   have hi1 : (0 : Int) ≤ (k : Int) := by omega
   have hi2 : (k : Int) < (L.length : Int) := by omega
   have HF : Hid (L[k] = x) := hx
   have HK : Hid (k < L.length) := hlt
   have HOW : Hid (Below wb.heap.size wb wr ∧ OwnN wr wb.heap.size 47 v ((L.take k).filter fun x => enFresh x now)) := ⟨hbel,hown⟩
   have hlenf := filterN_len L (fun x => enFresh x now) k
   clear hx hown hrel hbel
   obtain ⟨we,hwe⟩ : ∃ we,wr.alloc (.cells #[.string x.key,.int .i64 x.st,.int .i64 x.lf,.string x.bd] 47) = we := ⟨_,rfl⟩
   obtain ⟨T,hT⟩ : ∃ T,wr.heap.size = T := ⟨_,rfl⟩
   have HE1 : Hid (EnB we T 47 x ∧ Below wb.heap.size wb we ∧ OwnN we wb.heap.size 47 v ((L.take k).filter fun x => enFresh x now)) := by
    rw [← hwe, ← hT]
    exact ⟨EnB.new wr _ x,HOW.out.1.alloc HOW.out.1.size _,HOW.out.2.below ((Below.refl _ _).alloc (Nat.le_refl _) _) (Nat.le_refl _)⟩
   have HWE : Hid (wr.alloc (.cells #[.string x.key,.int .i64 x.st,.int .i64 x.lf,.string x.bd] 47) = we) := hwe
   obtain ⟨x0,x1,x2,x3⟩ := HE1.out.1.cells
   rw [← hwe] at x0 x1 x2 x3
   clear hwe HOW
   have cF := implFreshAt_any we x.key x.bd x.st x.lf now (by omega) (by omega)
   have hfe : (⟨x.key,x.st,x.lf,x.bd⟩ : En) = x := rfl
   rw [hfe] at cF
   obtain ⟨b,hb⟩ : ∃ b,enFresh x now = b := ⟨_,rfl⟩
   rw [hb] at cF
   have HFB : Hid (enFresh x now = b) := hb
   clear hb hfe hzk
   go_wp2_with fail
   rw [HWE.out]
   refine cF.mono ?_
   rintro e' w4 ⟨rfl,hb4⟩
   have HB4 : Hid (EnB w4 T 47 x ∧ Below wb.heap.size wb w4 ∧ OwnN w4 wb.heap.size 47 v ((L.take k).filter fun x => enFresh x now)) := ⟨HE1.out.1.on hb4,HE1.out.2.1.trans (hb4.mono HE1.out.2.1.size),HE1.out.2.2.below hb4 (Nat.le_refl _)⟩
   clear cF hb4 HE1 HWE hc0 hc1 hc2 hc3 x0 x1 x2 x3 hg
   try rw [hT]
   cases b with
   | false =>
    have HN : Hid (((L.take (k + 1)).filter fun x => enFresh x now) = (L.take k).filter fun x => enFresh x now) := filterN_off (p := fun x => enFresh x now) HK.out HF.out HFB.out
    go_wp2_with fail
    go_roundw
    case rel =>
     try ((repeat apply Exists.intro); refine ⟨?_,rfl⟩)
     exact ⟨⟨k + 1,v,by have := HK.out; omega,by go_num,rfl,HB4.out.2.1,by rw [HN.out]; exact HB4.out.2.2⟩⟩
    case measure => have := HK.out; simp [intOf]; omega
   | true =>
    obtain ⟨x0,x1,x2,x3⟩ := HB4.out.1.cells
    go_wp2_with (at_builtin; refine wpList_plusN rfl (.tmp 17) (.tmp 19) 24 rfl wb.heap.size 47 Tryz.underlying24 Tryz.infoEnW v ((L.take k).filter fun x => enFresh x now) rfl HB4.out.2.2 [x] _ rfl rfl (by simp only [List.length_singleton]; omega) HB4.out.2.1.size ?_; intro v2 w2 ho2 hg2)
    have HB2 : Hid (Below wb.heap.size wb w2) := Below.grown HB4.out.2.1 hg2 HB4.out.2.1.size (fun j hj => (HB4.out.2.2.lt j hj).1)
    rw [← filterN_on (p := fun x => enFresh x now) HK.out HF.out HFB.out] at ho2
    have HO2 : Hid (OwnN w2 wb.heap.size 47 v2 ((L.take (k + 1)).filter fun x => enFresh x now)) := ho2
    clear hg2 HB4 x0 x1 x2 x3 ho2
    go_wp2_with fail
    go_roundw
    case rel =>
     try ((repeat apply Exists.intro); refine ⟨?_,rfl⟩)
     exact ⟨⟨k + 1,v2,by have := HK.out; omega,by go_num,rfl,HB2.out,HO2.out⟩⟩
    case measure => have := HK.out; simp [intOf]; omega
  ·have hke : k = L.length := by omega
   rw [hke,List.take_length] at hown
   have HOW : Hid (OwnN wr wb.heap.size 47 v (freshL now L) ∧ Below wb.heap.size wb wr) := ⟨hown,hbel⟩
   clear hown hrel hbel
   go_wp2
   go_ret
   exact ⟨_,rfl,HOW.out.1,HOW.out.2⟩
set_option maxRecDepth 100000 in
set_option maxHeartbeats 4000000 in
theorem entryCopy_any (w : World) (x : En) (hs0 : x.key.size ≤ 1048576) (hs1 : x.bd.size ≤ 1048576) :
  Calls Tryz.prog 22 #[.agg #[.string x.key,.int .i64 x.st,.int .i64 x.lf,.string x.bd]] w fun e w' => e = .returned (.agg #[.string x.key,.int .i64 x.st,.int .i64 x.lf,.string x.bd]) ∧ Below w.heap.size w w' := by
 obtain ⟨T,hT⟩ : ∃ T,w.heap.size = T := ⟨_,rfl⟩
 obtain ⟨w0,hw0⟩ : ∃ y,w.alloc (.cells #[.string x.key,.int .i64 x.st,.int .i64 x.lf,.string x.bd] 47) = y := ⟨_,rfl⟩
 obtain ⟨wx,hwx⟩ : ∃ y,w0.alloc (.cells #[.string ⟨#[]⟩,.int .i64 0,.int .i64 0,.string ⟨#[]⟩] 47) = y := ⟨_,rfl⟩
 have hb0 : Below w.heap.size w w0 := by rw [← hw0]; exact (Below.refl _ _).alloc (Nat.le_refl _) _
 have hbx : Below w0.heap.size w0 wx := by rw [← hwx]; exact (Below.refl _ _).alloc (Nat.le_refl _) _
 have s0 : w0.heap.size = T + 1 := by rw [← hw0]; simp [hT]
 have sx : wx.heap.size = T + 2 := by rw [← hwx]; simp; omega
 have hX0 : EnB w0 T 47 x := by rw [← hw0, ← hT]; exact EnB.new _ _ _
 have hXB : EnB wx T 47 x := hX0.on hbx
 have hRB : wx.heap[T + 1]? = some (.cells #[.string ⟨#[]⟩,.int .i64 0,.int .i64 0,.string ⟨#[]⟩] 47 (0, 0)) := by rw [← hwx, ← s0]; exact heap_alloc_new _ _
 have HXW : Hid ((w.alloc (.cells #[.string x.key,.int .i64 x.st,.int .i64 x.lf,.string x.bd] 47)).alloc (.cells #[.string ⟨#[]⟩,.int .i64 0,.int .i64 0,.string ⟨#[]⟩] 47) = wx) := by show _ = _; rw [hw0]; exact hwx
 have HBX : Hid (Below w.heap.size w wx ∧ w.heap.size = T ∧ wx.heap.size = T + 2) := ⟨hb0.trans (hbx.mono hb0.size),hT,sx⟩
 have hdx : Below wx.heap.size wx wx.drew := ⟨rfl,rfl,rfl,Nat.le_refl _,fun _ _ => rfl⟩
 have HCL0 : Hid (∀ wi,Calls Tryz.prog 49 #[.string x.key] wi fun e w' => e = .returned (.string x.key) ∧ Below wi.heap.size wi w') := fun wi => cloneP_any x.key wi hs0
 have HCL1 : Hid (∀ wi,Calls Tryz.prog 49 #[.string x.bd] wi fun e w' => e = .returned (.string x.bd) ∧ Below wi.heap.size wi w') := fun wi => cloneP_any x.bd wi hs1
 have KX : ∀ W,EnB W T 47 x → W.cell? ⟨T, 0,none⟩ = some (.string x.key) ∧ W.cell? ⟨T, 3,none⟩ = some (.string x.bd) := fun W h => ⟨h.cells.1,h.cells.2.2.2⟩
 have HD : Hid (∀ W,Below wx.heap.size wx W → EnB W T 47 x ∧ W.heap[T + 1]? = some (.cells #[.string ⟨#[]⟩,.int .i64 0,.int .i64 0,.string ⟨#[]⟩] 47 (0, 0))) := fun W h => ⟨hXB.on h,(h.block _ (Array.getElem?_eq_some_iff.1 hRB).1).trans hRB⟩
 have hXD := KX _ (HD.out _ hdx).1
 rw [hT]
 clear hw0 hwx hb0 hbx s0 sx hX0 hXB hRB hs0 hs1
 go_enter Tryz.func22,Tryz.ntmps22
 go_upto_region 1 with fail
 rw [HXW.out]
 go_region_held3 (fun W => W.cell? ⟨T, 0,none⟩ = some (.string x.key) ∧ W.cell? ⟨T, 3,none⟩ = some (.string x.bd)) (first | with_reducible exact hXD | with_reducible exact KX _ hD6 | with_reducible exact KX _ hD7 | with_reducible exact hK8 | with_reducible exact hK9)
  (first | (go_at_call 49; first
   | (with_reducible refine (HCL0.out _).mono ?_; rintro e w6 ⟨rfl,hb6⟩; have hC6 := hdx.trans (hb6.mono hdx.size); have hD6 := (HD.out _ hC6).1)
   | (with_reducible refine (HCL1.out _).mono ?_; rintro e w7 ⟨rfl,hb7⟩; have hC7 := hC6.trans (hb7.mono hC6.size); have hD7 := (HD.out _ hC7).1; obtain ⟨d0,d1⟩ := KX _ hD7; have f0 := hD7.thaw 0; have f1 := hD7.thaw 3; have hK8 := KX _ hD7.same1; have hK9 := KX _ hD7.same)))
 have hE9 : EnB ((w7.setCell ⟨T, 0,none⟩ (.string x.key)).setCell ⟨T, 3,none⟩ (.string x.bd)) T 47 x := hD7.same
 have hR9 : ((w7.setCell ⟨T, 0,none⟩ (.string x.key)).setCell ⟨T, 3,none⟩ (.string x.bd)).heap[T + 1]? = some (.cells #[.string ⟨#[]⟩,.int .i64 0,.int .i64 0,.string ⟨#[]⟩] 47 (0, 0)) := by
  rw [Below.heap_setCell _ _ _ _ (by show T + 1 ≠ T; omega),Below.heap_setCell _ _ _ _ (by show T + 1 ≠ T; omega)]
  exact (HD.out _ hC7).2
 have hB9 : Below T w ((w7.setCell ⟨T, 0,none⟩ (.string x.key)).setCell ⟨T, 3,none⟩ (.string x.bd)) := by
  have h := HBX.out.1.trans (hC7.mono HBX.out.1.size)
  rw [HBX.out.2.1] at h
  exact (h.setCell (Nat.le_refl _) _).setCell (Nat.le_refl _) _
 obtain ⟨w9,hw9⟩ : ∃ y,(w7.setCell ⟨T, 0,none⟩ (.string x.key)).setCell ⟨T, 3,none⟩ (.string x.bd) = y := ⟨_,rfl⟩
 rw [hw9] at hE9 hR9 hB9 ⊢
 obtain ⟨u0,u1,u2,u3⟩ := hE9.cells
 have r0 : w9.cell? ⟨T + 1, 0,none⟩ = some (.string ⟨#[]⟩) := by rw [cell_of_row w9 (T + 1) 0 _ _ (0, 0) hR9]; rfl
 have r1 : w9.cell? ⟨T + 1, 1,none⟩ = some (.int .i64 0) := by rw [cell_of_row w9 (T + 1) 1 _ _ (0, 0) hR9]; rfl
 have r2 : w9.cell? ⟨T + 1, 2,none⟩ = some (.int .i64 0) := by rw [cell_of_row w9 (T + 1) 2 _ _ (0, 0) hR9]; rfl
 have r3 : w9.cell? ⟨T + 1, 3,none⟩ = some (.string ⟨#[]⟩) := by rw [cell_of_row w9 (T + 1) 3 _ _ (0, 0) hR9]; rfl
 have tt : ∀ i,w9.frozen? ⟨T + 1,i,none⟩ = false := fun i => by simp [World.frozen?,hR9]
 have t0 := tt 0
 have t1 := tt 1
 have t2 := tt 2
 have t3 := tt 3
 have HF : Hid (EnB ((((w9.setCell ⟨T + 1, 0,none⟩ (.string x.key)).setCell ⟨T + 1, 1,none⟩ (.int .i64 x.st)).setCell ⟨T + 1, 2,none⟩ (.int .i64 x.lf)).setCell ⟨T + 1, 3,none⟩ (.string x.bd)) (T + 1) 47 x) := by
  show EnB _ _ _ _
  unfold EnB
  simp only [World.setCell,Array.getElem?_modify,hR9]
  simp
 have HG : Hid (Below T w ((((w9.setCell ⟨T + 1, 0,none⟩ (.string x.key)).setCell ⟨T + 1, 1,none⟩ (.int .i64 x.st)).setCell ⟨T + 1, 2,none⟩ (.int .i64 x.lf)).setCell ⟨T + 1, 3,none⟩ (.string x.bd))) := (((hB9.setCell (by show T ≤ T + 1; omega) _).setCell (by show T ≤ T + 1; omega) _).setCell (by show T ≤ T + 1; omega) _).setCell (by show T ≤ T + 1; omega) _
 clear hXD hD6 hD7 hC6 hC7 hb6 hb7 d0 d1 f0 f1 hK8 hK9 hE9 hR9 hB9 hw9 HD KX hdx HCL0 HCL1 tt
 go_wp2_with fail
 obtain ⟨q0,q1,q2,q3⟩ := HF.out.cells
 exact bodyPost_ret (v := .agg #[.string x.key,.int .i64 x.st,.int .i64 x.lf,.string x.bd]) (by simp [results,Tryz.results22,go_sem,q0,q1,q2,q3]) rfl ⟨rfl,HG.out⟩
end Go.Proofs.YthfjfccdelbkhaaGreatDoor
