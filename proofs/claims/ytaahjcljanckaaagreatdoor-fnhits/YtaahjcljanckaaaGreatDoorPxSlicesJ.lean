/- Texts that stand in one: PxSlices, SpecEntry, Var, EntOk, EntFresh, IdxFet, PxOpen, OnePlain, PxOneImpl, PxFetImpl. -/
import Derived.Test.YtaahjcljanckaaaGreatDoorFindPlainJ
import Derived.Test.YtaahjcljanckaaaGreatDoorPolSzTextJ
import Derived.Test.YtaahjcljanckaaaGreatDoorCliLawJ
import Derived.Test.YtaahjcljanckaaaGreatDoorFilesJ
import Derived.Test.YtaahjcljanckaaaGreatDoorSkBaseJ
import Derived.Test.YtaahjcljanckaaaGreatDoorPolLaw2J
import Derived.Test.YtaahjcljanckaaaGreatDoorReadPlainJ
import Derived.Test.YtaahjcljanckaaaGreatDoorPrxBaseJ
import Derived.Deep.RegionLaw
import Derived.Shelf.Abstract
import Derived.Lib.QuietBelow
import Derived.BigQuiet
namespace Go.Proofs.YtaahjcljanckaaaGreatDoor
open Go.RowKit Go.Sort
theorem CliV.at' {w : World} {a : Option Addr} {c : Nat} {L : List Cli} {B : Nat} (h : CliV w (.slice a L.length c) L B) : CliAt w a L B := by
 obtain ⟨a',c',e,h⟩ := h
 cases e
 exact h
theorem FetV.at' {w : World} {a : Option Addr} {c : Nat} {L : List Fet} {B : Nat} (h : FetV w (.slice a L.length c) L B) : FetAt w a L B := by
 obtain ⟨a',c',e,h⟩ := h
 cases e
 exact h
theorem EnsV.at' {w : World} {a : Option Addr} {c : Nat} {L : List En} {B : Nat} (h : EnsV w (.slice a L.length c) L B) : NAt w a L B := by
 obtain ⟨a',c',e,h⟩ := h
 cases e
 exact h
theorem StrsV.at' {w : World} {a : Option Addr} {c : Nat} {L : List ByteArray} {B : Nat} (h : StrsV w (.slice a L.length c) L B) : LAt w a L B := by
 obtain ⟨a',c',e,h⟩ := h
 cases e
 exact h
theorem SSV.at' {w : World} {a : Option Addr} {c : Nat} {L : List (List Int)} {B : Nat} (h : SSV w (.slice a L.length c) L B) : SSAt w a L B := by
 obtain ⟨a',c',e,h⟩ := h
 cases e
 exact h
theorem PxAt.slices {w : World} {X : Pc} {R : Prx} {B : Nat} (h : PxAt w X R B) : ∃ (e0 : Option Addr) (e1 : Nat) (p0 : Option Addr) (p1 : Nat) (m0 : Option Addr) (m1 : Nat) (k0 : Option Addr) (k1 : Nat) (f0 : Option Addr) (f1 : Nat) (c0 : Option Addr) (c1 : Nat),X = ⟨.slice e0 R.ents.length e1,.slice p0 R.pol.win.length p1,.slice m0 R.pol.main.length m1,.slice k0 R.pol.sk.rows.length k1,.slice f0 R.fes.length f1,.slice c0 R.cls.length c1⟩ := by
 obtain ⟨xe,xw,xm,xk,xf,xc⟩ := X
 obtain ⟨⟨e0,e1,h1,_⟩,⟨w0,w1,h2,_⟩,⟨m0,m1,h3,_⟩,⟨k0,k1,h4,_⟩,⟨f0,f1,h5,_⟩,⟨c0,c1,h6,_⟩⟩ := h
 dsimp only at *
 subst h1 h2 h3 h4 h5 h6
 exact ⟨_,_,_,_,_,_,_,_,_,_,_,_,rfl⟩
theorem PxAt.polAt {w : World} {e0 p0 m0 k0 f0 c0 : Option Addr} {e1 p1 m1 k1 f1 c1 : Nat} {R : Prx} {B : Nat} (h : PxAt w ⟨.slice e0 R.ents.length e1,.slice p0 R.pol.win.length p1,.slice m0 R.pol.main.length m1,.slice k0 R.pol.sk.rows.length k1,.slice f0 R.fes.length f1,.slice c0 R.cls.length c1⟩ R B) : PolAt w p0 m0 k0 R.pol B := ⟨StrsV.at' h.pw,StrsV.at' h.pm,SSV.at' h.pk⟩
theorem PxSz.ents {R : Prx} (h : PxSz R) : ∀ e ∈ R.ents,e.key.size ≤ 1048576 ∧ e.bd.size ≤ 1048576 := fun c hc => by
 obtain ⟨j,hj,rfl⟩ := List.getElem_of_mem hc
 have h1 := ewg_mem hj
 have h2 : wgtX R ≤ 1048576 := h
 unfold wgtX at h2
 unfold En.wg at h1
 omega
theorem PxSz.fes {R : Prx} (h : PxSz R) : ∀ e ∈ R.fes,e.key.size ≤ 1048576 ∧ e.tx.size ≤ 1048576 := fun c hc => by
 obtain ⟨j,hj,rfl⟩ := List.getElem_of_mem hc
 have h1 := ftwg_mem hj
 have h2 : wgtX R ≤ 1048576 := h
 unfold wgtX at h2
 unfold Fet.wg at h1
 omega
theorem PxSz.cls {R : Prx} (h : PxSz R) : ∀ e ∈ R.cls,e.key.size ≤ 1048576 ∧ e.got.size ≤ 1048576 := fun c hc => by
 obtain ⟨j,hj,rfl⟩ := List.getElem_of_mem hc
 have h1 := clwg_mem hj
 have h2 : wgtX R ≤ 1048576 := h
 unfold wgtX at h2
 unfold Cli.wg at h1
 omega
def RoomF (v : Value) (n : Nat) : Prop := ∀ a k c,v = .slice a k c → n ≤ c
theorem PxOwn.roomF {w : World} {lo hi : Nat} {X : Pc} {R : Prx} (h : PxOwn w lo hi X R) : RoomF X.f R.fes.length := fun a k c e => by
 have h' := h.f
 rw [e] at h'
 rcases h'.2 with ⟨e1,hl⟩ | ⟨g',cp,cur,e1,_,_,hle,_⟩
 ·omega
 ·simp only [Value.slice.injEq] at e1
  omega
def entAtX (L : List En) (key : ByteArray) : En × Bool := match L.find? (fun x => decide (x.key = key)) with | some x => (x,true) | none => (⟨⟨#[]⟩, 0, 0,⟨#[]⟩⟩,false)
theorem entAtX_there {L : List En} {key : ByteArray} {k : Nat} (hk : k < L.length) (hno : ∀ j (hj : j < L.length),j < k → ¬ L[j].key = key) (he : L[k].key = key) : entAtX L key = (L[k],true) := by
 have h : L.find? (fun x => decide (x.key = key)) = some L[k] := by
  rw [List.find?_eq_some_iff_getElem]
  exact ⟨by simpa using he,k,hk,rfl,fun j hj => by simpa using hno j (by omega) hj⟩
 unfold entAtX
 rw [h]
end Go.Proofs.YtaahjcljanckaaaGreatDoor
namespace Go.Proofs.YtaahjcljanckaaaGreatDoor
open Go.RowKit
theorem enKey_bytes {s : ByteArray} (h : 1 ≤ s.size) : s.toList.isEmpty = false := not_emptyE h
set_option maxHeartbeats 1000000 in
theorem keyE_any (w : World) (s : ByteArray) (hs : s.size ≤ 1099511627776) :
  Calls Tryz.prog 37 #[.string s] w fun e w' => e = .returned (.bool (enKey s)) ∧ w = w' := by
 by_cases h : 1 ≤ s.size
 ·have h1 := enKey_bytes h
  have HK : Hid (enKey s = decide ((s.size : Int) ≤ 30)) := by
   show _ = _
   unfold enKey
   by_cases h' : s.size ≤ 30
   ·rw [decide_eq_true (⟨h,h'⟩ : 1 ≤ s.size ∧ s.size ≤ 30),decide_eq_true (by omega)]
   ·rw [decide_eq_false (by omega),decide_eq_false (by omega)]
  clear h
  go_enter Tryz.func37,Tryz.ntmps37
  go_wp2
  go_ret
  exact ⟨by rw [HK.out]; rfl,rfl⟩
 ·have h0 : s = ⟨#[]⟩ := size_zeroE (by omega)
  subst h0
  go_enter Tryz.func37,Tryz.ntmps37
  go_wp2
  go_ret
  exact ⟨rfl,rfl⟩
theorem numE_any (n : Int) (w : World) :
  Calls Tryz.prog 27 #[.int .i64 n] w fun e w' => e = .returned (.bool (inB n 0 1000000000)) ∧ w = w' := by
 by_cases h1 : 0 ≤ n
 ·have d1 : decide ((0 : Int) ≤ n) = true := decide_eq_true h1
  by_cases h2 : n ≤ 1000000000
  ·rw [inB_yes h1 h2]
   have d2 : decide (n ≤ 1000000000) = true := decide_eq_true h2
   go_enter Tryz.func27,Tryz.ntmps27
   go_wp2
   go_ret
   exact ⟨rfl,rfl⟩
  ·rw [inB_no (by omega)]
   have d2 : decide (n ≤ 1000000000) = false := decide_eq_false h2
   go_enter Tryz.func27,Tryz.ntmps27
   go_wp2
   go_ret
   exact ⟨rfl,rfl⟩
 ·rw [inB_no (by omega)]
  have d1 : decide ((0 : Int) ≤ n) = false := decide_eq_false h1
  go_enter Tryz.func27,Tryz.ntmps27
  go_wp2
  go_ret
  exact ⟨rfl,rfl⟩
theorem lifeE_any (x : Int) (w : World) :
  Calls Tryz.prog 56 #[.int .i64 x] w fun e w' => e = .returned (.bool (inB x 0 999999)) ∧ w = w' := by
 by_cases h1 : 0 ≤ x
 ·have d1 : decide ((0 : Int) ≤ x) = true := decide_eq_true h1
  by_cases h2 : x ≤ 999999
  ·rw [inB_yes h1 h2]
   have h3 : decide (x ≤ 999999) = true := decide_eq_true h2
   go_enter Tryz.func56,Tryz.ntmps56
   go_wp2
   go_ret
   exact ⟨rfl,rfl⟩
  ·rw [inB_no (by omega)]
   have h3 : decide (x ≤ 999999) = false := decide_eq_false h2
   go_enter Tryz.func56,Tryz.ntmps56
   go_wp2
   go_ret
   exact ⟨rfl,rfl⟩
 ·rw [inB_no (by omega)]
  have h3 : decide (0 ≤ x) = false := decide_eq_false h1
  go_enter Tryz.func56,Tryz.ntmps56
  go_wp2
  go_ret
  exact ⟨rfl,rfl⟩
set_option maxHeartbeats 2000000 in
theorem implEntryOk_any (w : World) (k b : ByteArray) (s l : Int) (hk : k.size ≤ 1099511627776) (hb : b.size ≤ 1099511627776) :
  Calls Tryz.prog 42 #[.agg #[.string k,.int .i64 s,.int .i64 l,.string b]] w fun e w' => e = .returned (.bool (enOk ⟨k,s,l,b⟩)) ∧ Below w.heap.size w w' := by
 unfold enOk
 dsimp only
 have hbel := (Below.refl w.heap.size w).alloc (Nat.le_refl _) (.cells #[.string k,.int .i64 s,.int .i64 l,.string b] 65)
 have c1 := fun w => keyE_any w k hk
 have c2 := fun w => numE_any s w
 have c3 := fun w => lifeE_any l w
 have e3 : (decide (0 < l) && inB l 0 999999) = inB l 1 999999 := by
  unfold inB
  by_cases h : 0 < l
  ·rw [decide_eq_true h,decide_eq_true (show (0 : Int) ≤ l by omega),decide_eq_true (show (1 : Int) ≤ l by omega)]; rfl
  ·rw [decide_eq_false h,decide_eq_false (show ¬ (1 : Int) ≤ l by omega)]; rfl
 rw [← e3]
 clear e3 hk
 generalize enKey k = x1 at c1 ⊢
 generalize inB s 0 1000000000 = x2 at c2 ⊢
 generalize inB l 0 999999 = x3 at c3 ⊢
 have e4 : decide (b.size ≤ 400) = decide ((b.size : Int) ≤ 400) := decide_eq_decide.2 (by omega)
 rw [e4]
 cases x1
 case false =>
  go_enter Tryz.func42,Tryz.ntmps42
  go_wp2_with (go_at_call 37; refine (c1 _).mono ?_; rintro e w' ⟨rfl,rfl⟩)
  go_ret
  exact ⟨rfl,hbel⟩
 cases x2
 case false =>
  go_enter Tryz.func42,Tryz.ntmps42
  go_wp2_with (first | (go_at_call 37; refine (c1 _).mono ?_; rintro e w' ⟨rfl,rfl⟩) | (go_at_call 27; refine (c2 _).mono ?_; rintro e w' ⟨rfl,rfl⟩))
  go_ret
  exact ⟨rfl,hbel⟩
 by_cases hl : 0 < l
 case neg =>
  rw [decide_eq_false hl]
  have hl' : decide (0 < l) = false := decide_eq_false hl
  go_enter Tryz.func42,Tryz.ntmps42
  go_wp2_with (first | (go_at_call 37; refine (c1 _).mono ?_; rintro e w' ⟨rfl,rfl⟩) | (go_at_call 27; refine (c2 _).mono ?_; rintro e w' ⟨rfl,rfl⟩))
  go_ret
  exact ⟨rfl,hbel⟩
 rw [decide_eq_true hl]
 have hl' : decide (0 < l) = true := decide_eq_true hl
 cases x3
 all_goals
  go_enter Tryz.func42,Tryz.ntmps42
  go_wp2_with (first | (go_at_call 37; refine (c1 _).mono ?_; rintro e w' ⟨rfl,rfl⟩) | (go_at_call 27; refine (c2 _).mono ?_; rintro e w' ⟨rfl,rfl⟩) | (go_at_call 56; refine (c3 _).mono ?_; rintro e w' ⟨rfl,rfl⟩))
  go_ret
  exact ⟨rfl,hbel⟩
def enFresh (E : En) (now : Int) : Bool := enOk E && (inB now E.st 1000000000 && decide (now - E.st < E.lf))
theorem enFresh_bad {E : En} {now : Int} (h : enOk E = false) : enFresh E now = false := by unfold enFresh; rw [h]; rfl
set_option maxRecDepth 100000 in
set_option maxHeartbeats 2000000 in
theorem implFreshAt_any (w : World) (k b : ByteArray) (s l now : Int) (hk : k.size ≤ 1099511627776) (hbd : b.size ≤ 1099511627776) :
  Calls Tryz.prog 22 #[.agg #[.string k,.int .i64 s,.int .i64 l,.string b],.int .i64 now] w fun e w' => e = .returned (.bool (enFresh ⟨k,s,l,b⟩ now)) ∧ Below w.heap.size w w' := by
 obtain ⟨wb,hwb⟩ : ∃ wb,w.alloc (.cells #[.string k,.int .i64 s,.int .i64 l,.string b] 65) = wb := ⟨_,rfl⟩
 have hb : Below w.heap.size w wb := by rw [← hwb]; exact (Below.refl _ _).alloc (Nat.le_refl _) _
 obtain ⟨A,hA⟩ : ∃ A,w.heap.size = A := ⟨_,rfl⟩
 have hx : EnB wb A 65 ⟨k,s,l,b⟩ := by rw [← hwb, ← hA]; exact EnB.new w _ ⟨k,s,l,b⟩
 have c0 := implEntryOk_any wb k b s l hk hbd
 obtain ⟨b0,b1,b2,b3⟩ := hx.cells
 dsimp only at b0 b1 b2 b3
 have HX : Hid (EnB wb A 65 ⟨k,s,l,b⟩ ∧ Below w.heap.size w wb ∧ w.heap.size ≤ wb.heap.size) := ⟨hx,hb,hb.size⟩
 clear hx hb hk hbd
 have cI := fun w => numE_any now w
 cases hok : enOk ⟨k,s,l,b⟩
 case false =>
  rw [enFresh_bad hok]
  rw [hok] at c0
  go_enter Tryz.func22,Tryz.ntmps22
  go_wp2_with fail
  refine c0.mono ?_
  rintro e w1 ⟨rfl,hb1⟩
  have HB1 : Hid (Below w.heap.size w w1) := HX.out.2.1.trans (hb1.mono HX.out.2.2)
  clear c0 hb1
  go_wp2_with fail
  go_ret
  exact ⟨rfl,HB1.out⟩
 case true =>
  have HR : Hid (enOk ⟨k,s,l,b⟩ = true) := hok
  obtain ⟨h1,h2,h3,h4⟩ := enOk_iff.1 hok
  dsimp only at h2
  clear h1 h3 h4
  have HF : Hid (enFresh ⟨k,s,l,b⟩ now = (inB now 0 1000000000 && (decide (s ≤ now) && decide (now - s < l)))) := by
   show _ = _
   unfold enFresh inB
   rw [hok]
   by_cases q1 : s ≤ now
   ·by_cases q2 : now ≤ 1000000000
    ·simp only [decide_eq_true q1,decide_eq_true q2,decide_eq_true (show (0 : Int) ≤ now by omega),Bool.true_and]
    ·simp only [decide_eq_false q2,Bool.and_false,Bool.false_and]
   ·simp only [decide_eq_false q1,Bool.false_and,Bool.and_false]
  rw [hok] at c0
  rw [HF.out]
  clear hok HF
  by_cases hin : 0 ≤ now ∧ now ≤ 1000000000
  ·rw [inB_yes hin.1 hin.2] at cI ⊢
   obtain ⟨hi1,hi2⟩ := hin
   by_cases hle : s ≤ now
   ·rw [decide_eq_true hle]
    have hle' : decide (s ≤ now) = true := decide_eq_true hle
    go_enter Tryz.func22,Tryz.ntmps22
    go_wp2_with fail
    refine c0.mono ?_
    rintro e w1 ⟨rfl,hb1⟩
    have hx1 := HX.out.1.on hb1
    have HB1 : Hid (Below w.heap.size w w1) := HX.out.2.1.trans (hb1.mono HX.out.2.2)
    clear c0 hb1 b0 b1 b2 b3
    obtain ⟨b0,b1,b2,b3⟩ := hx1.cells
    dsimp only at b0 b1 b2 b3
    clear hx1
    go_wp2_with (go_at_call 27; refine (cI _).mono ?_; rintro e w2 ⟨rfl,rfl⟩)
    go_ret
    exact ⟨rfl,HB1.out⟩
   ·rw [decide_eq_false hle]
    have hle' : decide (s ≤ now) = false := decide_eq_false hle
    go_enter Tryz.func22,Tryz.ntmps22
    go_wp2_with fail
    refine c0.mono ?_
    rintro e w1 ⟨rfl,hb1⟩
    have hx1 := HX.out.1.on hb1
    have HB1 : Hid (Below w.heap.size w w1) := HX.out.2.1.trans (hb1.mono HX.out.2.2)
    clear c0 hb1 b0 b1 b2 b3
    obtain ⟨b0,b1,b2,b3⟩ := hx1.cells
    dsimp only at b0 b1 b2 b3
    clear hx1
    go_wp2_with (go_at_call 27; refine (cI _).mono ?_; rintro e w2 ⟨rfl,rfl⟩)
    go_ret
    exact ⟨rfl,HB1.out⟩
  ·rw [inB_no hin] at cI ⊢
   clear hin
   go_enter Tryz.func22,Tryz.ntmps22
   go_wp2_with fail
   refine c0.mono ?_
   rintro e w1 ⟨rfl,hb1⟩
   have HB1 : Hid (Below w.heap.size w w1) := HX.out.2.1.trans (hb1.mono HX.out.2.2)
   clear c0 hb1
   go_wp2_with (go_at_call 27; refine (cI _).mono ?_; rintro e w2 ⟨rfl,rfl⟩)
   go_ret
   exact ⟨rfl,HB1.out⟩
end Go.Proofs.YtaahjcljanckaaaGreatDoor
namespace Go.Proofs.YtaahjcljanckaaaGreatDoor
open Go.RowKit Go.Sort
set_option maxHeartbeats 2000000 in
theorem indexFet_any (g : Nat) (lb : Array Value) (p : Fet → Bool) (eg : ∀ args w,(callFunc g args).run Tryz.prog w = .ok (.enter g args) w) (w : World) (a : Option Addr) (cap : Nat) (L : List (Fet)) (hL : FetAt w a L w.heap.size) (hm : L.length ≤ 10000000)
  (hp : ∀ (W : World) (x : Fet),Below w.heap.size w W → Calls Tryz.prog g (#[.agg #[.string x.key,.string x.tx,.int .i64 x.st,.int .i64 x.lf,.int .i64 x.sto]] ++ lb) W fun e w' => e = .returned (.bool (p x)) ∧ Below w.heap.size w w') :
  Calls Tryz.prog 45 #[.slice a L.length cap,.func (.func g) #[] lb] w fun e w' => e = .returned (.int .i64 (idxX p L)) ∧ Below w.heap.size w w' := by
 go_enter Tryz.func45,Tryz.ntmps45
 go_wp2
 go_loopw [5, 8] (fun _ i wr => Box (∃ k : Nat,k ≤ L.length ∧ i = .int .i64 k ∧ Below w.heap.size w wr ∧ ∀ j (hj : j < k) (hl : j < L.length),p L[j] = false))
  (fun _ i _ => L.length - (intOf i).toNat)
 case atStart => exact ⟨⟨0,by omega,rfl,Below.refl _ _,fun j hj => absurd hj (Nat.not_lt_zero _)⟩⟩
 case round =>
  obtain ⟨k,hk,rfl,hb,hno⟩ := hrel.out
  by_cases hlt : k < L.length
  ·obtain ⟨g1,off,rfl,_,hc0,hc1,hc2,hc3,hc4⟩ := (hL.below hb (Nat.le_refl _)) k hlt
   obtain ⟨f,hf⟩ : ∃ f,L[k] = f := ⟨_,rfl⟩
   have HF : Hid (L[k] = f) := hf
   rw [hf] at hc0 hc1 hc2 hc3 hc4
   have hcall := hp wr f hb
   have HNO : Hid (∀ j (hj : j < k) (hl : j < L.length),p L[j] = false) := hno
   clear hL hp hf hno hrel
   have hi1 : (0 : Int) ≤ (k : Int) := by omega
   have hi2 : (k : Int) < (L.length : Int) := by omega
   cases hq : p f with
   | true =>
    rw [hq] at hcall
    go_wp2_with (go_at_fn g; refine hcall.mono ?_; rintro e w' ⟨rfl,hb'⟩)
    go_ret
    refine ⟨?_,hb'⟩
    rw [idxX_hit hlt (by rw [HF.out]; exact hq) (fun j hj => HNO.out j hj (by omega))]
    rfl
   | false =>
    rw [hq] at hcall
    go_wp2_with (go_at_fn g; refine hcall.mono ?_; rintro e w' ⟨rfl,hb'⟩)
    go_roundw
    case rel =>
     try ((repeat apply Exists.intro); refine ⟨?_,rfl⟩)
     refine ⟨⟨k + 1,by omega,by go_num,hb',fun j hj hl => ?_⟩⟩
     by_cases e : j = k
     ·subst e
      rw [HF.out]; exact hq
     ·exact HNO.out j (by omega) hl
    case measure => simp [intOf]; omega
  ·have hi2 : ¬ (k : Int) < (L.length : Int) := by omega
   go_wp2
   go_ret
   refine ⟨?_,hb⟩
   rw [idxX_miss (fun x hx => by
    obtain ⟨j,hj,rfl⟩ := List.getElem_of_mem hx
    exact hno j (by omega) hj)]
   rfl
theorem open1_eg : ∀ args w,(callFunc 46 args).run Tryz.prog w = .ok (.enter 46 args) w := enters_of Tryz.func46 (by kernel_rfl) rfl
set_option maxHeartbeats 2000000 in
theorem open1_any (T : Nat) (f : Fet) (key : ByteArray) (w : World) (hT : w.heap[T]? = some (.cells #[.string key] 9 (0, 0))) :
  Calls Tryz.prog 46 (#[.agg #[.string f.key,.string f.tx,.int .i64 f.st,.int .i64 f.lf,.int .i64 f.sto]] ++ #[.pointer (some ⟨T, 0,none⟩)]) w fun e w' => e = .returned (.bool (openP key f)) ∧ Below w.heap.size w w' := by
 show Calls _ _ #[.agg #[.string f.key,.string f.tx,.int .i64 f.st,.int .i64 f.lf,.int .i64 f.sto],.pointer (some ⟨T, 0,none⟩)] _ _
 have hb1 : Below w.heap.size w (w.alloc (.cells #[.string f.key,.string f.tx,.int .i64 f.st,.int .i64 f.lf,.int .i64 f.sto] 84)) := (Below.refl _ _).alloc (Nat.le_refl _) _
 have p0 : (w.alloc (.cells #[.string f.key,.string f.tx,.int .i64 f.st,.int .i64 f.lf,.int .i64 f.sto] 84)).cell? ⟨T, 0,none⟩ = some (.string key) := by rw [cell_of_row _ T 0 _ _ (0, 0) ((hb1.block T (Array.getElem?_eq_some_iff.1 hT).1).trans hT)]; rfl
 unfold openP eqS
 cases he : (f.key.toList == key.toList) with
 | false =>
  go_enter Tryz.func46,Tryz.ntmps46
  go_wp2_with fail
  go_ret
  exact ⟨rfl,hb1⟩
 | true =>
  go_enter Tryz.func46,Tryz.ntmps46
  go_wp2_with fail
  go_ret
  exact ⟨rfl,hb1⟩
set_option maxHeartbeats 4000000 in
theorem openPlace_any (w : World) (a : Option Addr) (c : Nat) (L : List Fet) (key : ByteArray) (hL : FetAt w a L w.heap.size) (hm : L.length ≤ 10000000) :
  Calls Tryz.prog 24 #[.slice a L.length c,.string key] w fun e w' => e = .returned (.int .i64 (idxX (openP key) L)) ∧ Below w.heap.size w w' := by
 obtain ⟨w1,hw1⟩ : ∃ y,w.alloc (.cells #[.string key] 9) = y := ⟨_,rfl⟩
 have hb1 : Below w.heap.size w w1 := by rw [← hw1]; exact (Below.refl _ _).alloc (Nat.le_refl _) _
 have hK : w1.heap[w.heap.size]? = some (.cells #[.string key] 9 (0, 0)) := by rw [← hw1]; exact heap_alloc_new _ _
 have c1 := indexFet_any 46 #[.pointer (some ⟨w.heap.size, 0,none⟩)] (openP key) open1_eg w1 a c L (hL.on hb1) hm (fun W x hb => (open1_any w.heap.size x key W ((hb.block _ (Array.getElem?_eq_some_iff.1 hK).1).trans hK)).mono (by rintro e w' ⟨rfl,h⟩; exact ⟨rfl,hb.trans (h.mono hb.size)⟩))
 have hmf : ∀ (fn : Fn) (first cap : Array Value) (w : World),(Instr.makeFunc fn first cap).run Tryz.prog w = .ok (.func fn first cap) w := fun _ _ _ _ => rfl
 have HW : Hid (w.alloc (.cells #[.string key] 9) = w1) := hw1
 have HB : Hid (Below w.heap.size w w1) := hb1
 clear hw1 hb1 hK hL
 generalize idxX (openP key) L = q at c1 ⊢
 go_enter Tryz.func24,Tryz.ntmps24
 go_wp2_with fail
 rw [HW.out]
 refine c1.mono ?_
 rintro e w2 ⟨rfl,hb2⟩
 go_wp2_with fail
 go_ret
 exact ⟨rfl,HB.out.trans (hb2.mono HB.out.size)⟩
def oneF (L : List Fet) (i : Nat) : Bool := !(((L.getD i zFet).st == 1) && (L.take i).any (openP (L.getD i zFet).key))
def oneX (L : List Fet) : Bool := allT (oneF L) L.length
def fetG (now : Int) (L : List Fet) (i : Nat) : Bool :=
 enKey (L.getD i zFet).key && (decide ((L.getD i zFet).tx.size ≤ 400) && (inB (L.getD i zFet).st 1 3 && (inB (L.getD i zFet).lf 0 999999 && inB (L.getD i zFet).sto 0 now)))
theorem allT_and {f g : Nat → Bool} : ∀ n,allT (fun i => f i && g i) n = (allT f n && allT g n)
 | 0 => rfl
 | n + 1 => by
  unfold allT
  rw [allT_and n]
  cases allT f n <;> cases allT g n <;> cases f n <;> cases g n <;> rfl
theorem fesOkX_split (now : Int) (L : List Fet) : fesOkX now L = (decide (L.length ≤ 20) && (allT (fetG now L) L.length && oneX L)) := by
 unfold fesOkX oneX
 rw [← allT_and]
 rfl
theorem quietV {P : Program} {f : FuncId} {args : Array Value} {W : World} {v : Value} (h : ∀ w',Below W.heap.size W w' → Calls P f args w' fun e w'' => e = .returned v ∧ Below w'.heap.size w' w'') (d : Nat) (os : Array Obj) :
  Calls P f args (grow (redrawn W d) os) fun e w'' => e = .returned v ∧ ∃ p : Regrown,w'' = grow (redrawn W p.d) p.os := Calls.regrown_of (h _ (below_regrown W d os))
theorem FetAt.take {w : World} {a : Option Addr} {L : List Fet} {B : Nat} (h : FetAt w a L B) (k : Nat) : FetAt w a (L.take k) B := fun j hj => by
 have hl : j < L.length := by rw [List.length_take] at hj; omega
 obtain ⟨g,o,e,hg,h1⟩ := h j hl
 refine ⟨g,o,e,hg, ?_⟩
 rw [List.getElem_take]
 exact h1
set_option maxRecDepth 100000 in
set_option maxHeartbeats 8000000 in
theorem implOne_any (w : World) (a : Option Addr) (c : Nat) (L : List Fet) (hE : FetAt w a L w.heap.size) (hc : L.length ≤ c) (hm : L.length ≤ 1048576) (hz : ∀ f ∈ L,f.key.size ≤ 1048576) :
  Calls Tryz.prog 57 #[.slice a L.length c] w fun e w' => e = .returned (.bool (oneX L)) ∧ Below w.heap.size w w' := by
 have HE : Hid (FetAt w a L w.heap.size) := hE
 have HZ : Hid (∀ f ∈ L,f.key.size ≤ 1048576) := hz
 have HC : Hid (L.length ≤ c) := hc
 have HL : Hid (L.length ≤ 1048576) := hm
 obtain ⟨res,hres⟩ : ∃ r,oneX L = r := ⟨_,rfl⟩
 have HO2 : Hid (res = allT (oneF L) L.length) := hres.symm
 rw [hres]
 clear hE hz hres hc hm
 go_enter Tryz.func57,Tryz.ntmps57
 go_wp2_with fail
 go_loopw [7] (fun i wr => Box (∃ k : Nat,k ≤ L.length ∧ i = .int .i64 k ∧ allT (oneF L) k = true ∧ Below w.heap.size w wr))
  (fun i _ => L.length - (intOf i).toNat)
 case atStart => exact ⟨⟨0,by omega,rfl,rfl,Below.refl _ _⟩⟩
 case round =>
  obtain ⟨k,hk,rfl,hno,hbr⟩ := hrel.out
  obtain ⟨wo,hwo⟩ : ∃ wo,wo = wr := ⟨_,rfl⟩
  subst hwo
  have HN : Hid (allT (oneF L) k = true) := hno
  have HBO : Hid (Below w.heap.size w wo) := hbr
  clear hrel hno hbr
  have hL20 := HL.out
  by_cases hlt : k < L.length
  ·obtain ⟨gg,offg,hga,_,q0,q1,q2,q3,q4⟩ := (HE.out.on HBO.out) k hlt
   obtain ⟨f,hf⟩ : ∃ f,L[k] = f := ⟨_,rfl⟩
   have hgd : L.getD k zFet = f := by rw [getD_of hlt,hf]
   rw [hf] at q0 q1 q2 q3 q4
   have hfs := HZ.out f (by rw [← hf]; exact List.getElem_mem hlt)
   have HK : Hid (k < L.length) := hlt
   have hi1 : (0 : Int) ≤ (k : Int) := by omega
   have hi3 : (k : Int) < (L.length : Int) := by omega
   obtain ⟨w3,hw3⟩ : ∃ x,wo.alloc (.cells #[.string f.key,.string f.tx,.int .i64 f.st,.int .i64 f.lf,.int .i64 f.sto] 84) = x := ⟨_,rfl⟩
   have hb3 : Below wo.heap.size wo w3 := by rw [← hw3]; exact (Below.refl _ _).alloc (Nat.le_refl _) _
   have hRB : w3.heap[wo.heap.size]? = some (.cells #[.string f.key,.string f.tx,.int .i64 f.st,.int .i64 f.lf,.int .i64 f.sto] 84 (0, 0)) := by rw [← hw3]; exact heap_alloc_new _ _
   have HB3 : Hid (Below w.heap.size w w3) := HBO.out.trans (hb3.mono HBO.out.size)
   have HS3 := HB3
   have HW3 : Hid (wo.alloc (.cells #[.string f.key,.string f.tx,.int .i64 f.st,.int .i64 f.lf,.int .i64 f.sto] 84) = w3) := hw3
   have g0 : w3.cell? ⟨wo.heap.size, 0,none⟩ = some (.string f.key) := by rw [cell_of_row w3 wo.heap.size 0 _ _ (0, 0) hRB]; rfl
   have g1 : w3.cell? ⟨wo.heap.size, 1,none⟩ = some (.string f.tx) := by rw [cell_of_row w3 wo.heap.size 1 _ _ (0, 0) hRB]; rfl
   have g2 : w3.cell? ⟨wo.heap.size, 2,none⟩ = some (.int .i64 f.st) := by rw [cell_of_row w3 wo.heap.size 2 _ _ (0, 0) hRB]; rfl
   have g3 : w3.cell? ⟨wo.heap.size, 3,none⟩ = some (.int .i64 f.lf) := by rw [cell_of_row w3 wo.heap.size 3 _ _ (0, 0) hRB]; rfl
   have g4 : w3.cell? ⟨wo.heap.size, 4,none⟩ = some (.int .i64 f.sto) := by rw [cell_of_row w3 wo.heap.size 4 _ _ (0, 0) hRB]; rfl
   have z0 := cell_regrown g0
   have z2 := cell_regrown g2
   have HSu : Hid (allT (oneF L) (k + 1) = !((f.st == 1) && (L.take k).any (openP f.key))) := by
    show _ = _
    unfold allT
    rw [HN.out,Bool.true_and]
    unfold oneF
    rw [hgd]
   have HF : Hid (allT (oneF L) (k + 1) = false → res = false) := fun h => by rw [HO2.out]; exact allT_down (k := k) hlt (by unfold allT at h; rw [HN.out] at h; simpa using h)
   subst hga
   clear hf hgd hw3 hlt hRB hb3
   cases hst : (f.st == 1) with
   | false =>
    have HPO : Hid (allT (oneF L) (k + 1) = true) := by show _ = _; rw [HSu.out,hst]; simp
    go_wp2_with fail
    rw [HW3.out]
    refine wp_region_quiet_below (by kernel_rfl) (by kernel_rfl) ?_
    repeat (first | go_big_quiet_step (fail) | quiet_step (fail))
    refine wpQuiet_nil ?_
    intro _ hw'
    obtain ⟨⟨dq,osq⟩,hw''⟩ := hw'
    subst hw''
    go_wp2_with fail
    go_roundw
    case rel =>
     try ((repeat apply Exists.intro); refine ⟨?_,rfl⟩)
     exact ⟨⟨k + 1,by have := HK.out; omega,by go_num,HPO.out,HS3.out.trans ((below_regrown w3 dq osq).mono HS3.out.size)⟩⟩
    case measure => have := HK.out; simp [intOf]; omega
   | true =>
    have cO := quietV (W := w3) (fun w' hb => openPlace_any w' (some ⟨gg,offg,none⟩) c (L.take k) f.key (((HE.out.on HB3.out).on hb).take k) (by rw [List.length_take]; omega))
    have htk : (L.take k).length = k := by rw [List.length_take]; have := HK.out; omega
    rw [htk] at cO
    have HX := idxX_cases (openP f.key) (L.take k)
    obtain ⟨q,hq⟩ : ∃ q,idxX (openP f.key) (L.take k) = q := ⟨_,rfl⟩
    rw [hq] at cO HX
    have hany : (L.take k).any (openP f.key) = decide (0 ≤ q) := by
     rcases HX with ⟨j,hj,rfl,hp,_⟩ | ⟨rfl,hn⟩
     ·rw [decide_eq_true (by omega),List.any_eq_true]
      exact ⟨_,List.getElem_mem hj,hp⟩
     ·rw [decide_eq_false (by omega),List.any_eq_false]
      intro x hx
      rw [hn x hx]
      decide
    have hi4 : (k : Int) ≤ (c : Int) := by have := HK.out; have := HC.out; omega
    obtain ⟨x9,hx9⟩ : ∃ b,decide (0 ≤ q) = b := ⟨_,rfl⟩
    have hS : Hid (allT (oneF L) (k + 1) = !x9) := by show _ = _; rw [HSu.out,hst,hany,hx9]; simp
    clear hany HX hq htk HSu
    cases x9 with
    | false =>
     have HPO : Hid (allT (oneF L) (k + 1) = true) := hS
     go_wp2_with fail
     rw [HW3.out]
     refine wp_region_quiet_below (by kernel_rfl) (by kernel_rfl) ?_
     repeat (first | go_big_quiet_step (with_reducible exact cO _ _) | quiet_step (with_reducible exact cO _ _))
     refine wpQuiet_nil ?_
     intro _ hw'
     obtain ⟨⟨dq,osq⟩,hw''⟩ := hw'
     subst hw''
     go_wp2_with fail
     go_roundw
     case rel =>
      try ((repeat apply Exists.intro); refine ⟨?_,rfl⟩)
      exact ⟨⟨k + 1,by have := HK.out; omega,by go_num,HPO.out,HS3.out.trans ((below_regrown w3 dq osq).mono HS3.out.size)⟩⟩
     case measure => have := HK.out; simp [intOf]; omega
    | true =>
     have HPO : Hid (allT (oneF L) (k + 1) = false) := hS
     go_wp2_with fail
     rw [HW3.out]
     refine wp_region_quiet_below (by kernel_rfl) (by kernel_rfl) ?_
     repeat (first | go_big_quiet_step (with_reducible exact cO _ _) | quiet_step (with_reducible exact cO _ _))
     refine wpQuiet_nil ?_
     intro _ hw'
     obtain ⟨⟨dq,osq⟩,hw''⟩ := hw'
     subst hw''
     go_wp2_with fail
     go_ret
     exact ⟨by rw [HF.out HPO.out]; rfl,HB3.out.trans ((below_regrown w3 dq osq).mono HB3.out.size)⟩
  ·have hi3 : ¬ (k : Int) < (L.length : Int) := by omega
   have HR : Hid (res = true) := by show _ = _; rw [HO2.out,show L.length = k by omega,HN.out]
   clear hlt hk
   go_wp2_with fail
   go_ret
   exact ⟨by rw [HR.out]; rfl,HBO.out⟩
theorem stB_any (x : Int) (w : World) : Calls Tryz.prog 55 #[.int .i64 x] w fun e w' => e = .returned (.bool (inB x 1 3)) ∧ w = w' := by
 by_cases h1 : x = 1
 ·subst h1
  go_enter Tryz.func55,Tryz.ntmps55
  go_wp2
  go_ret
  exact ⟨rfl,rfl⟩
 ·by_cases h2 : x = 2
  ·subst h2
   go_enter Tryz.func55,Tryz.ntmps55
   go_wp2
   go_ret
   exact ⟨rfl,rfl⟩
  ·have HP : Hid (inB x 1 3 = (x == 3)) := by
    show _ = _
    by_cases h3 : x = 3
    ·subst h3; rfl
    ·rw [inB_no (by omega)]; simp [h3]
   have e1 : (x == 1) = false := by simp [h1]
   have e2 : (x == 2) = false := by simp [h2]
   go_enter Tryz.func55,Tryz.ntmps55
   go_wp2
   go_ret
   exact ⟨by rw [HP.out]; rfl,rfl⟩
set_option maxRecDepth 100000 in
set_option maxHeartbeats 8000000 in
theorem implFetches_any (w : World) (a : Option Addr) (c : Nat) (L : List Fet) (now : Int) (hE : FetAt w a L w.heap.size) (hc : L.length ≤ c) (hz : ∀ f ∈ L,f.key.size ≤ 1048576) :
  Calls Tryz.prog 30 #[.slice a L.length c,.int .i64 now] w fun e w' => e = .returned (.bool (fesOkX now L)) ∧ Below w.heap.size w w' := by
 have HE : Hid (FetAt w a L w.heap.size) := hE
 have HZ : Hid (∀ f ∈ L,f.key.size ≤ 1048576) := hz
 have HC : Hid (L.length ≤ c) := hc
 obtain ⟨res,hres⟩ : ∃ r,fesOkX now L = r := ⟨_,rfl⟩
 have HO : Hid (res = (decide (L.length ≤ 20) && (allT (fetG now L) L.length && oneX L))) := by show _ = _; rw [← hres]; exact fesOkX_split now L
 rw [hres]
 clear hE hz hres hc
 go_enter Tryz.func30,Tryz.ntmps30
 by_cases hq : L.length ≤ 20
 case neg =>
  have HR : Hid (res = false) := by show _ = _; rw [HO.out,decide_eq_false hq]; rfl
  have hq' : (20 : Int) < (L.length : Int) := by omega
  clear hq
  go_wp2_with fail
  go_ret
  exact ⟨by rw [HR.out]; rfl,Below.refl _ _⟩
 have HO2 : Hid (res = (allT (fetG now L) L.length && oneX L)) := by show _ = _; rw [HO.out,decide_eq_true hq]; rfl
 have hq' : ¬ (20 : Int) < (L.length : Int) := by omega
 have HL : Hid (L.length ≤ 20) := hq
 clear hq HO
 go_wp2_with fail
 clear hq'
 go_loopw [12] (fun i wr => Box (∃ k : Nat,k ≤ L.length ∧ i = .int .i64 k ∧ allT (fetG now L) k = true ∧ Below w.heap.size w wr))
  (fun i _ => L.length - (intOf i).toNat)
 case atStart => exact ⟨⟨0,by omega,rfl,rfl,Below.refl _ _⟩⟩
 case round =>
  obtain ⟨k,hk,rfl,hno,hbr⟩ := hrel.out
  obtain ⟨wo,hwo⟩ : ∃ wo,wo = wr := ⟨_,rfl⟩
  subst hwo
  have HN : Hid (allT (fetG now L) k = true) := hno
  have HBO : Hid (Below w.heap.size w wo) := hbr
  clear hrel hno hbr
  have hL20 := HL.out
  by_cases hlt : k < L.length
  ·obtain ⟨gg,offg,hga,_,q0,q1,q2,q3,q4⟩ := (HE.out.on HBO.out) k hlt
   obtain ⟨f,hf⟩ : ∃ f,L[k] = f := ⟨_,rfl⟩
   have hgd : L.getD k zFet = f := by rw [getD_of hlt,hf]
   rw [hf] at q0 q1 q2 q3 q4
   have hfs := HZ.out f (by rw [← hf]; exact List.getElem_mem hlt)
   have HK : Hid (k < L.length) := hlt
   have hi1 : (0 : Int) ≤ (k : Int) := by omega
   have hi3 : (k : Int) < (L.length : Int) := by omega
   obtain ⟨w3,hw3⟩ : ∃ x,wo.alloc (.cells #[.string f.key,.string f.tx,.int .i64 f.st,.int .i64 f.lf,.int .i64 f.sto] 84) = x := ⟨_,rfl⟩
   have hb3 : Below wo.heap.size wo w3 := by rw [← hw3]; exact (Below.refl _ _).alloc (Nat.le_refl _) _
   have hRB : w3.heap[wo.heap.size]? = some (.cells #[.string f.key,.string f.tx,.int .i64 f.st,.int .i64 f.lf,.int .i64 f.sto] 84 (0, 0)) := by rw [← hw3]; exact heap_alloc_new _ _
   have HB3 : Hid (Below w.heap.size w w3) := HBO.out.trans (hb3.mono HBO.out.size)
   have HS3 := HB3
   have HW3 : Hid (wo.alloc (.cells #[.string f.key,.string f.tx,.int .i64 f.st,.int .i64 f.lf,.int .i64 f.sto] 84) = w3) := hw3
   have g0 : w3.cell? ⟨wo.heap.size, 0,none⟩ = some (.string f.key) := by rw [cell_of_row w3 wo.heap.size 0 _ _ (0, 0) hRB]; rfl
   have g1 : w3.cell? ⟨wo.heap.size, 1,none⟩ = some (.string f.tx) := by rw [cell_of_row w3 wo.heap.size 1 _ _ (0, 0) hRB]; rfl
   have g2 : w3.cell? ⟨wo.heap.size, 2,none⟩ = some (.int .i64 f.st) := by rw [cell_of_row w3 wo.heap.size 2 _ _ (0, 0) hRB]; rfl
   have g3 : w3.cell? ⟨wo.heap.size, 3,none⟩ = some (.int .i64 f.lf) := by rw [cell_of_row w3 wo.heap.size 3 _ _ (0, 0) hRB]; rfl
   have g4 : w3.cell? ⟨wo.heap.size, 4,none⟩ = some (.int .i64 f.sto) := by rw [cell_of_row w3 wo.heap.size 4 _ _ (0, 0) hRB]; rfl
   have z0 := cell_regrown g0
   have z2 := cell_regrown g2
   have cK1 := keyE_any w3 f.key (by omega)
   have cK3 := stB_any f.st w3
   have cK4 := lifeE_any f.lf w3
   obtain ⟨x2,hx2⟩ : ∃ b,decide ((400 : Int) < (f.tx.size : Int)) = b := ⟨_,rfl⟩
   obtain ⟨x5,hx5⟩ : ∃ b,decide (f.sto < 0) = b := ⟨_,rfl⟩
   obtain ⟨x6,hx6⟩ : ∃ b,decide (now < f.sto) = b := ⟨_,rfl⟩
   have HSu : Hid (allT (fetG now L) (k + 1) = (enKey f.key && (!x2 && (inB f.st 1 3 && (inB f.lf 0 999999 && (!x5 && !x6)))))) := by
    show _ = _
    unfold allT
    rw [HN.out,Bool.true_and]
    unfold fetG
    rw [hgd,show decide (f.tx.size ≤ 400) = !x2 by rw [← hx2, ← decide_not]; exact decide_eq_decide.2 (by omega),show inB f.sto 0 now = (!x5 && !x6) by rw [← hx5, ← hx6, ← decide_not, ← decide_not]; unfold inB; rw [show decide (0 ≤ f.sto) = decide (¬ f.sto < 0) from decide_eq_decide.2 (by omega),show decide (f.sto ≤ now) = decide (¬ now < f.sto) from decide_eq_decide.2 (by omega)]]
   have HF : Hid (allT (fetG now L) (k + 1) = false → res = false) := fun h => by rw [HO2.out,allT_down (k := k) hlt (by unfold allT at h; rw [HN.out] at h; simpa using h)]; rfl
   subst hga
   generalize enKey f.key = x1 at cK1 HSu
   generalize inB f.st 1 3 = x3 at cK3 HSu
   generalize inB f.lf 0 999999 = x4 at cK4 HSu
   clear hf hgd hw3 hlt hRB hb3
   go_wp2_with fail
   rw [HW3.out]
   refine cK1.mono ?_
   rintro e w' ⟨rfl,rfl⟩
   cases x1 with
   | false =>
    have HR : Hid (res = false) := HF.out (by rw [HSu.out]; simp)
    go_wp2_with fail
    go_ret
    exact ⟨by rw [HR.out]; rfl,HB3.out⟩
   | true =>
    cases x2 with
    | true =>
     have HR : Hid (res = false) := HF.out (by rw [HSu.out]; simp)
     go_wp2_with fail
     go_ret
     exact ⟨by rw [HR.out]; rfl,HB3.out⟩
    | false =>
     go_wp2_with fail
     refine cK3.mono ?_
     rintro e w' ⟨rfl,rfl⟩
     cases x3 with
     | false =>
      have HR : Hid (res = false) := HF.out (by rw [HSu.out]; simp)
      go_wp2_with fail
      go_ret
      exact ⟨by rw [HR.out]; rfl,HB3.out⟩
     | true =>
      go_wp2_with fail
      refine cK4.mono ?_
      rintro e w' ⟨rfl,rfl⟩
      cases x4 with
      | false =>
       have HR : Hid (res = false) := HF.out (by rw [HSu.out]; simp)
       go_wp2_with fail
       go_ret
       exact ⟨by rw [HR.out]; rfl,HB3.out⟩
      | true =>
       cases x5 with
       | true =>
        have HR : Hid (res = false) := HF.out (by rw [HSu.out]; simp)
        go_wp2_with fail
        go_ret
        exact ⟨by rw [HR.out]; rfl,HB3.out⟩
       | false =>
        cases x6 with
        | true =>
         have HR : Hid (res = false) := HF.out (by rw [HSu.out]; simp)
         go_wp2_with fail
         go_ret
         exact ⟨by rw [HR.out]; rfl,HB3.out⟩
        | false =>
         have HPO : Hid (allT (fetG now L) (k + 1) = true) := by show _ = _; rw [HSu.out]; simp
         go_wp2_with fail
         go_roundw
         case rel =>
          try ((repeat apply Exists.intro); refine ⟨?_,rfl⟩)
          exact ⟨⟨k + 1,by have := HK.out; omega,by go_num,HPO.out,HS3.out⟩⟩
         case measure => have := HK.out; simp [intOf]; omega
  ·have hi3 : ¬ (k : Int) < (L.length : Int) := by omega
   have HR : Hid (res = oneX L) := by show _ = _; rw [HO2.out,show L.length = k by omega,HN.out,Bool.true_and]
   have cO := implOne_any wo a c L (HE.out.on HBO.out) HC.out (by omega) HZ.out
   clear hlt hk
   go_wp2_with fail
   refine cO.mono ?_
   rintro e w' ⟨rfl,hbq⟩
   go_wp2_with fail
   go_ret
   exact ⟨by rw [HR.out]; rfl,HBO.out.trans (hbq.mono HBO.out.size)⟩
end Go.Proofs.YtaahjcljanckaaaGreatDoor
