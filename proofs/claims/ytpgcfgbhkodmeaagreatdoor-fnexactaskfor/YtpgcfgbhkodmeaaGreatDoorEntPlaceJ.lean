/- Texts that stand in one: EntPlace, Forget, DelFunc. -/
import Derived.Test.YtpgcfgbhkodmeaaGreatDoorFilesJ
import Derived.Test.YtpgcfgbhkodmeaaGreatDoorPrxBaseJ
import Derived.Test.YtpgcfgbhkodmeaaGreatDoorDiskPlainJ
import Derived.Test.YtpgcfgbhkodmeaaGreatDoorShelf
import Derived.Shelf.Abstract
import Derived.Test.YtpgcfgbhkodmeaaGreatDoorHallKitJ
import Derived.Test.YtpgcfgbhkodmeaaGreatDoorHallSetJ
import Derived.Test.YtpgcfgbhkodmeaaGreatDoorInvModeJ
import Derived.Test.YtpgcfgbhkodmeaaGreatDoorPrxMarkJ
import Derived.Lib.SliceRun
import Derived.Deep.RegionLaw
namespace Go.Proofs.YtpgcfgbhkodmeaaGreatDoor
open Go.RowKit Go.Sort
theorem cmpB_lt : ∀ (a b : List UInt8),(Lib.compareBytes a b < 0) ↔ Op.bytesLess a b = true
 | [], [] => by simp [Lib.compareBytes,Op.bytesLess]
 | [],b :: bs => by simp [Lib.compareBytes,Op.bytesLess]
 | a :: ar, [] => by simp [Lib.compareBytes,Op.bytesLess]
 | a :: ar,b :: bs => by
  have ih := cmpB_lt ar bs
  unfold Lib.compareBytes Op.bytesLess
  by_cases h1 : a < b
  ·simp [h1]
  ·by_cases h2 : b < a
   ·have : ¬ a = b := by rintro rfl; exact h1 h2
    simp [h1,h2,this]
   ·have : a = b := by
     have h3 : ¬ a.toNat < b.toNat := fun h => h1 (UInt8.lt_iff_toNat_lt.2 h)
     have h4 : ¬ b.toNat < a.toNat := fun h => h2 (UInt8.lt_iff_toNat_lt.2 h)
     exact UInt8.toNat_inj.1 (by omega)
    subst this
    simp [h1,ih]
def cmpS (a b : ByteArray) : Int := Lib.compareBytes a.data.toList b.data.toList
theorem toListS (a : ByteArray) : a.toList = a.data.toList := ByteArray.toList_eq a
theorem cmpS_lt {a b : ByteArray} : cmpS a b < 0 ↔ ltS a b = true := by
 unfold cmpS ltS
 rw [cmpB_lt,toListS a,toListS b]
theorem cmpB_self : ∀ a : List UInt8,Lib.compareBytes a a = 0
 | [] => rfl
 | a :: r => by
  have h : ¬ a < a := fun h => Nat.lt_irrefl _ (UInt8.lt_iff_toNat_lt.1 h)
  unfold Lib.compareBytes
  rw [if_neg h,if_neg h,cmpB_self r]
theorem cmpB_zero : ∀ (a b : List UInt8),Lib.compareBytes a b = 0 → a = b
 | [], [],_ => rfl
 | [],_ :: _,h => by simp [Lib.compareBytes] at h
 | _ :: _, [],h => by simp [Lib.compareBytes] at h
 | a :: r,b :: s,h => by
  unfold Lib.compareBytes at h
  by_cases h1 : a < b
  ·rw [if_pos h1] at h; exact absurd h (by decide)
  ·rw [if_neg h1] at h
   by_cases h2 : b < a
   ·rw [if_pos h2] at h; exact absurd h (by decide)
   ·rw [if_neg h2] at h
    have h3 : ¬ a.toNat < b.toNat := fun h => h1 (UInt8.lt_iff_toNat_lt.2 h)
    have h4 : ¬ b.toNat < a.toNat := fun h => h2 (UInt8.lt_iff_toNat_lt.2 h)
    have h5 : a = b := UInt8.toNat_inj.1 (by omega)
    rw [h5,cmpB_zero r s h]
theorem cmpS_zero {a b : ByteArray} (h : cmpS a b = 0) : a = b := by
 have := cmpB_zero _ _ h
 obtain ⟨⟨x⟩⟩ := a
 obtain ⟨⟨y⟩⟩ := b
 simp only at this
 rw [this]
def AscE (l : List En) : Prop := ∀ i j (hi : i < l.length) (hj : j < l.length),i < j → ltS l[i].key l[j].key = true
structure PlaceE (rd : List En) (id : ByteArray) (k : Nat) (b : Bool) : Prop where
 le : k ≤ rd.length
 lo : ∀ j (hj : j < rd.length),j < k → ltS rd[j].key id = true
 hi : ∀ j (hj : j < rd.length),k ≤ j → ltS rd[j].key id = false
 there : b = true ↔ ∃ h : k < rd.length,rd[k].key = id
theorem placeE1_eg : ∀ args w,(callFunc 123 args).run Tryz.prog w = .ok (.enter 123 args) w := enters_of Tryz.func123 (by kernel_rfl) rfl
set_option maxHeartbeats 2000000 in
theorem placeE1_any (r : En) (id : ByteArray) (w : World) :
  Calls Tryz.prog 123 #[.agg #[.string r.key,.int .i64 r.st,.int .i64 r.lf,.string r.bd],.string id] w fun e w' => e = .returned (.int .i64 (cmpS r.key id)) ∧ Below w.heap.size w w' := by
 have hb1 : Below w.heap.size w (w.alloc (.cells #[.string r.key,.int .i64 r.st,.int .i64 r.lf,.string r.bd] 69)) := (Below.refl _ _).alloc (Nat.le_refl _) _
 have c1 := Tryz.strings_Compare r.key id (w.alloc (.cells #[.string r.key,.int .i64 r.st,.int .i64 r.lf,.string r.bd] 69))
 go_enter Tryz.func123,Tryz.ntmps123
 go_wp2_with fail
 refine c1.mono ?_
 rintro e w2 ⟨rfl,rfl⟩
 go_wp2_with fail
 go_ret
 exact ⟨rfl,hb1⟩
set_option maxRecDepth 100000 in
set_option maxHeartbeats 4000000 in
theorem searchE_any (w : World) (a : Option Addr) (c : Nat) (rd : List En) (id : ByteArray) (hE : NAt w a rd w.heap.size) (hm : rd.length ≤ 1048577) (hA : AscE rd) :
  Calls Tryz.prog 122 #[.slice a rd.length c,.string id,.func (.func 123) #[] #[]] w fun e w' => ∃ (k : Nat) (b : Bool),e = .returned (.tuple #[.int .i64 (k : Int),.bool b]) ∧ k ≤ rd.length ∧ (∀ j (hj : j < rd.length),j < k → ltS rd[j].key id = true) ∧ (∀ j (hj : j < rd.length),k ≤ j → ltS rd[j].key id = false) ∧ (b = true ↔ ∃ h : k < rd.length,rd[k].key = id) ∧ Below w.heap.size w w' := by
 have eg := placeE1_eg
 obtain ⟨G,hG⟩ : ∃ G : Ending → World → Prop,G = fun e w' => ∃ (k : Nat) (b : Bool),e = .returned (.tuple #[.int .i64 (k : Int),.bool b]) ∧ k ≤ rd.length ∧ (∀ j (hj : j < rd.length),j < k → ltS rd[j].key id = true) ∧ (∀ j (hj : j < rd.length),k ≤ j → ltS rd[j].key id = false) ∧ (b = true ↔ ∃ h : k < rd.length,rd[k].key = id) ∧ Below w.heap.size w w' := ⟨_,rfl⟩
 rw [← hG]
 have HG : Hid (∀ (k : Nat) (b : Bool) w',k ≤ rd.length → (∀ j (hj : j < rd.length),j < k → ltS rd[j].key id = true) → (∀ j (hj : j < rd.length),k ≤ j → ltS rd[j].key id = false) → (b = true ↔ ∃ h : k < rd.length,rd[k].key = id) → Below w.heap.size w w' → G (.returned (.tuple #[.int .i64 (k : Int),.bool b])) w') := by rw [hG]; exact fun k b w' h1 h2 h3 h4 h5 => ⟨k,b,rfl,h1,h2,h3,h4,h5⟩
 have HA : Hid (AscE rd) := hA
 clear hG hA
 go_enter Tryz.func122,Tryz.ntmps122
 go_wp2_with fail
 go_loopw [9, 10] (fun i j wr => Box (∃ (lo hi : Nat),lo ≤ hi ∧ hi ≤ rd.length ∧ i = .int .i64 lo ∧ j = .int .i64 hi ∧ Hid (∀ j (hj : j < rd.length),j < lo → ltS rd[j].key id = true) ∧ Hid (∀ j (hj : j < rd.length),hi ≤ j → ltS rd[j].key id = false) ∧ Below w.heap.size w wr))
  (fun i j _ => (intOf j).toNat - (intOf i).toNat)
 case atStart => exact ⟨⟨0,rd.length,Nat.zero_le _,Nat.le_refl _,rfl,rfl,fun j _ hj => absurd hj (Nat.not_lt_zero _),fun j hj h => absurd hj (by omega),Below.refl _ _⟩⟩
 case round =>
  obtain ⟨lo,hi,hlh,hin,rfl,rfl,HL,HH,hbr⟩ := hrel.out
  clear hrel
  by_cases hlt : lo < hi
  ·have hmid : (lo + hi) / 2 < rd.length := by omega
   obtain ⟨gg,offg,rfl,_,q0,q1,q2,q3⟩ := (hE.below hbr (Nat.le_refl _)) ((lo + hi) / 2) hmid
   obtain ⟨f,hf⟩ : ∃ f,rd[(lo + hi) / 2] = f := ⟨_,rfl⟩
   have HF : Hid (rd[(lo + hi) / 2] = f) := hf
   rw [hf] at q0 q1 q2 q3
   have hc := placeE1_any f id wr
   have HB : Hid (Below w.heap.size w wr) := hbr
   have HLT : Hid (lo < hi ∧ hi ≤ rd.length) := ⟨hlt,hin⟩
   clear hf hbr hE
   by_cases hx : ltS f.key id = true
   ·have hcx : cmpS f.key id < 0 := cmpS_lt.2 hx
    obtain ⟨q,hq⟩ : ∃ q,cmpS f.key id = q := ⟨_,rfl⟩
    rw [hq] at hc hcx
    clear hq
    go_wp2_with (go_at_fn 123; refine hc.mono ?_; rintro e w' ⟨rfl,hb'⟩)
    go_roundw
    case rel =>
     try ((repeat apply Exists.intro); refine ⟨?_,rfl⟩)
     refine ⟨⟨(lo + hi) / 2 + 1,hi,by have := HLT.out; omega,HLT.out.2,by go_num,rfl, ?_,HH,HB.out.trans (hb'.mono HB.out.size)⟩⟩
     intro j hj hjk
     by_cases e : j = (lo + hi) / 2
     ·subst e; rw [HF.out]; exact hx
     ·have := HA.out j ((lo + hi) / 2) hj hmid (by omega)
      rw [HF.out] at this
      exact ltS_trans this hx
    case measure => have := HLT.out; simp [intOf]; omega
   ·have hcx : ¬ cmpS f.key id < 0 := fun h => hx (cmpS_lt.1 h)
    obtain ⟨q,hq⟩ : ∃ q,cmpS f.key id = q := ⟨_,rfl⟩
    rw [hq] at hc hcx
    clear hq
    go_wp2_with (go_at_fn 123; refine hc.mono ?_; rintro e w' ⟨rfl,hb'⟩)
    go_roundw
    case rel =>
     try ((repeat apply Exists.intro); refine ⟨?_,rfl⟩)
     refine ⟨⟨lo,(lo + hi) / 2,by have := HLT.out; omega,by omega,rfl,by go_num,HL, ?_,HB.out.trans (hb'.mono HB.out.size)⟩⟩
     intro j hj hjk
     by_cases e : j = (lo + hi) / 2
     ·subst e; rw [HF.out]; simpa using hx
     ·have := HA.out ((lo + hi) / 2) j hmid hj (by omega)
      rw [HF.out] at this
      cases hz : ltS rd[j].key id with
      | false => rfl
      | true => exact absurd (ltS_trans this hz) hx
    case measure => have := HLT.out; simp [intOf]; omega
  ·obtain rfl : hi = lo := by omega
   have HB : Hid (Below w.heap.size w wr) := hbr
   by_cases hk : hi < rd.length
   ·obtain ⟨gg,offg,rfl,_,q0,q1,q2,q3⟩ := (hE.below hbr (Nat.le_refl _)) hi hk
    obtain ⟨f,hf⟩ : ∃ f,rd[hi] = f := ⟨_,rfl⟩
    have HF : Hid (∃ h : hi < rd.length,rd[hi] = f) := ⟨hk,hf⟩
    rw [hf] at q0 q1 q2 q3
    have hc := placeE1_any f id wr
    have hi1 : (0 : Int) ≤ (hi : Int) := by omega
    have hi2 : (hi : Int) < (rd.length : Int) := by omega
    have HI : Hid (hi ≤ rd.length) := hin
    clear hf hbr hE hk hlt hin hlh
    by_cases hx : f.key = id
    ·have hcx : cmpS f.key id = 0 := by rw [hx]; exact cmpB_self _
     rw [hcx] at hc
     have HX : Hid (f.key = id) := hx
     clear hx hcx
     go_wp2_with (go_at_fn 123; refine hc.mono ?_; rintro e w' ⟨rfl,hb'⟩)
     exact HG.out hi true w' HI.out HL.out HH.out ⟨fun _ => ⟨HF.out.1,by rw [HF.out.2]; exact HX.out⟩,fun _ => rfl⟩ (HB.out.trans (hb'.mono HB.out.size))
    ·have hcx : (cmpS f.key id == 0) = false := by
      have h0 : ¬ cmpS f.key id = 0 := fun h => hx (cmpS_zero h)
      simpa using h0
     obtain ⟨q,hq⟩ : ∃ q,cmpS f.key id = q := ⟨_,rfl⟩
     rw [hq] at hc hcx
     clear hq
     go_wp2_with (go_at_fn 123; refine hc.mono ?_; rintro e w' ⟨rfl,hb'⟩)
     exact HG.out hi false w' HI.out HL.out HH.out ⟨fun h => (by cases h),fun ⟨h,e⟩ => absurd (by rw [HF.out.2] at e; exact e) hx⟩ (HB.out.trans (hb'.mono HB.out.size))
   ·have hi2 : ¬ (hi : Int) < (rd.length : Int) := by omega
    have HI : Hid (hi ≤ rd.length) := hin
    have HN : Hid (¬ hi < rd.length) := hk
    clear hbr hE hk hlt hin hlh
    go_wp2_with fail
    exact HG.out hi false wr HI.out HL.out HH.out ⟨fun h => (by cases h),fun ⟨h,_⟩ => absurd h HN.out⟩ HB.out
set_option maxRecDepth 100000 in
set_option maxHeartbeats 4000000 in
theorem entryPlace_any (w : World) (a : Option Addr) (c : Nat) (rd : List En) (id : ByteArray) (hE : NAt w a rd w.heap.size) (hm : rd.length ≤ 1048577) (hA : AscE rd) :
  Calls Tryz.prog 57 #[.slice a rd.length c,.string id] w fun e w' => ∃ (k : Nat) (b : Bool),e = .returned (.tuple #[.int .i64 (k : Int),.bool b]) ∧ PlaceE rd id k b ∧ Below w.heap.size w w' := by
 obtain ⟨G,hG⟩ : ∃ G : Ending → World → Prop,G = fun e w' => ∃ (k : Nat) (b : Bool),e = .returned (.tuple #[.int .i64 (k : Int),.bool b]) ∧ PlaceE rd id k b ∧ Below w.heap.size w w' := ⟨_,rfl⟩
 rw [← hG]
 have HG : Hid (∀ (k : Nat) (b : Bool) w',PlaceE rd id k b → Below w.heap.size w w' → G (.returned (.tuple #[.int .i64 (k : Int),.bool b])) w') := by rw [hG]; exact fun k b w' h1 h2 => ⟨k,b,rfl,h1,h2⟩
 have c1 := searchE_any w a c rd id hE hm hA
 clear hG hE hA
 go_enter Tryz.func57,Tryz.ntmps57
 go_wp2_with fail
 refine c1.mono ?_
 rintro e w2 ⟨k,b,rfl,h1,h2,h3,h4,hb2⟩
 have HP : Hid (PlaceE rd id k b) := ⟨h1,h2,h3,h4⟩
 clear h1 h2 h3 h4 c1
 go_wp2_with fail
 exact HG.out k b w2 HP.out hb2
theorem PlaceE.none {rd : List En} {id : ByteArray} {k : Nat} (h : PlaceE rd id k false) (hA : AscE rd) : ∀ r ∈ rd, ¬ r.key = id := by
 have hno : ∀ j (hj : j < rd.length), ¬ rd[j].key = id := fun j hj ej => by
  have hk : j = k ∨ k < j ∨ j < k := by omega
  rcases hk with rfl | hk | hk
  ·exact absurd (h.there.2 ⟨hj,ej⟩) (by decide)
  ·have h1 := h.hi k (by omega) (Nat.le_refl _)
   have h2 := hA k j (by omega) hj hk
   rw [ej,h1] at h2
   cases h2
  ·have h1 := h.lo j hj hk
   rw [ej,ltS_irr] at h1
   cases h1
 intro r hr
 obtain ⟨j,hj,rfl⟩ := List.getElem_of_mem hr
 exact hno j hj
theorem forget1_eg : ∀ args w,(callFunc 181 args).run Tryz.prog w = .ok (.enter 181 args) w := enters_of Tryz.func181 (by kernel_rfl) rfl
set_option maxHeartbeats 2000000 in
theorem forget1_any (T : Nat) (x : En) (key : ByteArray) (w : World) (hT : w.heap[T]? = some (.cells #[.string key] 9 (0, 0))) :
  Calls Tryz.prog 181 (#[.agg #[.string x.key,.int .i64 x.st,.int .i64 x.lf,.string x.bd]] ++ #[.pointer (some ⟨T, 0,none⟩)]) w fun e w' => e = .returned (.bool (eqS x.key key)) ∧ Below w.heap.size w w' := by
 show Calls _ _ #[.agg #[.string x.key,.int .i64 x.st,.int .i64 x.lf,.string x.bd],.pointer (some ⟨T, 0,none⟩)] _ _
 have hb1 : Below w.heap.size w (w.alloc (.cells #[.string x.key,.int .i64 x.st,.int .i64 x.lf,.string x.bd] 69)) := (Below.refl _ _).alloc (Nat.le_refl _) _
 have p0 : (w.alloc (.cells #[.string x.key,.int .i64 x.st,.int .i64 x.lf,.string x.bd] 69)).cell? ⟨T, 0,none⟩ = some (.string key) := by rw [cell_of_row _ T 0 _ _ (0, 0) ((hb1.block T (Array.getElem?_eq_some_iff.1 hT).1).trans hT)]; rfl
 go_enter Tryz.func181,Tryz.ntmps181
 go_wp2_with fail
 go_ret
 exact ⟨rfl,hb1⟩
theorem delEnt_call (w : World) (base T : Nat) (v : Value) (L : List En) (key : ByteArray) (ho : OwnN w base 69 v L) (hm : L.length ≤ 1048576) (hTb : w.heap[T]? = some (.cells #[.string key] 9 (0, 0))) :
  Calls Tryz.prog 180 #[v,.func (.func 181) #[] #[.pointer (some ⟨T, 0,none⟩)]] w fun e w' => ∃ d0 d1,e = .returned (.slice d0 (offE L key).length d1) ∧ OwnN w' base 69 (.slice d0 (offE L key).length d1) (offE L key) ∧ Tch (fun k => v.ownBlock = some k) w w' := by
 refine (deleteEnt_any 181 #[.pointer (some ⟨T, 0,none⟩)] (fun e => eqS e.key key) forget1_eg w base v L ho hm (fun W' x ht => forget1_any T x key W' (by
  rw [ht.2 T (Array.getElem?_eq_some_iff.1 hTb).1 (fun e => by
   obtain ⟨cs,hc⟩ := ho.type T e
   rw [hTb] at hc
   simp only [Option.some.injEq,Obj.cells.injEq] at hc
   exact absurd hc.2.1 (by decide))]
  exact hTb))).mono ?_
 rintro e w' ⟨v',rfl,h1,h2⟩
 obtain ⟨d0,d1,rfl,_⟩ := h1.at
 exact ⟨d0,d1,rfl,h1,h2⟩
set_option maxRecDepth 100000 in
set_option maxHeartbeats 8000000 in
theorem hallForget_any (w : World) (lo T : Nat) (X : Pc) (R : Prx) (key : ByteArray) (H : HallAt w lo T X R) (hm : R.ents.length ≤ 1048576) :
  Calls Tryz.prog 130 #[.pointer (some ⟨T, 0,none⟩),.string key] w fun e w' => e = .returned (.tuple #[]) ∧ ∃ v',HallAt w' lo T ⟨v',X.w,X.m,X.k,X.f,X.c⟩ ⟨R.now,offE R.ents key,R.pol,R.fes,R.cls,R.hits⟩ ∧ Below lo w w' := by
 obtain ⟨w1,hw1⟩ : ∃ y,w.alloc (.cells #[.string key] 9) = y := ⟨_,rfl⟩
 have hb1 : Below w.heap.size w w1 := by rw [← hw1]; exact (Below.refl _ _).alloc (Nat.le_refl _) _
 have hK : w1.heap[w.heap.size]? = some (.cells #[.string key] 9 (0, 0)) := by rw [← hw1]; exact heap_alloc_new _ _
 have hlo : lo ≤ w.heap.size := Nat.le_trans H.le (Nat.le_of_lt H.box.lt)
 have hB1 := H.box.on hb1
 have hO1 := H.own.below hb1 (Nat.le_refl _)
 obtain ⟨M,hM⟩ : ∃ M,offE R.ents key = M := ⟨_,rfl⟩
 have c1 := delEnt_call w1 lo w.heap.size X.e R.ents key hO1.e hm hK
 rw [hM] at c1 ⊢
 have y1 := hB1.cells.2.1
 have hmf : ∀ (fn : Fn) (first cap : Array Value) (w : World),(Instr.makeFunc fn first cap).run Tryz.prog w = .ok (.func fn first cap) w := fun _ _ _ _ => rfl
 have HW : Hid (w.alloc (.cells #[.string key] 9) = w1) := hw1
 have HI : Hid (NB w1 T 105 (.int .i64 R.now) X.e X.w X.m X.k (.int .i64 R.pol.sk.added) X.f X.c (.int .i64 R.hits) ∧ PxOwn w1 lo w.heap.size X R ∧ Below lo w w1 ∧ lo ≤ T) := ⟨hB1,hO1,hb1.mono hlo,H.le⟩
 rw [← hw1] at y1
 clear hw1 hb1 hK hB1 hO1 H hM hlo
 go_enter Tryz.func130,Tryz.ntmps130
 go_wp2_with fail
 rw [HW.out] at y1 ⊢
 refine c1.mono ?_
 rintro e w2 ⟨d0,d1,rfl,hd,ht⟩
 obtain ⟨hB1,hO1,hB0,hle⟩ := HI.out
 have hB2 := hB1.kept (ht.2 T hB1.lt (fun e => by
  obtain ⟨cs,hc⟩ := hO1.e.type T e
  have h := hB1
  unfold NB at h
  rw [h] at hc
  simp only [Option.some.injEq,Obj.cells.injEq] at hc
  exact absurd hc.2.1 (by decide)))
 have hg : w1.grownBy w2 X.e.ownBlock := ⟨ht.1.os,ht.1.tape,ht.1.output,ht.1.size,fun k hk hn => ht.2 k hk (fun e => hn e.symm)⟩
 have hO2 := hO1.setE hg hd
 have x1 := hB2.cells.2.1
 have xt := hB2.thaw 1
 have HF : Hid (HallAt (w2.setCell ⟨T, 1,none⟩ (.slice d0 M.length d1)) lo T ⟨.slice d0 M.length d1,X.w,X.m,X.k,X.f,X.c⟩ ⟨R.now,M,R.pol,R.fes,R.cls,R.hits⟩ ∧ Below lo w (w2.setCell ⟨T, 1,none⟩ (.slice d0 M.length d1))) :=
  ⟨⟨hB2.set1 _,(hO2.box hB2 (by unfold PxT; decide) (fun k hk => Below.heap_setCell _ _ _ _ (by exact hk))).up,hle⟩,(Tch.below hB0 ht (Nat.le_trans hle (Nat.le_of_lt hB1.lt)) (fun k hk => (hO1.e.lt k hk).1)).setCell hle _⟩
 clear hB1 hO1 hB0 hle hB2 hg hO2 hd ht y1 c1 HI
 go_wp2_with fail
 exact bodyPost_end (results_none rfl _ _ _) rfl ⟨rfl,_,HF.out.1,HF.out.2⟩
theorem Tryz.zeroStr : ∀ w,(zeroValue 9).run Tryz.prog w = .ok (.string ⟨#[]⟩) w := by intro w; kernel_rfl
theorem dropped_any (W : World) (T : Nat) (x key : ByteArray) (h : W.cell? ⟨T, 0,none⟩ = some (.string key)) :
  Calls Tryz.prog 182 #[.string x,.pointer (some ⟨T, 0,none⟩)] W fun e w' => e = .returned (.bool (decide (x = key))) ∧ w' = W := by
 by_cases hx : x = key
 ·subst hx
  go_enter Tryz.func182,Tryz.ntmps182
  go_wp2
  go_ret
  exact ⟨by simp,rfl⟩
 ·have hn := bytes_nk hx
  go_enter Tryz.func182,Tryz.ntmps182
  go_wp2
  go_ret
  exact ⟨by simp [hx],rfl⟩
theorem dropped_eg : ∀ args w,(callFunc 182 args).run Tryz.prog w = .ok (.enter 182 args) w := enters_of Tryz.func182 (by kernel_rfl) rfl
set_option maxHeartbeats 2000000 in
theorem indexF_any (w : World) (a : Option Addr) (c T : Nat) (L : List ByteArray) (s : ByteArray) (hA : LAt w a L w.heap.size) (hm : L.length ≤ 10000000) (hT : w.cell? ⟨T, 0,none⟩ = some (.string s)) :
  Calls Tryz.prog 226 #[.slice a L.length c,.func (.func 182) #[] #[.pointer (some ⟨T, 0,none⟩)]] w fun e w' => ∃ r : Int,e = .returned (.int .i64 r) ∧ w' = w ∧ ((r = -1 ∧ inL L s = false) ∨ ∃ k : Nat, ∃ hk : k < L.length,r = k ∧ L[k] = s ∧ inL (L.take k) s = false) := by
 have eg := dropped_eg
 go_enter Tryz.func226,Tryz.ntmps226
 go_wp2
 go_loopw [8] (fun i wr => Box (∃ (k : Nat),k ≤ L.length ∧ i = .int .i64 k ∧ Hid (inL (L.take k) s = false) ∧ w = wr))
  (fun i _ => L.length - (intOf i).toNat)
 case atStart => exact ⟨⟨0,by omega,rfl,rfl,rfl⟩⟩
 case round =>
  obtain ⟨k,hk,rfl,HN,rfl⟩ := hrel.out
  by_cases hlt : k < L.length
  ·obtain ⟨g,off,rfl,hg,hc⟩ := hA k hlt
   have hi1 : (0 : Int) ≤ (k : Int) := by omega
   have hi2 : (k : Int) < (L.length : Int) := by omega
   have hcall := dropped_any w T L[k] s hT
   by_cases hz : L[k] = s
   ·have HT : Hid (∃ k' : Nat, ∃ hk : k' < L.length,(k : Int) = k' ∧ L[k'] = s ∧ inL (L.take k') s = false) := ⟨k,hlt,rfl,hz,HN.out⟩
    rw [decide_eq_true hz] at hcall
    obtain ⟨z,hzz⟩ : ∃ z,L[k] = z := ⟨_,rfl⟩
    rw [hzz] at hc hcall
    clear hrel hz hzz hA
    go_wp2_with (go_at_fn 182; refine hcall.mono ?_; rintro e w' ⟨rfl,rfl⟩)
    go_ret
    exact ⟨_,rfl,rfl,.inr HT.out⟩
   ·have HT : Hid (inL (L.take (k + 1)) s = false) := inL_take hlt HN.out hz
    rw [decide_eq_false hz] at hcall
    obtain ⟨z,hzz⟩ : ∃ z,L[k] = z := ⟨_,rfl⟩
    rw [hzz] at hc hcall
    clear hrel hz hzz hA
    go_wp2_with (go_at_fn 182; refine hcall.mono ?_; rintro e w' ⟨rfl,rfl⟩)
    go_roundw
    case rel =>
     try ((repeat apply Exists.intro); refine ⟨?_,rfl⟩)
     exact ⟨⟨k + 1,by omega,by go_num,HT,by first | rfl | trivial⟩⟩
    case measure => simp [intOf]; omega
  ·go_wp2
   go_ret
   have hke : k = L.length := by omega
   have := HN.out
   rw [hke,List.take_length] at this
   exact ⟨_,rfl,rfl,.inl ⟨rfl,this⟩⟩
theorem without_step {L : List ByteArray} {key : ByteArray} {k : Nat} (hk : k < L.length) (h : inL (L.take k) key = false) (hz : L[k] = key) : without (L.take (k + 1)) key = L.take k := by
 rw [without_take hk,if_pos hz,List.append_nil]
 exact without_none (inL_false.1 h)
theorem strs_getD {M : List ByteArray} {j : Nat} (h : j < M.length) : (strs M)[j]'(by rw [strs_length]; exact h) = .string M[j] := strs_at h
set_option maxRecDepth 100000 in
set_option maxHeartbeats 4000000 in
theorem deleteF_row (w : World) (base G c T : Nat) (L : List ByteArray) (key : ByteArray) (ho : OwnV w base 9 (.slice (some ⟨G, 0,none⟩) L.length c) (strs L)) (hm : L.length ≤ 1048576) (hT : T < base) (hTb : T < w.heap.size) (hc : w.cell? ⟨T, 0,none⟩ = some (.string key)) :
  Calls Tryz.prog 183 #[.slice (some ⟨G, 0,none⟩) L.length c,.func (.func 182) #[] #[.pointer (some ⟨T, 0,none⟩)]] w fun e w' => ∃ n c',e = .returned (.slice (some ⟨G, 0,none⟩) n c') ∧ OwnV w' base 9 (.slice (some ⟨G, 0,none⟩) n c') (strs (without L key)) ∧ w.grownBy w' (some G) := by
 have eg := dropped_eg
 obtain ⟨a0,c0,e0,hL⟩ := ho.strsAt
 simp only [Value.slice.injEq,true_and] at e0
 obtain ⟨rfl,rfl⟩ := e0
 have c1 := indexF_any w (some ⟨G, 0,none⟩) c T L key hL (by omega) hc
 obtain ⟨hcp,hcm⟩ := ho.capOf
 have HT : Hid (∀ W,w.grownBy W (some G) → base ≤ G → W.cell? ⟨T, 0,none⟩ = some (.string key)) := fun W h hG => by
  rw [← hc]
  have hh := h.block T hTb (by simp; omega)
  simp only [World.cell?,hh]
 go_enter Tryz.func183,Tryz.ntmps183
 go_wp2_with fail
 refine c1.mono ?_
 rintro e w' ⟨r,rfl,hw',h⟩
 rw [hw']
 clear c1 hw'
 rcases h with ⟨rfl,h⟩ | ⟨k0,hk0,rfl,h1,h2⟩
 ·have HW : Hid (without L key = L) := without_none (inL_false.1 h)
  clear h
  go_wp2_with fail
  go_ret
  exact ⟨_,_,rfl,by rw [HW.out]; exact ho,grownBy_refl _ _⟩
 ·have hG : base ≤ G := (ho.cell (j := k0) (by rw [strs_length]; exact hk0)).2.2.1
  have hi0 : ¬ ((k0 : Int) = -1) := by omega
  have HS : Hid (without (L.take (k0 + 1)) key = L.take k0) := without_step hk0 h2 h1
  have hk0b : k0 ≤ 1048576 := by omega
  have HLK : Hid (k0 < L.length) := hk0
  clear h1 h2 hk0 hL hc
  go_wp2_with fail
  go_loopw [5, 6] (fun i j wr => Box (∃ (k n : Nat) (M : List ByteArray),k ≤ L.length ∧ j = .int .i64 k ∧ i = .int .i64 n ∧ n < k ∧ Hid (n = (without (L.take k) key).length) ∧ Hid (M.length = L.length) ∧ Hid (M.take n = without (L.take k) key) ∧ Hid (M.drop k = L.drop k) ∧ Hid (OwnV wr base 9 (.slice (some ⟨G, 0,none⟩) L.length c) (strs M)) ∧ Hid (w.grownBy wr (some G))))
   (fun _ j _ => L.length - (intOf j).toNat)
  case atStart => exact ⟨⟨k0 + 1,k0,L,HLK.out,by go_num,rfl,by omega,by show _ = _; rw [HS.out,List.length_take]; have := HLK.out; omega,rfl,by show _ = _; rw [HS.out],rfl,ho,grownBy_refl _ _⟩⟩
  case round =>
   obtain ⟨k,n,M,hk,rfl,rfl,hnk,HN,HML,HMT,HMD,HO,HG⟩ := hrel.out
   clear hrel ho HS
   by_cases hlt : k < L.length
   ·have HMk : Hid (∃ h : k < M.length,M[k] = L[k]) := by
     have hx : k < M.length := by rw [HML.out]; exact hlt
     refine ⟨hx, ?_⟩
     have := congrArg (fun l => l[0]?) HMD.out
     simp only [List.getElem?_drop,Nat.add_zero] at this
     rw [List.getElem?_eq_getElem hx,List.getElem?_eq_getElem hlt] at this
     exact Option.some.inj this
    obtain ⟨z,hzz⟩ : ∃ z,L[k] = z := ⟨_,rfl⟩
    have HZ : Hid (without (L.take (k + 1)) key = without (L.take k) key ++ if z = key then [] else [z]) := by show _ = _; rw [without_take hlt,hzz]
    have hck : wr.cell? ⟨G,k,none⟩ = some (.string z) := by
     obtain ⟨h1,h2⟩ := HMk.out
     have := (HO.out.cell (j := k) (by rw [strs_length]; exact h1)).1
     rw [strs_getD h1,h2,hzz] at this
     exact this
    have hcn : ∃ y,wr.cell? ⟨G,n,none⟩ = some y := ⟨_,(HO.out.cell (j := n) (by rw [strs_length,HML.out]; omega)).1⟩
    obtain ⟨y,hcn⟩ := hcn
    have hfn : wr.frozen? ⟨G,n,none⟩ = false := (HO.out.cell (j := n) (by rw [strs_length,HML.out]; omega)).2.1
    have hcall := dropped_any wr T z key (HT.out wr HG.out hG)
    have hi1 : (0 : Int) ≤ (k : Int) := by omega
    have hi2 : (k : Int) < (L.length : Int) := by omega
    have hi3 : (0 : Int) ≤ (n : Int) := by omega
    have hi4 : (n : Int) < (L.length : Int) := by omega
    by_cases hz : z = key
    ·rw [if_pos hz,List.append_nil] at HZ
     rw [decide_eq_true hz] at hcall
     clear hz hcn hfn hzz
     go_wp2_with (go_at_fn 182; refine hcall.mono ?_; rintro e w' ⟨rfl,rfl⟩)
     go_roundw
     case rel =>
      try ((repeat apply Exists.intro); refine ⟨?_,rfl⟩)
      refine ⟨⟨k + 1,n,M,by omega,by go_num,rfl,by omega,by show _ = _; rw [HZ.out]; exact HN.out,HML,by show _ = _; rw [HZ.out]; exact HMT.out, ?_,HO,HG⟩⟩
      show M.drop (k + 1) = L.drop (k + 1)
      rw [← List.drop_drop,HMD.out,List.drop_drop]
     case measure => simp [intOf]; omega
    ·rw [if_neg hz] at HZ
     rw [decide_eq_false hz] at hcall
     have HST : Hid _ := HO.out.stored (by rw [strs_length,HML.out]) n (.string z)
     clear hz hzz
     go_wp2_with (go_at_fn 182; refine hcall.mono ?_; rintro e w' ⟨rfl,rfl⟩)
     go_roundw
     case rel =>
      try ((repeat apply Exists.intro); refine ⟨?_,rfl⟩)
      have hML := HML.out
      have hMT := HMT.out
      have hN := HN.out
      refine ⟨⟨k + 1,n + 1,M.set n z,by omega,by go_num,by go_num,by omega, ?_,by show _ = _; rw [List.length_set]; exact hML, ?_, ?_, ?_,grownBy_trans HG.out HST.out.2⟩⟩
      ·show n + 1 = _
       rw [HZ.out,List.length_append, ← hN]
       rfl
      ·show (M.set n z).take (n + 1) = _
       rw [HZ.out, ← hMT,List.take_succ_eq_append_getElem (by rw [List.length_set]; omega),List.getElem_set_self,List.take_set_of_le (Nat.le_refl _)]
      ·show (M.set n z).drop (k + 1) = L.drop (k + 1)
       rw [List.drop_set_of_lt (by omega), ← List.drop_drop,HMD.out,List.drop_drop]
      ·have h := HST.out.1
       rw [show (strs M).set n (.string z) = strs (M.set n z) by unfold strs; rw [List.map_set]] at h
       exact h
     case measure => simp [intOf]; omega
   ·have hke : k = L.length := by omega
    subst hke
    have hML := HML.out
    have hMT := HMT.out
    rw [List.take_length] at hMT
    have hnl : n < L.length := hnk
    have hcl : ∀ ty cc,(Builtin.clear_ #[23] ty #[.slice (some ⟨G,n,none⟩) (L.length - n) cc]).run Tryz.prog wr = .ok (.tuple #[]) (wr.setCells G n (List.replicate (L.length - n) (.string ⟨#[]⟩))) := fun ty cc =>
     Lib.run_clear_slice wr 23 9 ty (.string ⟨#[]⟩) Tryz.underlying23 Tryz.zeroStr rfl rfl G n (L.length - n) cc (by omega)
      (fun j hj => by rw [(HO.out.cell (j := n + j) (by rw [strs_length,hML]; omega)).1]; rfl) (fun j hj => (HO.out.cell (j := n + j) (by rw [strs_length,hML]; omega)).2.1)
    obtain ⟨W2,hW2⟩ : ∃ W2,wr.setCells G n (List.replicate (L.length - n) (.string ⟨#[]⟩)) = W2 := ⟨_,rfl⟩
    rw [hW2] at hcl
    have HF : Hid (OwnV W2 base 9 (.slice (some ⟨G, 0,none⟩) n c) (strs (without L key)) ∧ w.grownBy W2 (some G)) := by
     obtain ⟨ys,e1,e2,_,_,e5,e6⟩ := OwnV.storedAll (List.replicate (L.length - n) (.string ⟨#[]⟩)) n wr (strs M) HO.out (by rw [strs_length,hML])
     rw [hW2] at e5 e6
     have h := e5.cut (by rw [e1,strs_length,hML]) n (by omega)
     rw [take_same e2,show (strs M).take n = strs (M.take n) by unfold strs; rw [List.map_take],hMT] at h
     exact ⟨h,grownBy_trans HG.out e6⟩
    have hi1 : (0 : Int) ≤ (n : Int) := by omega
    have hi2 : (n : Int) ≤ (L.length : Int) := by omega
    have hi3 : (n : Int) ≤ (c : Int) := by omega
    have hi4 : (L.length : Int) ≤ (c : Int) := by omega
    have hd1 : ¬ (c = n) := by omega
    clear hML hMT HN HML HMT HMD HO HG HT hW2
    go_wp2
    go_ret
    exact ⟨_,_,rfl,HF.out.1,HF.out.2⟩
theorem deleteF_any (w : World) (base T : Nat) (v : Value) (L : List ByteArray) (key : ByteArray) (ho : OwnV w base 9 v (strs L)) (hm : L.length ≤ 1048576) (hT : T < base) (hTb : T < w.heap.size) (hc : w.cell? ⟨T, 0,none⟩ = some (.string key)) :
  Calls Tryz.prog 183 #[v,.func (.func 182) #[] #[.pointer (some ⟨T, 0,none⟩)]] w fun e w' => ∃ v',e = .returned v' ∧ OwnV w' base 9 v' (strs (without L key)) ∧ v'.ownBlock = v.ownBlock ∧ w.grownBy w' v.ownBlock := by
 rcases ho.2 with ⟨rfl,h0⟩ | ⟨G,c,cur,rfl,_⟩
 ·rw [strs_length] at h0
  have hl : L = [] := List.length_eq_zero_iff.1 h0
  subst hl
  have c1 := indexF_any w none 0 T [] key (fun j hj => by simp at hj) (by simp) hc
  go_enter Tryz.func183,Tryz.ntmps183
  go_wp2_with fail
  refine c1.mono ?_
  rintro e w' ⟨r,rfl,rfl,h⟩
  clear c1
  rcases h with ⟨rfl,h⟩ | ⟨k0,hk0,_⟩
  ·go_wp2_with fail
   go_ret
   exact ⟨_,rfl,ho,rfl,grownBy_refl _ _⟩
  ·simp at hk0
 ·rw [strs_length] at ho ⊢
  refine (deleteF_row w base G c T L key ho hm hT hTb hc).mono ?_
  rintro e w' ⟨n,c',rfl,h1,h2⟩
  exact ⟨_,rfl,h1,rfl,h2⟩
end Go.Proofs.YtpgcfgbhkodmeaaGreatDoor
