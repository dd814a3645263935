/- Texts that stand in one: EntPlace, PolPlain, AskPlain, EntCopyI. -/
import Derived.Test.YtaahjcljanckaaaGreatDoorFilesJ
import Derived.Test.YtaahjcljanckaaaGreatDoorCliLawJ
import Derived.Test.YtaahjcljanckaaaGreatDoorPolSzTextJ
import Derived.Test.YtaahjcljanckaaaGreatDoorShelf
import Derived.Shelf.Abstract
import Derived.Test.YtaahjcljanckaaaGreatDoorSumTabJ
import Derived.Test.YtaahjcljanckaaaGreatDoorRowStepJ
import Derived.Test.YtaahjcljanckaaaGreatDoorPxSlicesJ
import Derived.Test.YtaahjcljanckaaaGreatDoorPolOkSzJ
import Derived.Deep.AppendLies
import Derived.Deep.RegionLaw
namespace Go.Proofs.YtaahjcljanckaaaGreatDoor
open Go.RowKit Go.Sort
theorem cmpB_lt : ∀ (a b : List UInt8),(Lib.compareBytes a b < 0) ↔ Op.bytesLess a b = true
 | [], [] => by simp [Lib.compareBytes,Op.bytesLess]
 | [],b :: bs => by simp [Lib.compareBytes,Op.bytesLess]
 | a :: ar, [] => by simp [Lib.compareBytes,Op.bytesLess]
 | a :: ar,b :: bs => by
  have ih := cmpB_lt ar bs
  unfold Lib.compareBytes Op.bytesLess
  by_cases h1 : a < b
  ·simp [h1]
  ·by_cases h2 : b < a
   ·have : ¬ a = b := by rintro rfl; exact h1 h2
    simp [h1,h2,this]
   ·have : a = b := by
     have h3 : ¬ a.toNat < b.toNat := fun h => h1 (UInt8.lt_iff_toNat_lt.2 h)
     have h4 : ¬ b.toNat < a.toNat := fun h => h2 (UInt8.lt_iff_toNat_lt.2 h)
     exact UInt8.toNat_inj.1 (by omega)
    subst this
    simp [h1,ih]
def cmpS (a b : ByteArray) : Int := Lib.compareBytes a.data.toList b.data.toList
theorem toListS (a : ByteArray) : a.toList = a.data.toList := ByteArray.toList_eq a
theorem cmpS_lt {a b : ByteArray} : cmpS a b < 0 ↔ ltS a b = true := by
 unfold cmpS ltS
 rw [cmpB_lt,toListS a,toListS b]
theorem cmpB_self : ∀ a : List UInt8,Lib.compareBytes a a = 0
 | [] => rfl
 | a :: r => by
  have h : ¬ a < a := fun h => Nat.lt_irrefl _ (UInt8.lt_iff_toNat_lt.1 h)
  unfold Lib.compareBytes
  rw [if_neg h,if_neg h,cmpB_self r]
theorem cmpB_zero : ∀ (a b : List UInt8),Lib.compareBytes a b = 0 → a = b
 | [], [],_ => rfl
 | [],_ :: _,h => by simp [Lib.compareBytes] at h
 | _ :: _, [],h => by simp [Lib.compareBytes] at h
 | a :: r,b :: s,h => by
  unfold Lib.compareBytes at h
  by_cases h1 : a < b
  ·rw [if_pos h1] at h; exact absurd h (by decide)
  ·rw [if_neg h1] at h
   by_cases h2 : b < a
   ·rw [if_pos h2] at h; exact absurd h (by decide)
   ·rw [if_neg h2] at h
    have h3 : ¬ a.toNat < b.toNat := fun h => h1 (UInt8.lt_iff_toNat_lt.2 h)
    have h4 : ¬ b.toNat < a.toNat := fun h => h2 (UInt8.lt_iff_toNat_lt.2 h)
    have h5 : a = b := UInt8.toNat_inj.1 (by omega)
    rw [h5,cmpB_zero r s h]
theorem cmpS_zero {a b : ByteArray} (h : cmpS a b = 0) : a = b := by
 have := cmpB_zero _ _ h
 obtain ⟨⟨x⟩⟩ := a
 obtain ⟨⟨y⟩⟩ := b
 simp only at this
 rw [this]
def AscE (l : List En) : Prop := ∀ i j (hi : i < l.length) (hj : j < l.length),i < j → ltS l[i].key l[j].key = true
structure PlaceE (rd : List En) (id : ByteArray) (k : Nat) (b : Bool) : Prop where
 le : k ≤ rd.length
 lo : ∀ j (hj : j < rd.length),j < k → ltS rd[j].key id = true
 hi : ∀ j (hj : j < rd.length),k ≤ j → ltS rd[j].key id = false
 there : b = true ↔ ∃ h : k < rd.length,rd[k].key = id
theorem placeE1_eg : ∀ args w,(callFunc 40 args).run Tryz.prog w = .ok (.enter 40 args) w := enters_of Tryz.func40 (by kernel_rfl) rfl
set_option maxHeartbeats 2000000 in
theorem placeE1_any (r : En) (id : ByteArray) (w : World) :
  Calls Tryz.prog 40 #[.agg #[.string r.key,.int .i64 r.st,.int .i64 r.lf,.string r.bd],.string id] w fun e w' => e = .returned (.int .i64 (cmpS r.key id)) ∧ Below w.heap.size w w' := by
 have hb1 : Below w.heap.size w (w.alloc (.cells #[.string r.key,.int .i64 r.st,.int .i64 r.lf,.string r.bd] 65)) := (Below.refl _ _).alloc (Nat.le_refl _) _
 have c1 := Tryz.strings_Compare r.key id (w.alloc (.cells #[.string r.key,.int .i64 r.st,.int .i64 r.lf,.string r.bd] 65))
 go_enter Tryz.func40,Tryz.ntmps40
 go_wp2_with fail
 refine c1.mono ?_
 rintro e w2 ⟨rfl,rfl⟩
 go_wp2_with fail
 go_ret
 exact ⟨rfl,hb1⟩
set_option maxRecDepth 100000 in
set_option maxHeartbeats 4000000 in
theorem searchE_any (w : World) (a : Option Addr) (c : Nat) (rd : List En) (id : ByteArray) (hE : NAt w a rd w.heap.size) (hm : rd.length ≤ 1048577) (hA : AscE rd) :
  Calls Tryz.prog 39 #[.slice a rd.length c,.string id,.func (.func 40) #[] #[]] w fun e w' => ∃ (k : Nat) (b : Bool),e = .returned (.tuple #[.int .i64 (k : Int),.bool b]) ∧ k ≤ rd.length ∧ (∀ j (hj : j < rd.length),j < k → ltS rd[j].key id = true) ∧ (∀ j (hj : j < rd.length),k ≤ j → ltS rd[j].key id = false) ∧ (b = true ↔ ∃ h : k < rd.length,rd[k].key = id) ∧ Below w.heap.size w w' := by
 have eg := placeE1_eg
 obtain ⟨G,hG⟩ : ∃ G : Ending → World → Prop,G = fun e w' => ∃ (k : Nat) (b : Bool),e = .returned (.tuple #[.int .i64 (k : Int),.bool b]) ∧ k ≤ rd.length ∧ (∀ j (hj : j < rd.length),j < k → ltS rd[j].key id = true) ∧ (∀ j (hj : j < rd.length),k ≤ j → ltS rd[j].key id = false) ∧ (b = true ↔ ∃ h : k < rd.length,rd[k].key = id) ∧ Below w.heap.size w w' := ⟨_,rfl⟩
 rw [← hG]
 have HG : Hid (∀ (k : Nat) (b : Bool) w',k ≤ rd.length → (∀ j (hj : j < rd.length),j < k → ltS rd[j].key id = true) → (∀ j (hj : j < rd.length),k ≤ j → ltS rd[j].key id = false) → (b = true ↔ ∃ h : k < rd.length,rd[k].key = id) → Below w.heap.size w w' → G (.returned (.tuple #[.int .i64 (k : Int),.bool b])) w') := by rw [hG]; exact fun k b w' h1 h2 h3 h4 h5 => ⟨k,b,rfl,h1,h2,h3,h4,h5⟩
 have HA : Hid (AscE rd) := hA
 clear hG hA
 go_enter Tryz.func39,Tryz.ntmps39
 go_wp2_with fail
 go_loopw [9, 10] (fun i j wr => Box (∃ (lo hi : Nat),lo ≤ hi ∧ hi ≤ rd.length ∧ i = .int .i64 lo ∧ j = .int .i64 hi ∧ Hid (∀ j (hj : j < rd.length),j < lo → ltS rd[j].key id = true) ∧ Hid (∀ j (hj : j < rd.length),hi ≤ j → ltS rd[j].key id = false) ∧ Below w.heap.size w wr))
  (fun i j _ => (intOf j).toNat - (intOf i).toNat)
 case atStart => exact ⟨⟨0,rd.length,Nat.zero_le _,Nat.le_refl _,rfl,rfl,fun j _ hj => absurd hj (Nat.not_lt_zero _),fun j hj h => absurd hj (by omega),Below.refl _ _⟩⟩
 case round =>
  obtain ⟨lo,hi,hlh,hin,rfl,rfl,HL,HH,hbr⟩ := hrel.out
  clear hrel
  by_cases hlt : lo < hi
  ·have hmid : (lo + hi) / 2 < rd.length := by omega
   obtain ⟨gg,offg,rfl,_,q0,q1,q2,q3⟩ := (hE.below hbr (Nat.le_refl _)) ((lo + hi) / 2) hmid
   obtain ⟨f,hf⟩ : ∃ f,rd[(lo + hi) / 2] = f := ⟨_,rfl⟩
   have HF : Hid (rd[(lo + hi) / 2] = f) := hf
   rw [hf] at q0 q1 q2 q3
   have hc := placeE1_any f id wr
   have HB : Hid (Below w.heap.size w wr) := hbr
   have HLT : Hid (lo < hi ∧ hi ≤ rd.length) := ⟨hlt,hin⟩
   clear hf hbr hE
   by_cases hx : ltS f.key id = true
   ·have hcx : cmpS f.key id < 0 := cmpS_lt.2 hx
    obtain ⟨q,hq⟩ : ∃ q,cmpS f.key id = q := ⟨_,rfl⟩
    rw [hq] at hc hcx
    clear hq
    go_wp2_with (go_at_fn 40; refine hc.mono ?_; rintro e w' ⟨rfl,hb'⟩)
    go_roundw
    case rel =>
     try ((repeat apply Exists.intro); refine ⟨?_,rfl⟩)
     refine ⟨⟨(lo + hi) / 2 + 1,hi,by have := HLT.out; omega,HLT.out.2,by go_num,rfl, ?_,HH,HB.out.trans (hb'.mono HB.out.size)⟩⟩
     intro j hj hjk
     by_cases e : j = (lo + hi) / 2
     ·subst e; rw [HF.out]; exact hx
     ·have := HA.out j ((lo + hi) / 2) hj hmid (by omega)
      rw [HF.out] at this
      exact ltS_trans this hx
    case measure => have := HLT.out; simp [intOf]; omega
   ·have hcx : ¬ cmpS f.key id < 0 := fun h => hx (cmpS_lt.1 h)
    obtain ⟨q,hq⟩ : ∃ q,cmpS f.key id = q := ⟨_,rfl⟩
    rw [hq] at hc hcx
    clear hq
    go_wp2_with (go_at_fn 40; refine hc.mono ?_; rintro e w' ⟨rfl,hb'⟩)
    go_roundw
    case rel =>
     try ((repeat apply Exists.intro); refine ⟨?_,rfl⟩)
     refine ⟨⟨lo,(lo + hi) / 2,by have := HLT.out; omega,by omega,rfl,by go_num,HL, ?_,HB.out.trans (hb'.mono HB.out.size)⟩⟩
     intro j hj hjk
     by_cases e : j = (lo + hi) / 2
     ·subst e; rw [HF.out]; simpa using hx
     ·have := HA.out ((lo + hi) / 2) j hmid hj (by omega)
      rw [HF.out] at this
      cases hz : ltS rd[j].key id with
      | false => rfl
      | true => exact absurd (ltS_trans this hz) hx
    case measure => have := HLT.out; simp [intOf]; omega
  ·obtain rfl : hi = lo := by omega
   have HB : Hid (Below w.heap.size w wr) := hbr
   by_cases hk : hi < rd.length
   ·obtain ⟨gg,offg,rfl,_,q0,q1,q2,q3⟩ := (hE.below hbr (Nat.le_refl _)) hi hk
    obtain ⟨f,hf⟩ : ∃ f,rd[hi] = f := ⟨_,rfl⟩
    have HF : Hid (∃ h : hi < rd.length,rd[hi] = f) := ⟨hk,hf⟩
    rw [hf] at q0 q1 q2 q3
    have hc := placeE1_any f id wr
    have hi1 : (0 : Int) ≤ (hi : Int) := by omega
    have hi2 : (hi : Int) < (rd.length : Int) := by omega
    have HI : Hid (hi ≤ rd.length) := hin
    clear hf hbr hE hk hlt hin hlh
    by_cases hx : f.key = id
    ·have hcx : cmpS f.key id = 0 := by rw [hx]; exact cmpB_self _
     rw [hcx] at hc
     have HX : Hid (f.key = id) := hx
     clear hx hcx
     go_wp2_with (go_at_fn 40; refine hc.mono ?_; rintro e w' ⟨rfl,hb'⟩)
     exact HG.out hi true w' HI.out HL.out HH.out ⟨fun _ => ⟨HF.out.1,by rw [HF.out.2]; exact HX.out⟩,fun _ => rfl⟩ (HB.out.trans (hb'.mono HB.out.size))
    ·have hcx : (cmpS f.key id == 0) = false := by
      have h0 : ¬ cmpS f.key id = 0 := fun h => hx (cmpS_zero h)
      simpa using h0
     obtain ⟨q,hq⟩ : ∃ q,cmpS f.key id = q := ⟨_,rfl⟩
     rw [hq] at hc hcx
     clear hq
     go_wp2_with (go_at_fn 40; refine hc.mono ?_; rintro e w' ⟨rfl,hb'⟩)
     exact HG.out hi false w' HI.out HL.out HH.out ⟨fun h => (by cases h),fun ⟨h,e⟩ => absurd (by rw [HF.out.2] at e; exact e) hx⟩ (HB.out.trans (hb'.mono HB.out.size))
   ·have hi2 : ¬ (hi : Int) < (rd.length : Int) := by omega
    have HI : Hid (hi ≤ rd.length) := hin
    have HN : Hid (¬ hi < rd.length) := hk
    clear hbr hE hk hlt hin hlh
    go_wp2_with fail
    exact HG.out hi false wr HI.out HL.out HH.out ⟨fun h => (by cases h),fun ⟨h,_⟩ => absurd h HN.out⟩ HB.out
set_option maxRecDepth 100000 in
set_option maxHeartbeats 4000000 in
theorem entryPlace_any (w : World) (a : Option Addr) (c : Nat) (rd : List En) (id : ByteArray) (hE : NAt w a rd w.heap.size) (hm : rd.length ≤ 1048577) (hA : AscE rd) :
  Calls Tryz.prog 21 #[.slice a rd.length c,.string id] w fun e w' => ∃ (k : Nat) (b : Bool),e = .returned (.tuple #[.int .i64 (k : Int),.bool b]) ∧ PlaceE rd id k b ∧ Below w.heap.size w w' := by
 obtain ⟨G,hG⟩ : ∃ G : Ending → World → Prop,G = fun e w' => ∃ (k : Nat) (b : Bool),e = .returned (.tuple #[.int .i64 (k : Int),.bool b]) ∧ PlaceE rd id k b ∧ Below w.heap.size w w' := ⟨_,rfl⟩
 rw [← hG]
 have HG : Hid (∀ (k : Nat) (b : Bool) w',PlaceE rd id k b → Below w.heap.size w w' → G (.returned (.tuple #[.int .i64 (k : Int),.bool b])) w') := by rw [hG]; exact fun k b w' h1 h2 => ⟨k,b,rfl,h1,h2⟩
 have c1 := searchE_any w a c rd id hE hm hA
 clear hG hE hA
 go_enter Tryz.func21,Tryz.ntmps21
 go_wp2_with fail
 refine c1.mono ?_
 rintro e w2 ⟨k,b,rfl,h1,h2,h3,h4,hb2⟩
 have HP : Hid (PlaceE rd id k b) := ⟨h1,h2,h3,h4⟩
 clear h1 h2 h3 h4 c1
 go_wp2_with fail
 exact HG.out k b w2 HP.out hb2
theorem PlaceE.none {rd : List En} {id : ByteArray} {k : Nat} (h : PlaceE rd id k false) (hA : AscE rd) : ∀ r ∈ rd, ¬ r.key = id := by
 have hno : ∀ j (hj : j < rd.length), ¬ rd[j].key = id := fun j hj ej => by
  have hk : j = k ∨ k < j ∨ j < k := by omega
  rcases hk with rfl | hk | hk
  ·exact absurd (h.there.2 ⟨hj,ej⟩) (by decide)
  ·have h1 := h.hi k (by omega) (Nat.le_refl _)
   have h2 := hA k j (by omega) hj hk
   rw [ej,h1] at h2
   cases h2
  ·have h1 := h.lo j hj hk
   rw [ej,ltS_irr] at h1
   cases h1
 intro r hr
 obtain ⟨j,hj,rfl⟩ := List.getElem_of_mem hr
 exact hno j hj
end Go.Proofs.YtaahjcljanckaaaGreatDoor
namespace Go.Proofs.YtaahjcljanckaaaGreatDoor
open Go.RowKit
def pushP (w main : List ByteArray) (sk : Sk) (first : ByteArray) : Pol × ByteArray :=
 if main.length < 4 then (⟨w,main ++ [first],sk⟩,noKey)
 else if guessS sk (main.getD 0 noKey) < guessS sk first then (⟨w,main.tail ++ [first],sk⟩,main.getD 0 noKey)
 else (⟨w,main,sk⟩,first)
def touchP (P : Pol) (key : ByteArray) : Pol × ByteArray :=
 if (okP P && keyOk key) = true then
  if inL P.win key = true then (⟨without P.win key ++ [key],P.main,bumpS P.sk key⟩,noKey)
  else if inL P.main key = true then (⟨P.win,without P.main key ++ [key],bumpS P.sk key⟩,noKey)
  else if P.win.length + 1 ≤ 2 then (⟨P.win ++ [key],P.main,bumpS P.sk key⟩,noKey)
  else pushP (P.win ++ [key]).tail P.main (bumpS P.sk key) (P.win.getD 0 noKey)
 else (P,noKey)
theorem touchP_right {P : Pol} {key : ByteArray} (hP : okP P = true) (hk : keyOk key = true) :
  okP (touchP P key).1 = true ∧ hasP (touchP P key).1 key = true ∧ ((touchP P key).2 ≠ noKey → hasP (touchP P key).1 (touchP P key).2 = false ∧ hasP P (touchP P key).2 = true) ∧
   (touchP P key).1.win.length + (touchP P key).1.main.length + (if (touchP P key).2 = noKey then 0 else 1) = P.win.length + P.main.length + (if hasP P key = true then 0 else 1) := by
 obtain ⟨win,main,sk⟩ := P
 obtain ⟨h1,h2,h3,h4,h5,h6,h7,h8⟩ := okP_iff.1 hP
 dsimp only at h1 h2 h3 h4 h5 h6 h7 h8
 have hsk := bumpS_ok key h8
 have e : touchP ⟨win,main,sk⟩ key = if inL win key = true then (⟨without win key ++ [key],main,bumpS sk key⟩,noKey) else if inL main key = true then (⟨win,without main key ++ [key],bumpS sk key⟩,noKey) else if win.length + 1 ≤ 2 then (⟨win ++ [key],main,bumpS sk key⟩,noKey) else pushP (win ++ [key]).tail main (bumpS sk key) (win.getD 0 noKey) := by
  unfold touchP
  rw [hP,hk]
  rfl
 rw [e]
 clear e
 generalize bumpS sk key = sk' at hsk ⊢
 by_cases hw : inL win key = true
 ·have hw' := inL_iff.1 hw
  have hl := without_length h3 hw'
  rw [if_pos hw]
  have hs : hasP ⟨win,main,sk⟩ key = true := by simp [hasP,hw]
  refine ⟨okP_iff.2 ⟨?_,h2,nodup_snoc.2 ⟨without_nodup h3,fun h => (without_mem.1 h).2 rfl⟩,h4, ?_,by simp; omega,h7,hsk⟩,by simp [hasP,inL],fun h => absurd rfl h, ?_⟩
  ·intro z hz
   rcases List.mem_append.1 hz with hz | hz
   ·exact h1 z (without_mem.1 hz).1
   ·rw [List.mem_singleton.1 hz]; exact hk
  ·intro z hz
   rcases List.mem_append.1 hz with hz | hz
   ·exact h5 z (without_mem.1 hz).1
   ·rw [List.mem_singleton.1 hz]; exact h5 key hw'
  ·rw [hs]; simp; omega
 rw [if_neg hw]
 have hwf := inL_false.1 (by simpa using hw)
 by_cases hm : inL main key = true
 ·have hm' := inL_iff.1 hm
  have hl := without_length h4 hm'
  rw [if_pos hm]
  have hs : hasP ⟨win,main,sk⟩ key = true := by simp [hasP,hm]
  refine ⟨okP_iff.2 ⟨h1, ?_,h3,nodup_snoc.2 ⟨without_nodup h4,fun h => (without_mem.1 h).2 rfl⟩, ?_,h6,by simp; omega,hsk⟩,by simp [hasP,inL],fun h => absurd rfl h, ?_⟩
  ·intro z hz
   rcases List.mem_append.1 hz with hz | hz
   ·exact h2 z (without_mem.1 hz).1
   ·rw [List.mem_singleton.1 hz]; exact hk
  ·intro z hz hmz
   rcases List.mem_append.1 hmz with hmz | hmz
   ·exact h5 z hz (without_mem.1 hmz).1
   ·rw [List.mem_singleton.1 hmz] at hz; exact hwf hz
  ·rw [hs]; simp; omega
 rw [if_neg hm]
 have hmf := inL_false.1 (by simpa using hm)
 have hs : hasP ⟨win,main,sk⟩ key = false := by simp only [hasP,inL_false.2 hwf,inL_false.2 hmf,Bool.or_false]
 by_cases hl : win.length + 1 ≤ 2
 ·rw [if_pos hl]
  refine ⟨okP_iff.2 ⟨?_,h2,nodup_snoc.2 ⟨h3,hwf⟩,h4, ?_,by simp; omega,h7,hsk⟩,by simp [hasP,inL],fun h => absurd rfl h, ?_⟩
  ·intro z hz
   rcases List.mem_append.1 hz with hz | hz
   ·exact h1 z hz
   ·rw [List.mem_singleton.1 hz]; exact hk
  ·intro z hz
   rcases List.mem_append.1 hz with hz | hz
   ·exact h5 z hz
   ·rw [List.mem_singleton.1 hz]; exact hmf
  ·rw [hs]; simp; omega
 rw [if_neg hl]
 obtain ⟨f,s,rfl⟩ : ∃ f s,win = [f,s] := by
  match win,h6,hl with
  | [f,s],_,_ => exact ⟨f,s,rfl⟩
  | [],_,h => simp at h
  | [_],_,h => simp at h
  | _ :: _ :: _ :: _,h,_ => simp at h
 have hf := h1 f (by simp)
 have hfs : f ≠ s := by intro e; subst e; simp at h3
 have hfk : f ≠ key := by intro e; subst e; simp at hwf
 have hsk2 : s ≠ key := by intro e; subst e; simp at hwf
 have hfm := h5 f (by simp)
 have hsm := h5 s (by simp)
 have e2 : ([f,s] ++ [key]).tail = [s,key] := rfl
 have e3 : ([f,s] : List ByteArray).getD 0 noKey = f := rfl
 rw [e2,e3]
 have w1 : ∀ z ∈ [s,key],keyOk z = true := by
  intro z hz
  simp only [List.mem_cons,List.not_mem_nil,or_false] at hz
  rcases hz with rfl | rfl
  ·exact h1 _ (by simp)
  ·exact hk
 have w2 : ([s,key] : List ByteArray).Nodup := by simp [hsk2]
 have w3 : ∀ z ∈ [s,key],z ∉ main ∧ z ≠ f := by
  intro z hz
  simp only [List.mem_cons,List.not_mem_nil,or_false] at hz
  rcases hz with rfl | rfl
  ·exact ⟨hsm,fun e => hfs e.symm⟩
  ·exact ⟨hmf,fun e => hfk e.symm⟩
 unfold pushP
 by_cases h4l : main.length < 4
 ·rw [if_pos h4l]
  refine ⟨okP_iff.2 ⟨w1, ?_,w2,nodup_snoc.2 ⟨h4,hfm⟩, ?_,by simp,by simp; omega,hsk⟩,by simp [hasP,inL],fun h => absurd rfl h, ?_⟩
  ·intro z hz
   rcases List.mem_append.1 hz with hz | hz
   ·exact h2 z hz
   ·rw [List.mem_singleton.1 hz]; exact hf
  ·intro z hz hmz
   rcases List.mem_append.1 hmz with hmz | hmz
   ·exact (w3 z hz).1 hmz
   ·exact (w3 z hz).2 (List.mem_singleton.1 hmz)
  ·rw [hs]; simp; omega
 rw [if_neg h4l]
 by_cases hg : guessS sk' (main.getD 0 noKey) < guessS sk' f
 ·rw [if_pos hg]
  obtain ⟨m0,mr,rfl⟩ : ∃ m0 mr,main = m0 :: mr := by
   cases main with
   | nil => simp at h4l
   | cons a r => exact ⟨a,r,rfl⟩
  have e4 : (m0 :: mr : List ByteArray).getD 0 noKey = m0 := rfl
  rw [e4]
  have hm0 := h2 m0 (by simp)
  rw [List.nodup_cons] at h4
  have hm0f : m0 ≠ f := by intro e; subst e; exact hfm (by simp)
  refine ⟨okP_iff.2 ⟨w1, ?_,w2,nodup_snoc.2 ⟨h4.2,fun h => hfm (List.mem_cons_of_mem _ h)⟩, ?_,by simp,by simp at h7 ⊢; omega,hsk⟩,by simp [hasP,inL],fun _ => ⟨?_, ?_⟩, ?_⟩
  ·intro z hz
   rcases List.mem_append.1 hz with hz | hz
   ·exact h2 z (by simp at hz; simp [hz])
   ·rw [List.mem_singleton.1 hz]; exact hf
  ·intro z hz hmz
   rcases List.mem_append.1 hmz with hmz | hmz
   ·exact (w3 z hz).1 (by simp at hmz; simp [hmz])
   ·exact (w3 z hz).2 (List.mem_singleton.1 hmz)
  ·have a1 : inL [s,key] m0 = false := by
    rw [inL_false]
    intro h
    exact (w3 m0 h).1 (by simp)
   have a2 : inL ((m0 :: mr).tail ++ [f]) m0 = false := by
    rw [inL_false]
    intro h
    rcases List.mem_append.1 h with h | h
    ·exact h4.1 h
    ·exact hm0f (List.mem_singleton.1 h)
   simp only [hasP,a1,a2,Bool.or_false]
  ·have : inL (m0 :: mr) m0 = true := inL_iff.2 (by simp)
   simp only [hasP,this,Bool.or_true]
  ·rw [hs,if_neg (keyOk_ne hm0)]; simp
 ·rw [if_neg hg]
  refine ⟨okP_iff.2 ⟨w1,h2,w2,h4,fun z hz => (w3 z hz).1,by simp,h7,hsk⟩,by simp [hasP,inL],fun _ => ⟨?_, ?_⟩, ?_⟩
  ·have a1 : inL [s,key] f = false := by
    rw [inL_false]
    intro h
    exact (w3 f h).2 rfl
   simp only [hasP,a1,inL_false.2 hfm,Bool.or_false]
  ·have : inL [f,s] f = true := inL_iff.2 (by simp)
   simp only [hasP,this,Bool.true_or]
  ·rw [hs,if_neg (keyOk_ne hf)]; simp
end Go.Proofs.YtaahjcljanckaaaGreatDoor
namespace Go.Proofs.YtaahjcljanckaaaGreatDoor
open Go.RowKit Go.Sort
def newF (key : ByteArray) : Fet := ⟨key,⟨#[]⟩, 1, 0, 0⟩
def waitF (F : List Fet) (key : ByteArray) (z : Nat) : List Fet := if z = F.length then F ++ [newF key] else F
def waitP (P : Pol) (key : ByteArray) : Pol := ⟨(dropP P key).win,(dropP P key).main,bumpS (dropP P key).sk key⟩
def waitC (F : List Fet) (id : Int) (key : ByteArray) (z : Nat) : Cli := ⟨id,key,(z : Int) + 1, 0, 1,((waitF F key z).getD z zFet).tx, 0⟩
def askAt (P : Prx) (key : ByteArray) : Nat := if idxX (openP key) P.fes < 0 then P.fes.length else (idxX (openP key) P.fes).toNat
def hitB (P : Prx) (key : ByteArray) : Bool := (entAtX P.ents key).2 && enFresh (entAtX P.ents key).1 P.now
def hitC (P : Prx) (id : Int) (key : ByteArray) : Cli := ⟨id,key, 0,(entAtX P.ents key).1.st, 2,(entAtX P.ents key).1.bd,P.now - (entAtX P.ents key).1.st⟩
def hitR (P : Prx) (id : Int) (key : ByteArray) : Prx := ⟨P.now,P.ents,(touchP P.pol key).1,P.fes,insC P.cls (hitC P id key),min (P.hits + 1) 1000000000⟩
def waitR (P : Prx) (id : Int) (key : ByteArray) : Prx := ⟨P.now,offE P.ents key,waitP P.pol key,waitF P.fes key (askAt P key),insC P.cls (waitC P.fes id key (askAt P key)),P.hits⟩
def askR (P : Prx) (id : Int) (key : ByteArray) : Prx × Int :=
 if mayB P id key = true then (if hitB P key = true then (hitR P id key, 0) else if askAt P key = 20 then (P, 2) else (waitR P id key, 0)) else (P, 1)
theorem askR_no {P : Prx} {id : Int} {key : ByteArray} (h : mayB P id key = false) : askR P id key = (P, 1) := by unfold askR; rw [if_neg (by rw [h]; decide)]
theorem askR_hit {P : Prx} {id : Int} {key : ByteArray} (h : mayB P id key = true) (h2 : hitB P key = true) : askR P id key = (hitR P id key, 0) := by unfold askR; rw [if_pos h,if_pos h2]
theorem askR_full {P : Prx} {id : Int} {key : ByteArray} (h : mayB P id key = true) (h2 : hitB P key = false) (h3 : askAt P key = 20) : askR P id key = (P, 2) := by unfold askR; rw [if_pos h,if_neg (by rw [h2]; decide),if_pos h3]
theorem askR_wait {P : Prx} {id : Int} {key : ByteArray} (h : mayB P id key = true) (h2 : hitB P key = false) (h3 : ¬ askAt P key = 20) : askR P id key = (waitR P id key, 0) := by unfold askR; rw [if_pos h,if_neg (by rw [h2]; decide),if_neg h3]
theorem askAt_open {P : Prx} {key : ByteArray} {j : Nat} (h : idxX (openP key) P.fes = (j : Int)) : askAt P key = j := by unfold askAt; rw [h,if_neg (by omega)]; exact Int.toNat_natCast j
theorem askAt_none {P : Prx} {key : ByteArray} (h : idxX (openP key) P.fes = -1) : askAt P key = P.fes.length := by unfold askAt; rw [h,if_pos (by decide)]
theorem place_insC {L : List Cli} {c : Cli} {k : Nat} (h : PlaceC L c.id k false) (hA : AscC L) : L.take k ++ c :: L.drop k = insC L c := by
 have hne := h.none hA
 have h1 : ∀ x ∈ L.take k,x.id < c.id := fun x hx => by
  rw [List.mem_take_iff_getElem] at hx
  obtain ⟨i,hi,rfl⟩ := hx
  exact h.lo i (by omega) (by omega)
 have h2 : ∀ x ∈ L.drop k,c.id < x.id := fun x hx => by
  have hm := List.mem_of_mem_drop hx
  rw [List.mem_drop_iff_getElem] at hx
  obtain ⟨i,hi,rfl⟩ := hx
  have h3 := h.hi (k + i) (by omega) (by omega)
  have h4 := hne _ hm
  omega
 have e1 : L.filter (fun x => decide (x.id < c.id)) = L.take k := by
  conv => lhs; rw [← List.take_append_drop k L]
  rw [List.filter_append,List.filter_eq_self.2 (fun x hx => by simpa using h1 x hx),List.filter_eq_nil_iff.2 (fun x hx => by have := h2 x hx; simp; omega),List.append_nil]
 have e2 : L.filter (fun x => decide (c.id < x.id)) = L.drop k := by
  conv => lhs; rw [← List.take_append_drop k L]
  rw [List.filter_append,List.filter_eq_nil_iff.2 (fun x hx => by have := h1 x hx; simp; omega),List.filter_eq_self.2 (fun x hx => by simpa using h2 x hx),List.nil_append]
 unfold insC
 rw [e1,e2]
theorem ascE_of {P : Prx} (h : OkX P) : AscE P.ents := fun i j hi hj hij => (List.pairwise_iff_getElem.1 h.up) i j hi hj hij
theorem may_ok {P : Prx} {id : Int} {key : ByteArray} (h : mayB P id key = true) : OkX P := by
 unfold mayB at h
 simp only [Bool.and_eq_true] at h
 exact okX_iff.1 h.1
theorem may_new {P : Prx} {id : Int} {key : ByteArray} (h : mayB P id key = true) {k : Nat} {b : Bool} (hp : PlaceC P.cls id k b) : b = false := by
 have h1 := hp.any (ascC_of (may_ok h))
 unfold mayB at h
 simp only [Bool.and_eq_true,Bool.not_eq_true'] at h
 rw [← h1]
 exact h.2.2.2.2
theorem ent_there {E : List En} {key : ByteArray} {k : Nat} (h : PlaceE E key k true) : ∃ hk : k < E.length,E[k].key = key ∧ entAtX E key = (E[k],true) := by
 obtain ⟨hk,he⟩ := h.there.1 rfl
 refine ⟨hk,he,entAtX_there hk (fun j hj hjk e => ?_) he⟩
 have := h.lo j hj hjk
 rw [e,ltS_irr] at this
 cases this
theorem ent_none {E : List En} {key : ByteArray} {k : Nat} (h : PlaceE E key k false) (hA : AscE E) : (entAtX E key).2 = false := by
 have hn := h.none hA
 unfold entAtX
 cases e : E.find? (fun x => decide (x.key = key)) with
 | none => rfl
 | some x =>
  have h1 := List.find?_some e
  have h2 := List.mem_of_find?_eq_some e
  exact absurd (by simpa using h1) (hn x h2)
theorem hit_there {P : Prx} {key : ByteArray} {k : Nat} {e : En} (hk : k < P.ents.length) (he : P.ents[k] = e) (h : entAtX P.ents key = (P.ents[k],true)) (id : Int) : hitB P key = enFresh e P.now ∧ hitC P id key = ⟨id,key, 0,e.st, 2,e.bd,P.now - e.st⟩ := by
 unfold hitB hitC
 rw [h,he]
 exact ⟨by simp,rfl⟩
theorem hit_none {P : Prx} {key : ByteArray} (h : (entAtX P.ents key).2 = false) : hitB P key = false := by unfold hitB; rw [h]; rfl
theorem fresh_st {e : En} {now : Int} (h : enFresh e now = true) : enOk e = true ∧ e.st ≤ now ∧ now ≤ 1000000000 := by
 unfold enFresh at h
 simp only [Bool.and_eq_true] at h
 have h2 := h.2.1
 unfold inB at h2
 simp at h2
 exact ⟨h.1,h2⟩
theorem step_snocN {P : Program} {ops : Array Oper} {o : Oper} {a : Act} {K : Act → World → Prop} {Q : Exit → Act → World → Prop} {E' : Prop} {w : World} (hgd : o.guard = none) (s x : Operand) (t : TypeId)
  (ho : o.op = .call { callee := .builtin .append,args := #[s,x],argTypes := #[t,t] }) (base : Nat) (e : TypeId) (ht : P.underlying t = some (.slice e))
  (hinfo : (P.info? e).map (fun i => (i.zero,i.size,i.bytes)) = some (some (.agg #[.string ⟨#[]⟩,.int .i64 0,.int .i64 0,.string ⟨#[]⟩]), 4, 48)) (v : Value) (L : List En) (hs : a.eval s = v) (hown : OwnN w base e v L)
  (B : Nat) (f : En) (fr : Nat × Nat) (hx : a.eval x = .slice (some ⟨B, 0,none⟩) 1 1) (hB : w.heap[B]? = some (.cells #[.string f.key,.int .i64 f.st,.int .i64 f.lf,.string f.bd] e fr)) (hlen : L.length < 10000000) (hbase : base ≤ w.heap.size)
  (h : ∀ g cap w',OwnN w' base e (.slice (some ⟨g, 0,none⟩) (L.length + 1) cap) (L ++ [f]) → w.grownBy w' v.ownBlock → K (a.put o.dst (.slice (some ⟨g, 0,none⟩) (L.length + 1) cap)) w') :
  if Region.wanted o (yielded ops a.tmps) = true then Oper.wp P o a w K Q else E' := by
 obtain ⟨i0,hi,hz0,hz1,hz2⟩ := info_parts hinfo
 refine step_append_lies w hgd s x t ho base e i0 _ 4 48 ht hi hz0 hz1 hz2 rfl (by decide) v L.length (enl L) hs hown ⟨B, 0,none⟩ 1 1 (enl [f]) hx rfl (fun j u hu => World.news_of_block hB j u (by simpa [enl,En.cells] using hu)) ?_ (by decide) (by unfold maxLen; omega) (by omega) hbase w.heap.size rfl ?_
 ·intro u hu
  simp [enl,En.cells] at hu
  rcases hu with rfl | rfl | rfl | rfl <;> rfl
 ·intro g cap w' h1 h2 _ _
  refine h g cap w' ?_ h2
  unfold OwnN
  rw [show enl (L ++ [f]) = enl L ++ enl [f] by simp [enl],List.length_append,List.length_singleton]
  exact h1
set_option maxRecDepth 100000 in
set_option maxHeartbeats 4000000 in
theorem entryCopy_any (w : World) (x : En) (hs0 : x.key.size ≤ 1048576) (hs1 : x.bd.size ≤ 1048576) :
  Calls Tryz.prog 33 #[.agg #[.string x.key,.int .i64 x.st,.int .i64 x.lf,.string x.bd]] w fun e w' => e = .returned (.agg #[.string x.key,.int .i64 x.st,.int .i64 x.lf,.string x.bd]) ∧ Below w.heap.size w w' := by
 obtain ⟨T,hT⟩ : ∃ T,w.heap.size = T := ⟨_,rfl⟩
 obtain ⟨w0,hw0⟩ : ∃ y,w.alloc (.cells #[.string x.key,.int .i64 x.st,.int .i64 x.lf,.string x.bd] 65) = y := ⟨_,rfl⟩
 obtain ⟨wx,hwx⟩ : ∃ y,w0.alloc (.cells #[.string ⟨#[]⟩,.int .i64 0,.int .i64 0,.string ⟨#[]⟩] 65) = y := ⟨_,rfl⟩
 have hb0 : Below w.heap.size w w0 := by rw [← hw0]; exact (Below.refl _ _).alloc (Nat.le_refl _) _
 have hbx : Below w0.heap.size w0 wx := by rw [← hwx]; exact (Below.refl _ _).alloc (Nat.le_refl _) _
 have s0 : w0.heap.size = T + 1 := by rw [← hw0]; simp [hT]
 have sx : wx.heap.size = T + 2 := by rw [← hwx]; simp; omega
 have hX0 : EnB w0 T 65 x := by rw [← hw0, ← hT]; exact EnB.new _ _ _
 have hXB : EnB wx T 65 x := hX0.on hbx
 have hRB : wx.heap[T + 1]? = some (.cells #[.string ⟨#[]⟩,.int .i64 0,.int .i64 0,.string ⟨#[]⟩] 65 (0, 0)) := by rw [← hwx, ← s0]; exact heap_alloc_new _ _
 have HXW : Hid ((w.alloc (.cells #[.string x.key,.int .i64 x.st,.int .i64 x.lf,.string x.bd] 65)).alloc (.cells #[.string ⟨#[]⟩,.int .i64 0,.int .i64 0,.string ⟨#[]⟩] 65) = wx) := by show _ = _; rw [hw0]; exact hwx
 have HBX : Hid (Below w.heap.size w wx ∧ w.heap.size = T ∧ wx.heap.size = T + 2) := ⟨hb0.trans (hbx.mono hb0.size),hT,sx⟩
 have hdx : Below wx.heap.size wx wx.drew := ⟨rfl,rfl,rfl,Nat.le_refl _,fun _ _ => rfl⟩
 have HCL0 : Hid (∀ wi,Calls Tryz.prog 34 #[.string x.key] wi fun e w' => e = .returned (.string x.key) ∧ Below wi.heap.size wi w') := fun wi => cloneP_any x.key wi hs0
 have HCL1 : Hid (∀ wi,Calls Tryz.prog 34 #[.string x.bd] wi fun e w' => e = .returned (.string x.bd) ∧ Below wi.heap.size wi w') := fun wi => cloneP_any x.bd wi hs1
 have KX : ∀ W,EnB W T 65 x → W.cell? ⟨T, 0,none⟩ = some (.string x.key) ∧ W.cell? ⟨T, 3,none⟩ = some (.string x.bd) := fun W h => ⟨h.cells.1,h.cells.2.2.2⟩
 have HD : Hid (∀ W,Below wx.heap.size wx W → EnB W T 65 x ∧ W.heap[T + 1]? = some (.cells #[.string ⟨#[]⟩,.int .i64 0,.int .i64 0,.string ⟨#[]⟩] 65 (0, 0))) := fun W h => ⟨hXB.on h,(h.block _ (Array.getElem?_eq_some_iff.1 hRB).1).trans hRB⟩
 have hXD := KX _ (HD.out _ hdx).1
 rw [hT]
 clear hw0 hwx hb0 hbx s0 sx hX0 hXB hRB hs0 hs1
 go_enter Tryz.func33,Tryz.ntmps33
 go_upto_region 1 with fail
 rw [HXW.out]
 go_region_held3 (fun W => W.cell? ⟨T, 0,none⟩ = some (.string x.key) ∧ W.cell? ⟨T, 3,none⟩ = some (.string x.bd)) (first | with_reducible exact hXD | with_reducible exact KX _ hD6 | with_reducible exact KX _ hD7 | with_reducible exact hK8 | with_reducible exact hK9)
  (first | (go_at_call 34; first
   | (with_reducible refine (HCL0.out _).mono ?_; rintro e w6 ⟨rfl,hb6⟩; have hC6 := hdx.trans (hb6.mono hdx.size); have hD6 := (HD.out _ hC6).1)
   | (with_reducible refine (HCL1.out _).mono ?_; rintro e w7 ⟨rfl,hb7⟩; have hC7 := hC6.trans (hb7.mono hC6.size); have hD7 := (HD.out _ hC7).1; obtain ⟨d0,d1⟩ := KX _ hD7; have f0 := hD7.thaw 0; have f1 := hD7.thaw 3; have hK8 := KX _ hD7.same1; have hK9 := KX _ hD7.same)))
 have hE9 : EnB ((w7.setCell ⟨T, 0,none⟩ (.string x.key)).setCell ⟨T, 3,none⟩ (.string x.bd)) T 65 x := hD7.same
 have hR9 : ((w7.setCell ⟨T, 0,none⟩ (.string x.key)).setCell ⟨T, 3,none⟩ (.string x.bd)).heap[T + 1]? = some (.cells #[.string ⟨#[]⟩,.int .i64 0,.int .i64 0,.string ⟨#[]⟩] 65 (0, 0)) := by
  rw [Below.heap_setCell _ _ _ _ (by show T + 1 ≠ T; omega),Below.heap_setCell _ _ _ _ (by show T + 1 ≠ T; omega)]
  exact (HD.out _ hC7).2
 have hB9 : Below T w ((w7.setCell ⟨T, 0,none⟩ (.string x.key)).setCell ⟨T, 3,none⟩ (.string x.bd)) := by
  have h := HBX.out.1.trans (hC7.mono HBX.out.1.size)
  rw [HBX.out.2.1] at h
  exact (h.setCell (Nat.le_refl _) _).setCell (Nat.le_refl _) _
 obtain ⟨w9,hw9⟩ : ∃ y,(w7.setCell ⟨T, 0,none⟩ (.string x.key)).setCell ⟨T, 3,none⟩ (.string x.bd) = y := ⟨_,rfl⟩
 rw [hw9] at hE9 hR9 hB9 ⊢
 obtain ⟨u0,u1,u2,u3⟩ := hE9.cells
 have r0 : w9.cell? ⟨T + 1, 0,none⟩ = some (.string ⟨#[]⟩) := by rw [cell_of_row w9 (T + 1) 0 _ _ (0, 0) hR9]; rfl
 have r1 : w9.cell? ⟨T + 1, 1,none⟩ = some (.int .i64 0) := by rw [cell_of_row w9 (T + 1) 1 _ _ (0, 0) hR9]; rfl
 have r2 : w9.cell? ⟨T + 1, 2,none⟩ = some (.int .i64 0) := by rw [cell_of_row w9 (T + 1) 2 _ _ (0, 0) hR9]; rfl
 have r3 : w9.cell? ⟨T + 1, 3,none⟩ = some (.string ⟨#[]⟩) := by rw [cell_of_row w9 (T + 1) 3 _ _ (0, 0) hR9]; rfl
 have tt : ∀ i,w9.frozen? ⟨T + 1,i,none⟩ = false := fun i => by simp [World.frozen?,hR9]
 have t0 := tt 0
 have t1 := tt 1
 have t2 := tt 2
 have t3 := tt 3
 have HF : Hid (EnB ((((w9.setCell ⟨T + 1, 0,none⟩ (.string x.key)).setCell ⟨T + 1, 1,none⟩ (.int .i64 x.st)).setCell ⟨T + 1, 2,none⟩ (.int .i64 x.lf)).setCell ⟨T + 1, 3,none⟩ (.string x.bd)) (T + 1) 65 x) := by
  show EnB _ _ _ _
  unfold EnB
  simp only [World.setCell,Array.getElem?_modify,hR9]
  simp
 have HG : Hid (Below T w ((((w9.setCell ⟨T + 1, 0,none⟩ (.string x.key)).setCell ⟨T + 1, 1,none⟩ (.int .i64 x.st)).setCell ⟨T + 1, 2,none⟩ (.int .i64 x.lf)).setCell ⟨T + 1, 3,none⟩ (.string x.bd))) := (((hB9.setCell (by show T ≤ T + 1; omega) _).setCell (by show T ≤ T + 1; omega) _).setCell (by show T ≤ T + 1; omega) _).setCell (by show T ≤ T + 1; omega) _
 clear hXD hD6 hD7 hC6 hC7 hb6 hb7 d0 d1 f0 f1 hK8 hK9 hE9 hR9 hB9 hw9 HD KX hdx HCL0 HCL1 tt
 go_wp2_with fail
 obtain ⟨q0,q1,q2,q3⟩ := HF.out.cells
 exact bodyPost_ret (v := .agg #[.string x.key,.int .i64 x.st,.int .i64 x.lf,.string x.bd]) (by simp [results,Tryz.results33,go_sem,q0,q1,q2,q3]) rfl ⟨rfl,HG.out⟩
end Go.Proofs.YtaahjcljanckaaaGreatDoor
