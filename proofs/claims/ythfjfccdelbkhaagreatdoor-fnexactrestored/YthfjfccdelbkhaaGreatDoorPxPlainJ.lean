/- Texts that stand in one: PxPlain, PolPlain, EntPlace, KeepPlain, PxSlices, OkWgt. -/
import Derived.Test.YthfjfccdelbkhaaGreatDoorPrxBaseJ
import Derived.Test.YthfjfccdelbkhaaGreatDoorFolderPlainJ
import Derived.Test.YthfjfccdelbkhaaGreatDoorSumTabJ
import Derived.Test.YthfjfccdelbkhaaGreatDoorRowStepJ
import Derived.Test.YthfjfccdelbkhaaGreatDoorFilesJ
import Derived.Test.YthfjfccdelbkhaaGreatDoorShelf
import Derived.Shelf.Abstract
import Derived.Test.YthfjfccdelbkhaaGreatDoorSkNewImplJ
namespace Go.Proofs.YthfjfccdelbkhaaGreatDoor
open Go.RowKit Go.Sort
def offE (L : List En) (key : ByteArray) : List En := keepX (fun e : En => eqS e.key key) L
end Go.Proofs.YthfjfccdelbkhaaGreatDoor
namespace Go.Proofs.YthfjfccdelbkhaaGreatDoor
open Go.RowKit
def pushP (w main : List ByteArray) (sk : Sk) (first : ByteArray) : Pol × ByteArray :=
 if main.length < 4 then (⟨w,main ++ [first],sk⟩,noKey)
 else if guessS sk (main.getD 0 noKey) < guessS sk first then (⟨w,main.tail ++ [first],sk⟩,main.getD 0 noKey)
 else (⟨w,main,sk⟩,first)
def touchP (P : Pol) (key : ByteArray) : Pol × ByteArray :=
 if (okP P && keyOk key) = true then
  if inL P.win key = true then (⟨without P.win key ++ [key],P.main,bumpS P.sk key⟩,noKey)
  else if inL P.main key = true then (⟨P.win,without P.main key ++ [key],bumpS P.sk key⟩,noKey)
  else if P.win.length + 1 ≤ 2 then (⟨P.win ++ [key],P.main,bumpS P.sk key⟩,noKey)
  else pushP (P.win ++ [key]).tail P.main (bumpS P.sk key) (P.win.getD 0 noKey)
 else (P,noKey)
theorem touchP_right {P : Pol} {key : ByteArray} (hP : okP P = true) (hk : keyOk key = true) :
  okP (touchP P key).1 = true ∧ hasP (touchP P key).1 key = true ∧ ((touchP P key).2 ≠ noKey → hasP (touchP P key).1 (touchP P key).2 = false ∧ hasP P (touchP P key).2 = true) ∧
   (touchP P key).1.win.length + (touchP P key).1.main.length + (if (touchP P key).2 = noKey then 0 else 1) = P.win.length + P.main.length + (if hasP P key = true then 0 else 1) := by
 obtain ⟨win,main,sk⟩ := P
 obtain ⟨h1,h2,h3,h4,h5,h6,h7,h8⟩ := okP_iff.1 hP
 dsimp only at h1 h2 h3 h4 h5 h6 h7 h8
 have hsk := bumpS_ok key h8
 have e : touchP ⟨win,main,sk⟩ key = if inL win key = true then (⟨without win key ++ [key],main,bumpS sk key⟩,noKey) else if inL main key = true then (⟨win,without main key ++ [key],bumpS sk key⟩,noKey) else if win.length + 1 ≤ 2 then (⟨win ++ [key],main,bumpS sk key⟩,noKey) else pushP (win ++ [key]).tail main (bumpS sk key) (win.getD 0 noKey) := by
  unfold touchP
  rw [hP,hk]
  rfl
 rw [e]
 clear e
 generalize bumpS sk key = sk' at hsk ⊢
 by_cases hw : inL win key = true
 ·have hw' := inL_iff.1 hw
  have hl := without_length h3 hw'
  rw [if_pos hw]
  have hs : hasP ⟨win,main,sk⟩ key = true := by simp [hasP,hw]
  refine ⟨okP_iff.2 ⟨?_,h2,nodup_snoc.2 ⟨without_nodup h3,fun h => (without_mem.1 h).2 rfl⟩,h4, ?_,by simp; omega,h7,hsk⟩,by simp [hasP,inL],fun h => absurd rfl h, ?_⟩
  ·intro z hz
   rcases List.mem_append.1 hz with hz | hz
   ·exact h1 z (without_mem.1 hz).1
   ·rw [List.mem_singleton.1 hz]; exact hk
  ·intro z hz
   rcases List.mem_append.1 hz with hz | hz
   ·exact h5 z (without_mem.1 hz).1
   ·rw [List.mem_singleton.1 hz]; exact h5 key hw'
  ·rw [hs]; simp; omega
 rw [if_neg hw]
 have hwf := inL_false.1 (by simpa using hw)
 by_cases hm : inL main key = true
 ·have hm' := inL_iff.1 hm
  have hl := without_length h4 hm'
  rw [if_pos hm]
  have hs : hasP ⟨win,main,sk⟩ key = true := by simp [hasP,hm]
  refine ⟨okP_iff.2 ⟨h1, ?_,h3,nodup_snoc.2 ⟨without_nodup h4,fun h => (without_mem.1 h).2 rfl⟩, ?_,h6,by simp; omega,hsk⟩,by simp [hasP,inL],fun h => absurd rfl h, ?_⟩
  ·intro z hz
   rcases List.mem_append.1 hz with hz | hz
   ·exact h2 z (without_mem.1 hz).1
   ·rw [List.mem_singleton.1 hz]; exact hk
  ·intro z hz hmz
   rcases List.mem_append.1 hmz with hmz | hmz
   ·exact h5 z hz (without_mem.1 hmz).1
   ·rw [List.mem_singleton.1 hmz] at hz; exact hwf hz
  ·rw [hs]; simp; omega
 rw [if_neg hm]
 have hmf := inL_false.1 (by simpa using hm)
 have hs : hasP ⟨win,main,sk⟩ key = false := by simp only [hasP,inL_false.2 hwf,inL_false.2 hmf,Bool.or_false]
 by_cases hl : win.length + 1 ≤ 2
 ·rw [if_pos hl]
  refine ⟨okP_iff.2 ⟨?_,h2,nodup_snoc.2 ⟨h3,hwf⟩,h4, ?_,by simp; omega,h7,hsk⟩,by simp [hasP,inL],fun h => absurd rfl h, ?_⟩
  ·intro z hz
   rcases List.mem_append.1 hz with hz | hz
   ·exact h1 z hz
   ·rw [List.mem_singleton.1 hz]; exact hk
  ·intro z hz
   rcases List.mem_append.1 hz with hz | hz
   ·exact h5 z hz
   ·rw [List.mem_singleton.1 hz]; exact hmf
  ·rw [hs]; simp; omega
 rw [if_neg hl]
 obtain ⟨f,s,rfl⟩ : ∃ f s,win = [f,s] := by
  match win,h6,hl with
  | [f,s],_,_ => exact ⟨f,s,rfl⟩
  | [],_,h => simp at h
  | [_],_,h => simp at h
  | _ :: _ :: _ :: _,h,_ => simp at h
 have hf := h1 f (by simp)
 have hfs : f ≠ s := by intro e; subst e; simp at h3
 have hfk : f ≠ key := by intro e; subst e; simp at hwf
 have hsk2 : s ≠ key := by intro e; subst e; simp at hwf
 have hfm := h5 f (by simp)
 have hsm := h5 s (by simp)
 have e2 : ([f,s] ++ [key]).tail = [s,key] := rfl
 have e3 : ([f,s] : List ByteArray).getD 0 noKey = f := rfl
 rw [e2,e3]
 have w1 : ∀ z ∈ [s,key],keyOk z = true := by
  intro z hz
  simp only [List.mem_cons,List.not_mem_nil,or_false] at hz
  rcases hz with rfl | rfl
  ·exact h1 _ (by simp)
  ·exact hk
 have w2 : ([s,key] : List ByteArray).Nodup := by simp [hsk2]
 have w3 : ∀ z ∈ [s,key],z ∉ main ∧ z ≠ f := by
  intro z hz
  simp only [List.mem_cons,List.not_mem_nil,or_false] at hz
  rcases hz with rfl | rfl
  ·exact ⟨hsm,fun e => hfs e.symm⟩
  ·exact ⟨hmf,fun e => hfk e.symm⟩
 unfold pushP
 by_cases h4l : main.length < 4
 ·rw [if_pos h4l]
  refine ⟨okP_iff.2 ⟨w1, ?_,w2,nodup_snoc.2 ⟨h4,hfm⟩, ?_,by simp,by simp; omega,hsk⟩,by simp [hasP,inL],fun h => absurd rfl h, ?_⟩
  ·intro z hz
   rcases List.mem_append.1 hz with hz | hz
   ·exact h2 z hz
   ·rw [List.mem_singleton.1 hz]; exact hf
  ·intro z hz hmz
   rcases List.mem_append.1 hmz with hmz | hmz
   ·exact (w3 z hz).1 hmz
   ·exact (w3 z hz).2 (List.mem_singleton.1 hmz)
  ·rw [hs]; simp; omega
 rw [if_neg h4l]
 by_cases hg : guessS sk' (main.getD 0 noKey) < guessS sk' f
 ·rw [if_pos hg]
  obtain ⟨m0,mr,rfl⟩ : ∃ m0 mr,main = m0 :: mr := by
   cases main with
   | nil => simp at h4l
   | cons a r => exact ⟨a,r,rfl⟩
  have e4 : (m0 :: mr : List ByteArray).getD 0 noKey = m0 := rfl
  rw [e4]
  have hm0 := h2 m0 (by simp)
  rw [List.nodup_cons] at h4
  have hm0f : m0 ≠ f := by intro e; subst e; exact hfm (by simp)
  refine ⟨okP_iff.2 ⟨w1, ?_,w2,nodup_snoc.2 ⟨h4.2,fun h => hfm (List.mem_cons_of_mem _ h)⟩, ?_,by simp,by simp at h7 ⊢; omega,hsk⟩,by simp [hasP,inL],fun _ => ⟨?_, ?_⟩, ?_⟩
  ·intro z hz
   rcases List.mem_append.1 hz with hz | hz
   ·exact h2 z (by simp at hz; simp [hz])
   ·rw [List.mem_singleton.1 hz]; exact hf
  ·intro z hz hmz
   rcases List.mem_append.1 hmz with hmz | hmz
   ·exact (w3 z hz).1 (by simp at hmz; simp [hmz])
   ·exact (w3 z hz).2 (List.mem_singleton.1 hmz)
  ·have a1 : inL [s,key] m0 = false := by
    rw [inL_false]
    intro h
    exact (w3 m0 h).1 (by simp)
   have a2 : inL ((m0 :: mr).tail ++ [f]) m0 = false := by
    rw [inL_false]
    intro h
    rcases List.mem_append.1 h with h | h
    ·exact h4.1 h
    ·exact hm0f (List.mem_singleton.1 h)
   simp only [hasP,a1,a2,Bool.or_false]
  ·have : inL (m0 :: mr) m0 = true := inL_iff.2 (by simp)
   simp only [hasP,this,Bool.or_true]
  ·rw [hs,if_neg (keyOk_ne hm0)]; simp
 ·rw [if_neg hg]
  refine ⟨okP_iff.2 ⟨w1,h2,w2,h4,fun z hz => (w3 z hz).1,by simp,h7,hsk⟩,by simp [hasP,inL],fun _ => ⟨?_, ?_⟩, ?_⟩
  ·have a1 : inL [s,key] f = false := by
    rw [inL_false]
    intro h
    exact (w3 f h).2 rfl
   simp only [hasP,a1,inL_false.2 hfm,Bool.or_false]
  ·have : inL [f,s] f = true := inL_iff.2 (by simp)
   simp only [hasP,this,Bool.true_or]
  ·rw [hs,if_neg (keyOk_ne hf)]; simp
end Go.Proofs.YthfjfccdelbkhaaGreatDoor
namespace Go.Proofs.YthfjfccdelbkhaaGreatDoor
open Go.RowKit Go.Sort
theorem cmpB_lt : ∀ (a b : List UInt8),(Lib.compareBytes a b < 0) ↔ Op.bytesLess a b = true
 | [], [] => by simp [Lib.compareBytes,Op.bytesLess]
 | [],b :: bs => by simp [Lib.compareBytes,Op.bytesLess]
 | a :: ar, [] => by simp [Lib.compareBytes,Op.bytesLess]
 | a :: ar,b :: bs => by
  have ih := cmpB_lt ar bs
  unfold Lib.compareBytes Op.bytesLess
  by_cases h1 : a < b
  ·simp [h1]
  ·by_cases h2 : b < a
   ·have : ¬ a = b := by rintro rfl; exact h1 h2
    simp [h1,h2,this]
   ·have : a = b := by
     have h3 : ¬ a.toNat < b.toNat := fun h => h1 (UInt8.lt_iff_toNat_lt.2 h)
     have h4 : ¬ b.toNat < a.toNat := fun h => h2 (UInt8.lt_iff_toNat_lt.2 h)
     exact UInt8.toNat_inj.1 (by omega)
    subst this
    simp [h1,ih]
def cmpS (a b : ByteArray) : Int := Lib.compareBytes a.data.toList b.data.toList
theorem toListS (a : ByteArray) : a.toList = a.data.toList := ByteArray.toList_eq a
theorem cmpS_lt {a b : ByteArray} : cmpS a b < 0 ↔ ltS a b = true := by
 unfold cmpS ltS
 rw [cmpB_lt,toListS a,toListS b]
theorem cmpB_self : ∀ a : List UInt8,Lib.compareBytes a a = 0
 | [] => rfl
 | a :: r => by
  have h : ¬ a < a := fun h => Nat.lt_irrefl _ (UInt8.lt_iff_toNat_lt.1 h)
  unfold Lib.compareBytes
  rw [if_neg h,if_neg h,cmpB_self r]
theorem cmpB_zero : ∀ (a b : List UInt8),Lib.compareBytes a b = 0 → a = b
 | [], [],_ => rfl
 | [],_ :: _,h => by simp [Lib.compareBytes] at h
 | _ :: _, [],h => by simp [Lib.compareBytes] at h
 | a :: r,b :: s,h => by
  unfold Lib.compareBytes at h
  by_cases h1 : a < b
  ·rw [if_pos h1] at h; exact absurd h (by decide)
  ·rw [if_neg h1] at h
   by_cases h2 : b < a
   ·rw [if_pos h2] at h; exact absurd h (by decide)
   ·rw [if_neg h2] at h
    have h3 : ¬ a.toNat < b.toNat := fun h => h1 (UInt8.lt_iff_toNat_lt.2 h)
    have h4 : ¬ b.toNat < a.toNat := fun h => h2 (UInt8.lt_iff_toNat_lt.2 h)
    have h5 : a = b := UInt8.toNat_inj.1 (by omega)
    rw [h5,cmpB_zero r s h]
theorem cmpS_zero {a b : ByteArray} (h : cmpS a b = 0) : a = b := by
 have := cmpB_zero _ _ h
 obtain ⟨⟨x⟩⟩ := a
 obtain ⟨⟨y⟩⟩ := b
 simp only at this
 rw [this]
def AscE (l : List En) : Prop := ∀ i j (hi : i < l.length) (hj : j < l.length),i < j → ltS l[i].key l[j].key = true
structure PlaceE (rd : List En) (id : ByteArray) (k : Nat) (b : Bool) : Prop where
 le : k ≤ rd.length
 lo : ∀ j (hj : j < rd.length),j < k → ltS rd[j].key id = true
 hi : ∀ j (hj : j < rd.length),k ≤ j → ltS rd[j].key id = false
 there : b = true ↔ ∃ h : k < rd.length,rd[k].key = id
theorem placeE1_eg : ∀ args w,(callFunc 77 args).run Tryz.prog w = .ok (.enter 77 args) w := enters_of Tryz.func77 (by kernel_rfl) rfl
set_option maxHeartbeats 2000000 in
theorem placeE1_any (r : En) (id : ByteArray) (w : World) :
  Calls Tryz.prog 77 #[.agg #[.string r.key,.int .i64 r.st,.int .i64 r.lf,.string r.bd],.string id] w fun e w' => e = .returned (.int .i64 (cmpS r.key id)) ∧ Below w.heap.size w w' := by
 have hb1 : Below w.heap.size w (w.alloc (.cells #[.string r.key,.int .i64 r.st,.int .i64 r.lf,.string r.bd] 47)) := (Below.refl _ _).alloc (Nat.le_refl _) _
 have c1 := Tryz.strings_Compare r.key id (w.alloc (.cells #[.string r.key,.int .i64 r.st,.int .i64 r.lf,.string r.bd] 47))
 go_enter Tryz.func77,Tryz.ntmps77
 go_wp2_with fail
 refine c1.mono ?_
 rintro e w2 ⟨rfl,rfl⟩
 go_wp2_with fail
 go_ret
 exact ⟨rfl,hb1⟩
set_option maxRecDepth 100000 in
set_option maxHeartbeats 4000000 in
theorem searchE_any (w : World) (a : Option Addr) (c : Nat) (rd : List En) (id : ByteArray) (hE : NAt w a rd w.heap.size) (hm : rd.length ≤ 1048577) (hA : AscE rd) :
  Calls Tryz.prog 76 #[.slice a rd.length c,.string id,.func (.func 77) #[] #[]] w fun e w' => ∃ (k : Nat) (b : Bool),e = .returned (.tuple #[.int .i64 (k : Int),.bool b]) ∧ k ≤ rd.length ∧ (∀ j (hj : j < rd.length),j < k → ltS rd[j].key id = true) ∧ (∀ j (hj : j < rd.length),k ≤ j → ltS rd[j].key id = false) ∧ (b = true ↔ ∃ h : k < rd.length,rd[k].key = id) ∧ Below w.heap.size w w' := by
 have eg := placeE1_eg
 obtain ⟨G,hG⟩ : ∃ G : Ending → World → Prop,G = fun e w' => ∃ (k : Nat) (b : Bool),e = .returned (.tuple #[.int .i64 (k : Int),.bool b]) ∧ k ≤ rd.length ∧ (∀ j (hj : j < rd.length),j < k → ltS rd[j].key id = true) ∧ (∀ j (hj : j < rd.length),k ≤ j → ltS rd[j].key id = false) ∧ (b = true ↔ ∃ h : k < rd.length,rd[k].key = id) ∧ Below w.heap.size w w' := ⟨_,rfl⟩
 rw [← hG]
 have HG : Hid (∀ (k : Nat) (b : Bool) w',k ≤ rd.length → (∀ j (hj : j < rd.length),j < k → ltS rd[j].key id = true) → (∀ j (hj : j < rd.length),k ≤ j → ltS rd[j].key id = false) → (b = true ↔ ∃ h : k < rd.length,rd[k].key = id) → Below w.heap.size w w' → G (.returned (.tuple #[.int .i64 (k : Int),.bool b])) w') := by rw [hG]; exact fun k b w' h1 h2 h3 h4 h5 => ⟨k,b,rfl,h1,h2,h3,h4,h5⟩
 have HA : Hid (AscE rd) := hA
 clear hG hA
 go_enter Tryz.func76,Tryz.ntmps76
 go_wp2_with fail
 go_loopw [9, 10] (fun i j wr => Box (∃ (lo hi : Nat),lo ≤ hi ∧ hi ≤ rd.length ∧ i = .int .i64 lo ∧ j = .int .i64 hi ∧ Hid (∀ j (hj : j < rd.length),j < lo → ltS rd[j].key id = true) ∧ Hid (∀ j (hj : j < rd.length),hi ≤ j → ltS rd[j].key id = false) ∧ Below w.heap.size w wr))
  (fun i j _ => (intOf j).toNat - (intOf i).toNat)
 case atStart => exact ⟨⟨0,rd.length,Nat.zero_le _,Nat.le_refl _,rfl,rfl,fun j _ hj => absurd hj (Nat.not_lt_zero _),fun j hj h => absurd hj (by omega),Below.refl _ _⟩⟩
 case round =>
  obtain ⟨lo,hi,hlh,hin,rfl,rfl,HL,HH,hbr⟩ := hrel.out
  clear hrel
  by_cases hlt : lo < hi
  ·have hmid : (lo + hi) / 2 < rd.length := by omega
   obtain ⟨gg,offg,rfl,_,q0,q1,q2,q3⟩ := (hE.below hbr (Nat.le_refl _)) ((lo + hi) / 2) hmid
   obtain ⟨f,hf⟩ : ∃ f,rd[(lo + hi) / 2] = f := ⟨_,rfl⟩
   have HF : Hid (rd[(lo + hi) / 2] = f) := hf
   rw [hf] at q0 q1 q2 q3
   have hc := placeE1_any f id wr
   have HB : Hid (Below w.heap.size w wr) := hbr
   have HLT : Hid (lo < hi ∧ hi ≤ rd.length) := ⟨hlt,hin⟩
   clear hf hbr hE
   by_cases hx : ltS f.key id = true
   ·have hcx : cmpS f.key id < 0 := cmpS_lt.2 hx
    obtain ⟨q,hq⟩ : ∃ q,cmpS f.key id = q := ⟨_,rfl⟩
    rw [hq] at hc hcx
    clear hq
    go_wp2_with (go_at_fn 77; refine hc.mono ?_; rintro e w' ⟨rfl,hb'⟩)
    go_roundw
    case rel =>
     try ((repeat apply Exists.intro); refine ⟨?_,rfl⟩)
     refine ⟨⟨(lo + hi) / 2 + 1,hi,by have := HLT.out; omega,HLT.out.2,by go_num,rfl, ?_,HH,HB.out.trans (hb'.mono HB.out.size)⟩⟩
     intro j hj hjk
     by_cases e : j = (lo + hi) / 2
     ·subst e; rw [HF.out]; exact hx
     ·have := HA.out j ((lo + hi) / 2) hj hmid (by omega)
      rw [HF.out] at this
      exact ltS_trans this hx
    case measure => have := HLT.out; simp [intOf]; omega
   ·have hcx : ¬ cmpS f.key id < 0 := fun h => hx (cmpS_lt.1 h)
    obtain ⟨q,hq⟩ : ∃ q,cmpS f.key id = q := ⟨_,rfl⟩
    rw [hq] at hc hcx
    clear hq
    go_wp2_with (go_at_fn 77; refine hc.mono ?_; rintro e w' ⟨rfl,hb'⟩)
    go_roundw
    case rel =>
     try ((repeat apply Exists.intro); refine ⟨?_,rfl⟩)
     refine ⟨⟨lo,(lo + hi) / 2,by have := HLT.out; omega,by omega,rfl,by go_num,HL, ?_,HB.out.trans (hb'.mono HB.out.size)⟩⟩
     intro j hj hjk
     by_cases e : j = (lo + hi) / 2
     ·subst e; rw [HF.out]; simpa using hx
     ·have := HA.out ((lo + hi) / 2) j hmid hj (by omega)
      rw [HF.out] at this
      cases hz : ltS rd[j].key id with
      | false => rfl
      | true => exact absurd (ltS_trans this hz) hx
    case measure => have := HLT.out; simp [intOf]; omega
  ·obtain rfl : hi = lo := by omega
   have HB : Hid (Below w.heap.size w wr) := hbr
   by_cases hk : hi < rd.length
   ·obtain ⟨gg,offg,rfl,_,q0,q1,q2,q3⟩ := (hE.below hbr (Nat.le_refl _)) hi hk
    obtain ⟨f,hf⟩ : ∃ f,rd[hi] = f := ⟨_,rfl⟩
    have HF : Hid (∃ h : hi < rd.length,rd[hi] = f) := ⟨hk,hf⟩
    rw [hf] at q0 q1 q2 q3
    have hc := placeE1_any f id wr
    have hi1 : (0 : Int) ≤ (hi : Int) := by omega
    have hi2 : (hi : Int) < (rd.length : Int) := by omega
    have HI : Hid (hi ≤ rd.length) := hin
    clear hf hbr hE hk hlt hin hlh
    by_cases hx : f.key = id
    ·have hcx : cmpS f.key id = 0 := by rw [hx]; exact cmpB_self _
     rw [hcx] at hc
     have HX : Hid (f.key = id) := hx
     clear hx hcx
     go_wp2_with (go_at_fn 77; refine hc.mono ?_; rintro e w' ⟨rfl,hb'⟩)
     exact HG.out hi true w' HI.out HL.out HH.out ⟨fun _ => ⟨HF.out.1,by rw [HF.out.2]; exact HX.out⟩,fun _ => rfl⟩ (HB.out.trans (hb'.mono HB.out.size))
    ·have hcx : (cmpS f.key id == 0) = false := by
      have h0 : ¬ cmpS f.key id = 0 := fun h => hx (cmpS_zero h)
      simpa using h0
     obtain ⟨q,hq⟩ : ∃ q,cmpS f.key id = q := ⟨_,rfl⟩
     rw [hq] at hc hcx
     clear hq
     go_wp2_with (go_at_fn 77; refine hc.mono ?_; rintro e w' ⟨rfl,hb'⟩)
     exact HG.out hi false w' HI.out HL.out HH.out ⟨fun h => (by cases h),fun ⟨h,e⟩ => absurd (by rw [HF.out.2] at e; exact e) hx⟩ (HB.out.trans (hb'.mono HB.out.size))
   ·have hi2 : ¬ (hi : Int) < (rd.length : Int) := by omega
    have HI : Hid (hi ≤ rd.length) := hin
    have HN : Hid (¬ hi < rd.length) := hk
    clear hbr hE hk hlt hin hlh
    go_wp2_with fail
    exact HG.out hi false wr HI.out HL.out HH.out ⟨fun h => (by cases h),fun ⟨h,_⟩ => absurd h HN.out⟩ HB.out
set_option maxRecDepth 100000 in
set_option maxHeartbeats 4000000 in
theorem entryPlace_any (w : World) (a : Option Addr) (c : Nat) (rd : List En) (id : ByteArray) (hE : NAt w a rd w.heap.size) (hm : rd.length ≤ 1048577) (hA : AscE rd) :
  Calls Tryz.prog 47 #[.slice a rd.length c,.string id] w fun e w' => ∃ (k : Nat) (b : Bool),e = .returned (.tuple #[.int .i64 (k : Int),.bool b]) ∧ PlaceE rd id k b ∧ Below w.heap.size w w' := by
 obtain ⟨G,hG⟩ : ∃ G : Ending → World → Prop,G = fun e w' => ∃ (k : Nat) (b : Bool),e = .returned (.tuple #[.int .i64 (k : Int),.bool b]) ∧ PlaceE rd id k b ∧ Below w.heap.size w w' := ⟨_,rfl⟩
 rw [← hG]
 have HG : Hid (∀ (k : Nat) (b : Bool) w',PlaceE rd id k b → Below w.heap.size w w' → G (.returned (.tuple #[.int .i64 (k : Int),.bool b])) w') := by rw [hG]; exact fun k b w' h1 h2 => ⟨k,b,rfl,h1,h2⟩
 have c1 := searchE_any w a c rd id hE hm hA
 clear hG hE hA
 go_enter Tryz.func47,Tryz.ntmps47
 go_wp2_with fail
 refine c1.mono ?_
 rintro e w2 ⟨k,b,rfl,h1,h2,h3,h4,hb2⟩
 have HP : Hid (PlaceE rd id k b) := ⟨h1,h2,h3,h4⟩
 clear h1 h2 h3 h4 c1
 go_wp2_with fail
 exact HG.out k b w2 HP.out hb2
theorem PlaceE.none {rd : List En} {id : ByteArray} {k : Nat} (h : PlaceE rd id k false) (hA : AscE rd) : ∀ r ∈ rd, ¬ r.key = id := by
 have hno : ∀ j (hj : j < rd.length), ¬ rd[j].key = id := fun j hj ej => by
  have hk : j = k ∨ k < j ∨ j < k := by omega
  rcases hk with rfl | hk | hk
  ·exact absurd (h.there.2 ⟨hj,ej⟩) (by decide)
  ·have h1 := h.hi k (by omega) (Nat.le_refl _)
   have h2 := hA k j (by omega) hj hk
   rw [ej,h1] at h2
   cases h2
  ·have h1 := h.lo j hj hk
   rw [ej,ltS_irr] at h1
   cases h1
 intro r hr
 obtain ⟨j,hj,rfl⟩ := List.getElem_of_mem hr
 exact hno j hj
def keepB (R : Prx) (e : En) : Bool := hasP (touchP R.pol e.key).1 e.key
def keepR (R : Prx) (e : En) : Prx :=
 ⟨R.now,if keepB R e = true then insE (offE R.ents (touchP R.pol e.key).2) e else offE R.ents (touchP R.pol e.key).2,(touchP R.pol e.key).1,R.fes,R.cls,R.hits⟩
theorem offE_up {E : List En} (key : ByteArray) (h : UpK E) : UpK (offE E key) := h.filter _
theorem upK_asc {E : List En} (h : UpK E) : AscE E := fun i j hi hj hij => (List.pairwise_iff_getElem.1 h) i j hi hj hij
theorem offE_mem {E : List En} {key : ByteArray} {x : En} (h : x ∈ offE E key) : x ∈ E ∧ ¬ x.key = key := by
 unfold offE keepX at h
 rw [List.mem_filter] at h
 refine ⟨h.1,fun e => ?_⟩
 have h2 : (!(eqS x.key key)) = true := h.2
 rw [show eqS x.key key = true from eqS_iff.2 e] at h2
 cases h2
theorem place_insE {E : List En} {e : En} {k : Nat} {b : Bool} (h : PlaceE (offE E e.key) e.key k b) : (offE E e.key).take k ++ e :: (offE E e.key).drop k = insE E e := by
 obtain ⟨M,hM⟩ : ∃ M,offE E e.key = M := ⟨_,rfl⟩
 rw [hM] at h ⊢
 have h1 : ∀ x ∈ M.take k,ltS x.key e.key = true := fun x hx => by
  rw [List.mem_take_iff_getElem] at hx
  obtain ⟨i,hi,rfl⟩ := hx
  exact h.lo i (by omega) (by omega)
 have h2 : ∀ x ∈ M.drop k,ltS e.key x.key = true := fun x hx => by
  have h4 : ¬ x.key = e.key := (offE_mem (E := E) (by rw [hM]; exact List.mem_of_mem_drop hx)).2
  rw [List.mem_drop_iff_getElem] at hx
  obtain ⟨i,hi,rfl⟩ := hx
  have h3 := h.hi (k + i) (by omega) (by omega)
  rcases ltS_total h4 with h5 | h5
  ·rw [h3] at h5; cases h5
  ·exact h5
 have e0 : ∀ p : En → Bool,(∀ x,x.key = e.key → p x = false) → E.filter p = M.filter p := fun p hp => by
  rw [← hM]
  unfold offE keepX
  rw [List.filter_filter]
  refine List.filter_congr fun x _ => ?_
  show p x = (p x && !(eqS x.key e.key))
  cases hx : eqS x.key e.key with
  | true => rw [hp x (eqS_iff.1 hx)]; rfl
  | false => simp
 have e1 : M.filter (fun x => ltS x.key e.key) = M.take k := by
  conv => lhs; rw [← List.take_append_drop k M]
  rw [List.filter_append,List.filter_eq_self.2 (fun x hx => h1 x hx),List.filter_eq_nil_iff.2 (fun x hx => by rw [ltS_asym (h2 x hx)]; decide),List.append_nil]
 have e2 : M.filter (fun x => ltS e.key x.key) = M.drop k := by
  conv => lhs; rw [← List.take_append_drop k M]
  rw [List.filter_append,List.filter_eq_nil_iff.2 (fun x hx => by rw [ltS_asym (h1 x hx)]; decide),List.filter_eq_self.2 (fun x hx => h2 x hx),List.nil_append]
 unfold insE
 rw [e0 _ (fun x hx => by rw [hx,ltS_irr]),e0 (fun x => ltS e.key x.key) (fun x hx => by rw [hx,ltS_irr]),e1,e2]
theorem keepR_no {R : Prx} {e : En} (h : keepB R e = false) : keepR R e = ⟨R.now,offE R.ents (touchP R.pol e.key).2,(touchP R.pol e.key).1,R.fes,R.cls,R.hits⟩ := by unfold keepR; rw [if_neg (by rw [h]; decide)]
theorem keepR_yes {R : Prx} {e : En} (h : keepB R e = true) : keepR R e = ⟨R.now,insE (offE R.ents (touchP R.pol e.key).2) e,(touchP R.pol e.key).1,R.fes,R.cls,R.hits⟩ := by unfold keepR; rw [if_pos h]
theorem CliV.at' {w : World} {a : Option Addr} {c : Nat} {L : List Cli} {B : Nat} (h : CliV w (.slice a L.length c) L B) : CliAt w a L B := by
 obtain ⟨a',c',e,h⟩ := h
 cases e
 exact h
theorem FetV.at' {w : World} {a : Option Addr} {c : Nat} {L : List Fet} {B : Nat} (h : FetV w (.slice a L.length c) L B) : FetAt w a L B := by
 obtain ⟨a',c',e,h⟩ := h
 cases e
 exact h
theorem EnsV.at' {w : World} {a : Option Addr} {c : Nat} {L : List En} {B : Nat} (h : EnsV w (.slice a L.length c) L B) : NAt w a L B := by
 obtain ⟨a',c',e,h⟩ := h
 cases e
 exact h
theorem StrsV.at' {w : World} {a : Option Addr} {c : Nat} {L : List ByteArray} {B : Nat} (h : StrsV w (.slice a L.length c) L B) : LAt w a L B := by
 obtain ⟨a',c',e,h⟩ := h
 cases e
 exact h
theorem SSV.at' {w : World} {a : Option Addr} {c : Nat} {L : List (List Int)} {B : Nat} (h : SSV w (.slice a L.length c) L B) : SSAt w a L B := by
 obtain ⟨a',c',e,h⟩ := h
 cases e
 exact h
theorem PxAt.slices {w : World} {X : Pc} {R : Prx} {B : Nat} (h : PxAt w X R B) : ∃ (e0 : Option Addr) (e1 : Nat) (p0 : Option Addr) (p1 : Nat) (m0 : Option Addr) (m1 : Nat) (k0 : Option Addr) (k1 : Nat) (f0 : Option Addr) (f1 : Nat) (c0 : Option Addr) (c1 : Nat),X = ⟨.slice e0 R.ents.length e1,.slice p0 R.pol.win.length p1,.slice m0 R.pol.main.length m1,.slice k0 R.pol.sk.rows.length k1,.slice f0 R.fes.length f1,.slice c0 R.cls.length c1⟩ := by
 obtain ⟨xe,xw,xm,xk,xf,xc⟩ := X
 obtain ⟨⟨e0,e1,h1,_⟩,⟨w0,w1,h2,_⟩,⟨m0,m1,h3,_⟩,⟨k0,k1,h4,_⟩,⟨f0,f1,h5,_⟩,⟨c0,c1,h6,_⟩⟩ := h
 dsimp only at *
 subst h1 h2 h3 h4 h5 h6
 exact ⟨_,_,_,_,_,_,_,_,_,_,_,_,rfl⟩
theorem PxAt.polAt {w : World} {e0 p0 m0 k0 f0 c0 : Option Addr} {e1 p1 m1 k1 f1 c1 : Nat} {R : Prx} {B : Nat} (h : PxAt w ⟨.slice e0 R.ents.length e1,.slice p0 R.pol.win.length p1,.slice m0 R.pol.main.length m1,.slice k0 R.pol.sk.rows.length k1,.slice f0 R.fes.length f1,.slice c0 R.cls.length c1⟩ R B) : PolAt w p0 m0 k0 R.pol B := ⟨StrsV.at' h.pw,StrsV.at' h.pm,SSV.at' h.pk⟩
theorem PxSz.ents {R : Prx} (h : PxSz R) : ∀ e ∈ R.ents,e.key.size ≤ 1048576 ∧ e.bd.size ≤ 1048576 := fun c hc => by
 obtain ⟨j,hj,rfl⟩ := List.getElem_of_mem hc
 have h1 := ewg_mem hj
 have h2 : wgtX R ≤ 1048576 := h
 unfold wgtX at h2
 unfold En.wg at h1
 omega
theorem PxSz.fes {R : Prx} (h : PxSz R) : ∀ e ∈ R.fes,e.key.size ≤ 1048576 ∧ e.tx.size ≤ 1048576 := fun c hc => by
 obtain ⟨j,hj,rfl⟩ := List.getElem_of_mem hc
 have h1 := ftwg_mem hj
 have h2 : wgtX R ≤ 1048576 := h
 unfold wgtX at h2
 unfold Fet.wg at h1
 omega
theorem PxSz.cls {R : Prx} (h : PxSz R) : ∀ e ∈ R.cls,e.key.size ≤ 1048576 ∧ e.got.size ≤ 1048576 := fun c hc => by
 obtain ⟨j,hj,rfl⟩ := List.getElem_of_mem hc
 have h1 := clwg_mem hj
 have h2 : wgtX R ≤ 1048576 := h
 unfold wgtX at h2
 unfold Cli.wg at h1
 omega
theorem ewg_le {b : Nat} : ∀ {L : List En},(∀ e ∈ L,e.wg ≤ b) → ewg L ≤ L.length * b
 | [],_ => Nat.zero_le _
 | a :: r,h => by
  have h1 := ewg_le (fun e he => h e (List.mem_cons_of_mem _ he))
  have h2 := h a (by simp)
  simp only [ewg,List.length_cons,Nat.succ_mul]
  omega
end Go.Proofs.YthfjfccdelbkhaaGreatDoor
