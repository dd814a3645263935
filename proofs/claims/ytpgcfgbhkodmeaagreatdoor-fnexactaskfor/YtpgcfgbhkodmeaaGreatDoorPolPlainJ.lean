/- Texts that stand in one: PolPlain, SeatKit, SkOkSpec, SkOkImpl. -/
import Derived.Test.YtpgcfgbhkodmeaaGreatDoorSumTabJ
import Derived.Test.YtpgcfgbhkodmeaaGreatDoorCellPlainJ
import Derived.Test.YtpgcfgbhkodmeaaGreatDoorInvModeJ
import Derived.Shelf.Abstract
import Derived.Test.YtpgcfgbhkodmeaaGreatDoorSkKitJ
import Derived.Test.YtpgcfgbhkodmeaaGreatDoorShelf
namespace Go.Proofs.YtpgcfgbhkodmeaaGreatDoor
open Go.RowKit
def pushP (w main : List ByteArray) (sk : Sk) (first : ByteArray) : Pol × ByteArray :=
 if main.length < 4 then (⟨w,main ++ [first],sk⟩,noKey)
 else if guessS sk (main.getD 0 noKey) < guessS sk first then (⟨w,main.tail ++ [first],sk⟩,main.getD 0 noKey)
 else (⟨w,main,sk⟩,first)
def touchP (P : Pol) (key : ByteArray) : Pol × ByteArray :=
 if (okP P && keyOk key) = true then
  if inL P.win key = true then (⟨without P.win key ++ [key],P.main,bumpS P.sk key⟩,noKey)
  else if inL P.main key = true then (⟨P.win,without P.main key ++ [key],bumpS P.sk key⟩,noKey)
  else if P.win.length + 1 ≤ 2 then (⟨P.win ++ [key],P.main,bumpS P.sk key⟩,noKey)
  else pushP (P.win ++ [key]).tail P.main (bumpS P.sk key) (P.win.getD 0 noKey)
 else (P,noKey)
theorem touchP_right {P : Pol} {key : ByteArray} (hP : okP P = true) (hk : keyOk key = true) :
  okP (touchP P key).1 = true ∧ hasP (touchP P key).1 key = true ∧ ((touchP P key).2 ≠ noKey → hasP (touchP P key).1 (touchP P key).2 = false ∧ hasP P (touchP P key).2 = true) ∧
   (touchP P key).1.win.length + (touchP P key).1.main.length + (if (touchP P key).2 = noKey then 0 else 1) = P.win.length + P.main.length + (if hasP P key = true then 0 else 1) := by
 obtain ⟨win,main,sk⟩ := P
 obtain ⟨h1,h2,h3,h4,h5,h6,h7,h8⟩ := okP_iff.1 hP
 dsimp only at h1 h2 h3 h4 h5 h6 h7 h8
 have hsk := bumpS_ok key h8
 have e : touchP ⟨win,main,sk⟩ key = if inL win key = true then (⟨without win key ++ [key],main,bumpS sk key⟩,noKey) else if inL main key = true then (⟨win,without main key ++ [key],bumpS sk key⟩,noKey) else if win.length + 1 ≤ 2 then (⟨win ++ [key],main,bumpS sk key⟩,noKey) else pushP (win ++ [key]).tail main (bumpS sk key) (win.getD 0 noKey) := by
  unfold touchP
  rw [hP,hk]
  rfl
 rw [e]
 clear e
 generalize bumpS sk key = sk' at hsk ⊢
 by_cases hw : inL win key = true
 ·have hw' := inL_iff.1 hw
  have hl := without_length h3 hw'
  rw [if_pos hw]
  have hs : hasP ⟨win,main,sk⟩ key = true := by simp [hasP,hw]
  refine ⟨okP_iff.2 ⟨?_,h2,nodup_snoc.2 ⟨without_nodup h3,fun h => (without_mem.1 h).2 rfl⟩,h4, ?_,by simp; omega,h7,hsk⟩,by simp [hasP,inL],fun h => absurd rfl h, ?_⟩
  ·intro z hz
   rcases List.mem_append.1 hz with hz | hz
   ·exact h1 z (without_mem.1 hz).1
   ·rw [List.mem_singleton.1 hz]; exact hk
  ·intro z hz
   rcases List.mem_append.1 hz with hz | hz
   ·exact h5 z (without_mem.1 hz).1
   ·rw [List.mem_singleton.1 hz]; exact h5 key hw'
  ·rw [hs]; simp; omega
 rw [if_neg hw]
 have hwf := inL_false.1 (by simpa using hw)
 by_cases hm : inL main key = true
 ·have hm' := inL_iff.1 hm
  have hl := without_length h4 hm'
  rw [if_pos hm]
  have hs : hasP ⟨win,main,sk⟩ key = true := by simp [hasP,hm]
  refine ⟨okP_iff.2 ⟨h1, ?_,h3,nodup_snoc.2 ⟨without_nodup h4,fun h => (without_mem.1 h).2 rfl⟩, ?_,h6,by simp; omega,hsk⟩,by simp [hasP,inL],fun h => absurd rfl h, ?_⟩
  ·intro z hz
   rcases List.mem_append.1 hz with hz | hz
   ·exact h2 z (without_mem.1 hz).1
   ·rw [List.mem_singleton.1 hz]; exact hk
  ·intro z hz hmz
   rcases List.mem_append.1 hmz with hmz | hmz
   ·exact h5 z hz (without_mem.1 hmz).1
   ·rw [List.mem_singleton.1 hmz] at hz; exact hwf hz
  ·rw [hs]; simp; omega
 rw [if_neg hm]
 have hmf := inL_false.1 (by simpa using hm)
 have hs : hasP ⟨win,main,sk⟩ key = false := by simp only [hasP,inL_false.2 hwf,inL_false.2 hmf,Bool.or_false]
 by_cases hl : win.length + 1 ≤ 2
 ·rw [if_pos hl]
  refine ⟨okP_iff.2 ⟨?_,h2,nodup_snoc.2 ⟨h3,hwf⟩,h4, ?_,by simp; omega,h7,hsk⟩,by simp [hasP,inL],fun h => absurd rfl h, ?_⟩
  ·intro z hz
   rcases List.mem_append.1 hz with hz | hz
   ·exact h1 z hz
   ·rw [List.mem_singleton.1 hz]; exact hk
  ·intro z hz
   rcases List.mem_append.1 hz with hz | hz
   ·exact h5 z hz
   ·rw [List.mem_singleton.1 hz]; exact hmf
  ·rw [hs]; simp; omega
 rw [if_neg hl]
 obtain ⟨f,s,rfl⟩ : ∃ f s,win = [f,s] := by
  match win,h6,hl with
  | [f,s],_,_ => exact ⟨f,s,rfl⟩
  | [],_,h => simp at h
  | [_],_,h => simp at h
  | _ :: _ :: _ :: _,h,_ => simp at h
 have hf := h1 f (by simp)
 have hfs : f ≠ s := by intro e; subst e; simp at h3
 have hfk : f ≠ key := by intro e; subst e; simp at hwf
 have hsk2 : s ≠ key := by intro e; subst e; simp at hwf
 have hfm := h5 f (by simp)
 have hsm := h5 s (by simp)
 have e2 : ([f,s] ++ [key]).tail = [s,key] := rfl
 have e3 : ([f,s] : List ByteArray).getD 0 noKey = f := rfl
 rw [e2,e3]
 have w1 : ∀ z ∈ [s,key],keyOk z = true := by
  intro z hz
  simp only [List.mem_cons,List.not_mem_nil,or_false] at hz
  rcases hz with rfl | rfl
  ·exact h1 _ (by simp)
  ·exact hk
 have w2 : ([s,key] : List ByteArray).Nodup := by simp [hsk2]
 have w3 : ∀ z ∈ [s,key],z ∉ main ∧ z ≠ f := by
  intro z hz
  simp only [List.mem_cons,List.not_mem_nil,or_false] at hz
  rcases hz with rfl | rfl
  ·exact ⟨hsm,fun e => hfs e.symm⟩
  ·exact ⟨hmf,fun e => hfk e.symm⟩
 unfold pushP
 by_cases h4l : main.length < 4
 ·rw [if_pos h4l]
  refine ⟨okP_iff.2 ⟨w1, ?_,w2,nodup_snoc.2 ⟨h4,hfm⟩, ?_,by simp,by simp; omega,hsk⟩,by simp [hasP,inL],fun h => absurd rfl h, ?_⟩
  ·intro z hz
   rcases List.mem_append.1 hz with hz | hz
   ·exact h2 z hz
   ·rw [List.mem_singleton.1 hz]; exact hf
  ·intro z hz hmz
   rcases List.mem_append.1 hmz with hmz | hmz
   ·exact (w3 z hz).1 hmz
   ·exact (w3 z hz).2 (List.mem_singleton.1 hmz)
  ·rw [hs]; simp; omega
 rw [if_neg h4l]
 by_cases hg : guessS sk' (main.getD 0 noKey) < guessS sk' f
 ·rw [if_pos hg]
  obtain ⟨m0,mr,rfl⟩ : ∃ m0 mr,main = m0 :: mr := by
   cases main with
   | nil => simp at h4l
   | cons a r => exact ⟨a,r,rfl⟩
  have e4 : (m0 :: mr : List ByteArray).getD 0 noKey = m0 := rfl
  rw [e4]
  have hm0 := h2 m0 (by simp)
  rw [List.nodup_cons] at h4
  have hm0f : m0 ≠ f := by intro e; subst e; exact hfm (by simp)
  refine ⟨okP_iff.2 ⟨w1, ?_,w2,nodup_snoc.2 ⟨h4.2,fun h => hfm (List.mem_cons_of_mem _ h)⟩, ?_,by simp,by simp at h7 ⊢; omega,hsk⟩,by simp [hasP,inL],fun _ => ⟨?_, ?_⟩, ?_⟩
  ·intro z hz
   rcases List.mem_append.1 hz with hz | hz
   ·exact h2 z (by simp at hz; simp [hz])
   ·rw [List.mem_singleton.1 hz]; exact hf
  ·intro z hz hmz
   rcases List.mem_append.1 hmz with hmz | hmz
   ·exact (w3 z hz).1 (by simp at hmz; simp [hmz])
   ·exact (w3 z hz).2 (List.mem_singleton.1 hmz)
  ·have a1 : inL [s,key] m0 = false := by
    rw [inL_false]
    intro h
    exact (w3 m0 h).1 (by simp)
   have a2 : inL ((m0 :: mr).tail ++ [f]) m0 = false := by
    rw [inL_false]
    intro h
    rcases List.mem_append.1 h with h | h
    ·exact h4.1 h
    ·exact hm0f (List.mem_singleton.1 h)
   simp only [hasP,a1,a2,Bool.or_false]
  ·have : inL (m0 :: mr) m0 = true := inL_iff.2 (by simp)
   simp only [hasP,this,Bool.or_true]
  ·rw [hs,if_neg (keyOk_ne hm0)]; simp
 ·rw [if_neg hg]
  refine ⟨okP_iff.2 ⟨w1,h2,w2,h4,fun z hz => (w3 z hz).1,by simp,h7,hsk⟩,by simp [hasP,inL],fun _ => ⟨?_, ?_⟩, ?_⟩
  ·have a1 : inL [s,key] f = false := by
    rw [inL_false]
    intro h
    exact (w3 f h).2 rfl
   simp only [hasP,a1,inL_false.2 hfm,Bool.or_false]
  ·have : inL [f,s] f = true := inL_iff.2 (by simp)
   simp only [hasP,this,Bool.true_or]
  ·rw [hs,if_neg (keyOk_ne hf)]; simp
end Go.Proofs.YtpgcfgbhkodmeaaGreatDoor
namespace Go.Proofs.YtpgcfgbhkodmeaaGreatDoor
open Go.RowKit Go.Sort
def outF (G : Nat) : Value := .func (.func 176) #[] #[.pointer (some ⟨G, 0,none⟩)]
theorem out_eg : ∀ args w,(callFunc 176 args).run Tryz.prog w = .ok (.enter 176 args) w := enters_of Tryz.func176 (by kernel_rfl) rfl
theorem one_cell {w : World} {G : Nat} {x : Value} {t : TypeId} (h : w.heap[G]? = some (.cells #[x] t (0, 0))) : w.cell? ⟨G, 0,none⟩ = some x ∧ w.frozen? ⟨G, 0,none⟩ = false := by
 exact ⟨by rw [cell_of_row w G 0 _ _ (0, 0) h]; rfl,by simp [World.frozen?,h]⟩
theorem out_any (W : World) (G : Nat) (x y : ByteArray) (h : W.heap[G]? = some (.cells #[.string y] 9 (0, 0))) :
  Calls Tryz.prog 176 #[.string x,.pointer (some ⟨G, 0,none⟩)] W fun e w' => e = .returned (.tuple #[]) ∧ w' = W.setCell ⟨G, 0,none⟩ (.string x) := by
 obtain ⟨c0,f0⟩ := one_cell h
 go_enter Tryz.func176,Tryz.ntmps176
 go_wp2
 go_end0
 exact ⟨rfl,rfl⟩
def Seats (w : World) (V G lo : Nat) (v1 v2 v3 : Value) (P : Pol) (out : ByteArray) : Prop :=
 PHold w V 213 [outF G] lo v1 v2 v3 P ∧ w.heap[G]? = some (.cells #[.string out] 9 (0, 0)) ∧ G < lo ∧ lo ≤ V
theorem seats_ty : tyOk 213 := by unfold tyOk; decide
theorem Seats.out {w : World} {V G lo : Nat} {v1 v2 v3 : Value} {P : Pol} {o : ByteArray} (h : Seats w V G lo v1 v2 v3 P o) (x : ByteArray) : Seats (w.setCell ⟨G, 0,none⟩ (.string x)) V G lo v1 v2 v3 P x := by
 obtain ⟨h1,h2,h3,h4⟩ := h
 refine ⟨h1.far h2 (.inr h3) (by omega) (fun k hk => Below.heap_setCell _ _ _ _ (by exact hk)) (by simp [World.setCell]), ?_,h3,h4⟩
 rw [heap_put h2]; simp
theorem Seats.on {w w' : World} {V G lo : Nat} {v1 v2 v3 : Value} {P : Pol} {o : ByteArray} (h : Seats w V G lo v1 v2 v3 P o) (hb : Below w.heap.size w w') : Seats w' V G lo v1 v2 v3 P o :=
 ⟨h.1.on hb,(hb.block G (Array.getElem?_eq_some_iff.1 h.2.1).1).trans h.2.1,h.2.2⟩
theorem Seats.lo {w : World} {V G lo : Nat} {v1 v2 v3 : Value} {P : Pol} {o : ByteArray} (h : Seats w V G lo v1 v2 v3 P o) : lo ≤ w.heap.size := by
 have := h.1.lt
 have := h.2.2.2
 omega
theorem Seats.gone1 {w w' : World} {V G lo : Nat} {v1 v2 v3 : Value} {P : Pol} {o : ByteArray} (h : Seats w V G lo v1 v2 v3 P o) (hg : w.grownBy w' v1.ownBlock) (i : Nat) (x : Value) : (w'.setCell ⟨V,i,none⟩ x).heap[G]? = some (.cells #[.string o] 9 (0, 0)) := by
 have h3 := h.2.2.1
 have h4 := h.2.2.2
 rw [Below.heap_setCell _ _ _ _ (by show G ≠ V; omega),hg.block G (Array.getElem?_eq_some_iff.1 h.2.1).1 (fun e => by have := (h.1.2.1.lt G e.symm).1; omega)]
 exact h.2.1
theorem Seats.gone2 {w w' : World} {V G lo : Nat} {v1 v2 v3 : Value} {P : Pol} {o : ByteArray} (h : Seats w V G lo v1 v2 v3 P o) (hg : w.grownBy w' v2.ownBlock) (i : Nat) (x : Value) : (w'.setCell ⟨V,i,none⟩ x).heap[G]? = some (.cells #[.string o] 9 (0, 0)) := by
 have h3 := h.2.2.1
 have h4 := h.2.2.2
 rw [Below.heap_setCell _ _ _ _ (by show G ≠ V; omega),hg.block G (Array.getElem?_eq_some_iff.1 h.2.1).1 (fun e => by have := (h.1.2.2.1.lt G e.symm).1; omega)]
 exact h.2.1
theorem Seats.win {w w' : World} {V G lo : Nat} {v1 v2 v3 v1' : Value} {P : Pol} {o : ByteArray} {W' : List ByteArray} (h : Seats w V G lo v1 v2 v3 P o) (hg : w.grownBy w' v1.ownBlock) (ho : OwnV w' lo 9 v1' (strs W')) (hn : ∀ k,v1'.ownBlock = some k → v1.ownBlock = some k ∨ w.heap.size ≤ k) :
  Seats (w'.setCell ⟨V, 0,none⟩ v1') V G lo v1' v2 v3 ⟨W',P.main,P.sk⟩ o ∧ Below G w (w'.setCell ⟨V, 0,none⟩ v1') := by
 have h3 := h.2.2.1
 have h4 := h.2.2.2
 have h5 := h.lo
 refine ⟨⟨h.1.setWin seats_ty hg ho hn,h.gone1 hg 0 _,h.2.2⟩, ?_⟩
 exact ((Below.refl G w).grown hg (by omega) (fun k e => by have := (h.1.2.1.lt k e).1; omega)).setCell (by show G ≤ V; omega) _
theorem Seats.main {w w' : World} {V G lo : Nat} {v1 v2 v3 v2' : Value} {P : Pol} {o : ByteArray} {W' : List ByteArray} (h : Seats w V G lo v1 v2 v3 P o) (hg : w.grownBy w' v2.ownBlock) (ho : OwnV w' lo 9 v2' (strs W')) (hn : ∀ k,v2'.ownBlock = some k → v2.ownBlock = some k ∨ w.heap.size ≤ k) :
  Seats (w'.setCell ⟨V, 1,none⟩ v2') V G lo v1 v2' v3 ⟨P.win,W',P.sk⟩ o ∧ Below G w (w'.setCell ⟨V, 1,none⟩ v2') := by
 have h3 := h.2.2.1
 have h4 := h.2.2.2
 have h5 := h.lo
 refine ⟨⟨h.1.setMain seats_ty hg ho hn,h.gone2 hg 1 _,h.2.2⟩, ?_⟩
 exact ((Below.refl G w).grown hg (by omega) (fun k e => by have := (h.1.2.2.1.lt k e).1; omega)).setCell (by show G ≤ V; omega) _
theorem okK_false {rows : List (List Int)} {added : Int} {k : Nat} (hk : k < rows.length) (h : rowOk rows[k] = false) : okK ⟨rows,added⟩ = false := by
 unfold okK
 rw [Bool.and_eq_false_iff]
 right
 rw [List.all_eq_false]
 exact ⟨rows[k],List.getElem_mem _,by simp [h]⟩
theorem okK_true {rows : List (List Int)} {added : Int} (h0 : headOkK ⟨rows,added⟩ = true) (h : ∀ j (hj : j < rows.length),rowOk rows[j] = true) : okK ⟨rows,added⟩ = true := by
 unfold okK
 rw [Bool.and_eq_true]
 refine ⟨h0, ?_⟩
 rw [List.all_eq_true]
 intro r hr
 obtain ⟨j,hj,rfl⟩ := List.getElem_of_mem hr
 exact h j hj
theorem rowOk_len_false {r : List Int} (h : ¬ r.length = 16) : rowOk r = false := by simp [rowOk,h]
theorem rowOk_num_false {r : List Int} {q : Nat} (hq : q < r.length) (h : numOk r[q] = false) : rowOk r = false := by
 unfold rowOk
 rw [Bool.and_eq_false_iff]
 right
 rw [List.all_eq_false]
 exact ⟨r[q],List.getElem_mem _,by simp [h]⟩
theorem rowOk_true {r : List Int} (hl : r.length = 16) (h : ∀ q (hq : q < r.length),numOk r[q] = true) : rowOk r = true := by
 unfold rowOk
 rw [Bool.and_eq_true]
 refine ⟨by simpa using hl, ?_⟩
 rw [List.all_eq_true]
 intro z hz
 obtain ⟨q,hq,rfl⟩ := List.getElem_of_mem hz
 exact h q hq
set_option maxRecDepth 100000 in
set_option maxHeartbeats 2000000 in
theorem specSketchOk_any (w : World) (a : Option Addr) (c : Nat) (S : Sk) (hA : SSAt w a S.rows w.heap.size) (hm : S.rows.length ≤ 1048576) :
  Calls Tryz.prog 112 #[.agg #[.slice a S.rows.length c,.int .i64 S.added]] w fun e w' => e = .returned (.bool (okK S)) ∧ Below w.heap.size w w' := by
 obtain ⟨rows,added⟩ := S
 dsimp only at *
 obtain ⟨w1,hw1⟩ : ∃ x,w.alloc (.cells #[.slice a rows.length c,.int .i64 added] 42) = x := ⟨_,rfl⟩
 have hb1 : Below w.heap.size w w1 := by rw [← hw1]; exact (Below.refl _ _).alloc (Nat.le_refl _) _
 have hB : SkBox w1 w.heap.size (.slice a rows.length c) (.int .i64 added) := by rw [← hw1]; exact SkBox.new _ _ _
 have hA1 := hA.on hb1
 obtain ⟨b0,b1⟩ := hB.cells
 have HW : Hid (w.alloc (.cells #[.slice a rows.length c,.int .i64 added] 42) = w1) := hw1
 rw [← hw1] at b0 b1
 clear hw1 hB hA
 go_enter Tryz.func112,Tryz.ntmps112
 by_cases h3 : rows.length = 3
 case neg =>
  have hn : ((rows.length : Int) != 3) = true := by simp; omega
  have HF : Hid (okK ⟨rows,added⟩ = false) := by show _ = _; simp [okK,headOkK,h3]
  clear h3
  go_wp2
  go_ret
  exact ⟨by rw [HF.out]; rfl,by rw [HW.out]; exact hb1⟩
 have hn : ((rows.length : Int) != 3) = false := by simp; omega
 have H3 : Hid (rows.length = 3) := h3
 clear h3
 by_cases hin : inN added 0 63 = true
 case neg =>
  have hinf : inN added 0 63 = false := by simpa using hin
  have cI : ∀ wi,Calls Tryz.prog 44 #[.int .i64 added,.int .i64 0,.int .i64 63] wi fun e w' => e = .returned (.bool false) ∧ w' = wi := by intro wi; have := in_any added 0 63 wi; rw [hinf] at this; exact this
  have HF : Hid (okK ⟨rows,added⟩ = false) := by
   have e : decide (0 ≤ added ∧ added ≤ 63) = false := hinf
   show _ = _
   simp only [okK,headOkK,e,Bool.and_false,Bool.false_and]
  clear hin hinf
  go_wp2_with (go_at_call 44; refine (cI _).mono ?_; rintro e w' ⟨rfl,rfl⟩)
  go_ret
  exact ⟨by rw [HF.out]; rfl,by rw [HW.out]; exact hb1⟩
 have cI : ∀ wi,Calls Tryz.prog 44 #[.int .i64 added,.int .i64 0,.int .i64 63] wi fun e w' => e = .returned (.bool true) ∧ w' = wi := by intro wi; have := in_any added 0 63 wi; rw [hin] at this; exact this
 have HH : Hid (headOkK ⟨rows,added⟩ = true) := by
  have e : decide (0 ≤ added ∧ added ≤ 63) = true := hin
  show _ = _
  simp only [headOkK,e,H3.out,decide_true,Bool.and_true]
 clear hin
 go_wp2_with (go_at_call 44; refine (cI _).mono ?_; rintro e w' ⟨rfl,rfl⟩)
 rw [HW.out] at b0 b1 ⊢
 go_loopw [3, 4] (fun i _ wr => Box (∃ (k : Nat),k ≤ rows.length ∧ i = .int .i64 k ∧ Hid (∀ j (hj : j < rows.length),j < k → rowOk rows[j] = true) ∧ w1 = wr))
  (fun i _ _ => rows.length - (intOf i).toNat)
 case atStart => exact ⟨⟨0,by omega,rfl,(fun j hj h => by omega),rfl⟩⟩
 case round =>
  obtain ⟨k,hk,rfl,HP,rfl⟩ := hrel.out
  by_cases hlt : k < rows.length
  ·obtain ⟨g,off,ai,ci,rfl,hg,hc,hI⟩ := hA1 k hlt
   have HFK : Hid (rowOk rows[k] = false → okK ⟨rows,added⟩ = false) := okK_false hlt
   have HPK : Hid (rowOk rows[k] = true → ∀ j (hj : j < rows.length),j < k + 1 → rowOk rows[j] = true) := by
    intro h j hj hjk
    by_cases e : j = k
    ·subst e; exact h
    ·exact HP.out j hj (by omega)
   obtain ⟨r,hr⟩ : ∃ r,rows[k] = r := ⟨_,rfl⟩
   rw [hr] at hc hI HFK HPK
   clear hrel hr cI hn
   have hi1 : (0 : Int) ≤ (k : Int) := by omega
   have hi2 : (k : Int) < (rows.length : Int) := by omega
   by_cases h16 : r.length = 16
   case neg =>
    have hn : ((r.length : Int) != 16) = true := by simp; omega
    have HF : Hid (okK ⟨rows,added⟩ = false) := HFK.out (rowOk_len_false h16)
    clear h16
    go_wp2
    go_ret
    exact ⟨by rw [HF.out]; rfl,hb1⟩
   have hn : ((r.length : Int) != 16) = false := by simp; omega
   have H16 : Hid (r.length = 16) := h16
   have hr16 : r.length ≤ 16 := by omega
   clear h16
   go_wp2
   go_loopw [4] (fun i wr => Box (∃ (q : Nat),q ≤ r.length ∧ i = .int .i64 q ∧ Hid (∀ j (hj : j < r.length),j < q → numOk r[j] = true) ∧ w1 = wr))
    (fun i _ => r.length - (intOf i).toNat)
   case atStart => exact ⟨⟨0,by omega,rfl,(fun j hj h => by omega),rfl⟩⟩
   case round =>
    obtain ⟨q,hq,rfl,HQ,rfl⟩ := hrel.out
    by_cases hlq : q < r.length
    ·obtain ⟨g2,off2,rfl,hg2,hc2⟩ := hI q hlq
     have HNF : Hid (numOk r[q] = false → rowOk r = false) := rowOk_num_false hlq
     have HQK : Hid (numOk r[q] = true → ∀ j (hj : j < r.length),j < q + 1 → numOk r[j] = true) := by
      intro h j hj hjk
      by_cases e : j = q
      ·subst e; exact h
      ·exact HQ.out j hj (by omega)
     obtain ⟨z,hz⟩ : ∃ z,r[q] = z := ⟨_,rfl⟩
     rw [hz] at hc2 HNF HQK
     clear hrel hz
     have hj1 : (0 : Int) ≤ (q : Int) := by omega
     have hj2 : (q : Int) < (r.length : Int) := by omega
     have cN := fun wi => in_any z 0 15 wi
     by_cases hno : inN z 0 15 = true
     ·rw [hno] at cN
      have HT : Hid (∀ j (hj : j < r.length),j < q + 1 → numOk r[j] = true) := HQK.out hno
      clear hno
      go_wp2_with (go_at_call 44; refine (cN _).mono ?_; rintro e w' ⟨rfl,rfl⟩)
      go_roundw
      case rel =>
       try ((repeat apply Exists.intro); refine ⟨?_,rfl⟩)
       exact ⟨⟨q + 1,by omega,by go_num,HT,by first | rfl | trivial⟩⟩
      case measure => simp [intOf]; omega
     ·have hnof : inN z 0 15 = false := by simpa using hno
      rw [hnof] at cN
      have HF : Hid (okK ⟨rows,added⟩ = false) := HFK.out (HNF.out hnof)
      clear hno hnof
      go_wp2_with (go_at_call 44; refine (cN _).mono ?_; rintro e w' ⟨rfl,rfl⟩)
      go_ret
      exact ⟨by rw [HF.out]; rfl,hb1⟩
    ·have HT : Hid (rowOk r = true) := rowOk_true H16.out fun j hj => HQ.out j hj (by omega)
     go_wp2
     refine ⟨⟨⟨k + 1,by omega,by go_num,HPK.out HT.out,trivial⟩⟩, ?_⟩
     simp [intOf]
     omega
  ·have HT : Hid (okK ⟨rows,added⟩ = true) := okK_true HH.out fun j hj => HP.out j hj (by omega)
   clear cI
   go_wp2
   go_ret
   exact ⟨by rw [HT.out]; rfl,hb1⟩
theorem foldMin_lt (l : List Int) : ∀ (x z : Int),l.foldl min x < z ↔ x < z ∨ ∃ y ∈ l,y < z := by
 induction l with
 | nil => intro x z; simp
 | cons a r ih =>
  intro x z
  rw [List.foldl_cons,ih]
  simp only [List.mem_cons,exists_eq_or_imp]
  have : min x a < z ↔ x < z ∨ a < z := by omega
  rw [this,or_assoc]
theorem foldMax_gt (l : List Int) : ∀ (x z : Int),z < l.foldl max x ↔ z < x ∨ ∃ y ∈ l,z < y := by
 induction l with
 | nil => intro x z; simp
 | cons a r ih =>
  intro x z
  rw [List.foldl_cons,ih]
  simp only [List.mem_cons,exists_eq_or_imp]
  have : z < max x a ↔ z < x ∨ z < a := by omega
  rw [this,or_assoc]
theorem minOf_neg {l : List Int} (hl : 0 < l.length) (z : Int) : Lib.minOf l < z ↔ ∃ y ∈ l,y < z := by
 cases l with
 | nil => simp at hl
 | cons a r =>
  unfold Lib.minOf
  rw [foldMin_lt]
  simp
theorem maxOf_pos {l : List Int} (hl : 0 < l.length) (z : Int) : z < Lib.maxOf l ↔ ∃ y ∈ l,z < y := by
 cases l with
 | nil => simp at hl
 | cons a r =>
  unfold Lib.maxOf
  rw [foldMax_gt]
  simp
theorem rowOk_minmax {r : List Int} (hl : r.length = 16) : rowOk r = (!decide (Lib.minOf r < 0) && !decide (15 < Lib.maxOf r)) := by
 have h1 := minOf_neg (l := r) (by omega) 0
 have h2 := maxOf_pos (l := r) (by omega) 15
 cases hr : rowOk r with
 | true =>
  unfold rowOk at hr
  simp only [Bool.and_eq_true,List.all_eq_true] at hr
  have n1 : ¬ Lib.minOf r < 0 := by
   rw [h1]
   rintro ⟨y,hy,hlt⟩
   have := hr.2 y hy
   simp only [numOk,decide_eq_true_eq] at this
   omega
  have n2 : ¬ 15 < Lib.maxOf r := by
   rw [h2]
   rintro ⟨y,hy,hlt⟩
   have := hr.2 y hy
   simp only [numOk,decide_eq_true_eq] at this
   omega
  simp [n1,n2]
 | false =>
  unfold rowOk at hr
  rw [Bool.and_eq_false_iff] at hr
  rcases hr with hr | hr
  ·simp [hl] at hr
  ·rw [List.all_eq_false] at hr
   obtain ⟨y,hy,hn⟩ := hr
   simp only [numOk,decide_eq_true_eq] at hn
   by_cases h0 : y < 0
   ·have : Lib.minOf r < 0 := h1.2 ⟨y,hy,h0⟩
    simp [this]
   ·have : 15 < Lib.maxOf r := h2.2 ⟨y,hy,by omega⟩
    simp [this]
theorem IAt.getD {w : World} {b off B : Nat} {l : List Int} (h : IAt w (some ⟨b,off,none⟩) l B) : ∀ j,j < l.length → w.cell? ⟨b,off + j,none⟩ = some (.int .i64 (l.getD j 0)) := by
 intro j hj
 obtain ⟨g,o,ha,_,hc⟩ := h j hj
 simp only [Option.some.injEq,Addr.mk.injEq,and_true] at ha
 obtain ⟨rfl,rfl⟩ := ha
 rw [hc,List.getD_eq_getElem?_getD,List.getElem?_eq_getElem hj]
 rfl
set_option maxRecDepth 100000 in
set_option maxHeartbeats 2000000 in
theorem implSketchOk_any (w : World) (a : Option Addr) (c : Nat) (S : Sk) (hA : SSAt w a S.rows w.heap.size) (hm : S.rows.length ≤ 1048576) :
  Calls Tryz.prog 152 #[.agg #[.slice a S.rows.length c,.int .i64 S.added]] w fun e w' => e = .returned (.bool (okK S)) ∧ Below w.heap.size w w' := by
 obtain ⟨rows,added⟩ := S
 dsimp only at *
 obtain ⟨w1,hw1⟩ : ∃ x,w.alloc (.cells #[.slice a rows.length c,.int .i64 added] 42) = x := ⟨_,rfl⟩
 have hb1 : Below w.heap.size w w1 := by rw [← hw1]; exact (Below.refl _ _).alloc (Nat.le_refl _) _
 have hB : SkBox w1 w.heap.size (.slice a rows.length c) (.int .i64 added) := by rw [← hw1]; exact SkBox.new _ _ _
 have hA1 := hA.on hb1
 obtain ⟨b0,b1⟩ := hB.cells
 have HW : Hid (w.alloc (.cells #[.slice a rows.length c,.int .i64 added] 42) = w1) := hw1
 rw [← hw1] at b0 b1
 clear hw1 hB hA
 go_enter Tryz.func152,Tryz.ntmps152
 by_cases h3 : rows.length = 3
 case neg =>
  have hn : ((rows.length : Int) != 3) = true := by simp; omega
  have HF : Hid (okK ⟨rows,added⟩ = false) := by show _ = _; simp [okK,headOkK,h3]
  clear h3
  go_wp2
  go_ret
  exact ⟨by rw [HF.out]; rfl,by rw [HW.out]; exact hb1⟩
 have hn : ((rows.length : Int) != 3) = false := by simp; omega
 have H3 : Hid (rows.length = 3) := h3
 clear h3
 by_cases hlo : added < 0
 case pos =>
  have HF : Hid (okK ⟨rows,added⟩ = false) := by
   show _ = _
   have e : decide (0 ≤ added ∧ added ≤ 63) = false := decide_eq_false (by omega)
   simp only [okK,headOkK,e,Bool.and_false,Bool.false_and]
  go_wp2
  go_ret
  exact ⟨by rw [HF.out]; rfl,by rw [HW.out]; exact hb1⟩
 by_cases hhi : 64 ≤ added
 case pos =>
  have HF : Hid (okK ⟨rows,added⟩ = false) := by
   show _ = _
   have e : decide (0 ≤ added ∧ added ≤ 63) = false := decide_eq_false (by omega)
   simp only [okK,headOkK,e,Bool.and_false,Bool.false_and]
  go_wp2
  go_ret
  exact ⟨by rw [HF.out]; rfl,by rw [HW.out]; exact hb1⟩
 have HH : Hid (headOkK ⟨rows,added⟩ = true) := by
  have e : decide (0 ≤ added ∧ added ≤ 63) = true := decide_eq_true (by omega)
  show _ = _
  simp only [headOkK,e,H3.out,decide_true,Bool.and_true]
 go_wp2
 rw [HW.out] at b0 b1 ⊢
 clear hlo hhi
 go_loopw [4, 22] (fun _ i wr => Box (∃ (k : Nat),k ≤ rows.length ∧ i = .int .i64 k ∧ Hid (∀ j (hj : j < rows.length),j < k → rowOk rows[j] = true) ∧ w1 = wr))
  (fun _ i _ => rows.length - (intOf i).toNat)
 case atStart => exact ⟨⟨0,by omega,rfl,(fun j hj h => by omega),rfl⟩⟩
 case round =>
  obtain ⟨k,hk,rfl,HP,rfl⟩ := hrel.out
  by_cases hlt : k < rows.length
  ·obtain ⟨g,off,ai,ci,rfl,hg,hc,hI⟩ := hA1 k hlt
   have HFK : Hid (rowOk rows[k] = false → okK ⟨rows,added⟩ = false) := okK_false hlt
   have HPK : Hid (rowOk rows[k] = true → ∀ j (hj : j < rows.length),j < k + 1 → rowOk rows[j] = true) := by
    intro h j hj hjk
    by_cases e : j = k
    ·subst e; exact h
    ·exact HP.out j hj (by omega)
   obtain ⟨r,hr⟩ : ∃ r,rows[k] = r := ⟨_,rfl⟩
   rw [hr] at hc hI HFK HPK
   clear hrel hr hn
   have hi1 : (0 : Int) ≤ (k : Int) := by omega
   have hi2 : (k : Int) < (rows.length : Int) := by omega
   by_cases h16 : r.length = 16
   case neg =>
    have hn : ((r.length : Int) != 16) = true := by simp; omega
    have HF : Hid (okK ⟨rows,added⟩ = false) := HFK.out (rowOk_len_false h16)
    clear h16
    go_wp2
    go_ret
    exact ⟨by rw [HF.out]; rfl,hb1⟩
   have hn : ((r.length : Int) != 16) = false := by simp; omega
   have HMM : Hid (rowOk r = (!decide (Lib.minOf r < 0) && !decide (15 < Lib.maxOf r))) := rowOk_minmax h16
   obtain ⟨g2,off2,rfl,hx1,hx2⟩ := hI 0 (by omega)
   clear hx1 hx2
   have cMin := Tryz.slices_Min_int g2 off2 r.length ci r w1 (by omega) (Nat.le_refl _) (by omega) hI.getD
   have cMax := Tryz.slices_Max_int g2 off2 r.length ci r w1 (by omega) (Nat.le_refl _) (by omega) hI.getD
   rw [List.take_length] at cMin cMax
   generalize Lib.minOf r = mn at cMin HMM
   generalize Lib.maxOf r = mx at cMax HMM
   clear h16
   by_cases hmn : mn < 0
   ·have HF : Hid (okK ⟨rows,added⟩ = false) := HFK.out (by rw [HMM.out]; simp [hmn])
    go_wp2_with (go_at_call 194; refine cMin.mono ?_; rintro e w' ⟨rfl,rfl⟩)
    go_ret
    exact ⟨by rw [HF.out]; rfl,hb1⟩
   by_cases hmx : 15 < mx
   ·have HF : Hid (okK ⟨rows,added⟩ = false) := HFK.out (by rw [HMM.out]; simp [hmx])
    go_wp2_with (first | (go_at_call 194; refine cMin.mono ?_; rintro e w' ⟨rfl,rfl⟩) | (go_at_call 195; refine cMax.mono ?_; rintro e w' ⟨rfl,rfl⟩))
    go_ret
    exact ⟨by rw [HF.out]; rfl,hb1⟩
   have HT : Hid (rowOk r = true) := by show _ = _; rw [HMM.out]; simp; omega
   go_wp2_with (first | (go_at_call 194; refine cMin.mono ?_; rintro e w' ⟨rfl,rfl⟩) | (go_at_call 195; refine cMax.mono ?_; rintro e w' ⟨rfl,rfl⟩))
   go_roundw
   case rel =>
    try ((repeat apply Exists.intro); refine ⟨?_,rfl⟩)
    exact ⟨⟨k + 1,by omega,by go_num,HPK.out HT.out,by first | rfl | trivial⟩⟩
   case measure => simp [intOf]; omega
  ·have HT : Hid (okK ⟨rows,added⟩ = true) := okK_true HH.out fun j hj => HP.out j hj (by omega)
   go_wp2
   go_ret
   exact ⟨by rw [HT.out]; rfl,hb1⟩
end Go.Proofs.YtpgcfgbhkodmeaaGreatDoor
