/- Texts that stand in one: StmOkImpl, HeldRight, HoldImpl, StmEnd1, StmEndImpl. -/
import Derived.Test.YtaahjcljanckaaaGreatDoorTellPlainJ
import Derived.Lib.QuietBelow
import Derived.BigQuiet
import Derived.Shelf.Abstract
import Derived.Test.YtaahjcljanckaaaGreatDoorShelf
namespace Go.Proofs.YtaahjcljanckaaaGreatDoor
open Go.RowKit Go.Sort
theorem idOk_any (x : Int) (w : World) : Calls Tryz.prog 36 #[.int .i64 x] w fun e w' => e = .returned (.bool (inI x 1 9)) ∧ w' = w := by
 by_cases h1 : x ≥ 1
 ·by_cases h2 : x ≤ 9
  ·have HP : Hid (inI x 1 9 = true) := by show _ = _; unfold inI; simp; omega
   go_enter Tryz.func36,Tryz.ntmps36
   go_wp2
   go_ret
   exact ⟨by rw [HP.out]; rfl,rfl⟩
  ·have HP : Hid (inI x 1 9 = false) := by show _ = _; unfold inI; simp; omega
   go_enter Tryz.func36,Tryz.ntmps36
   go_wp2
   go_ret
   exact ⟨by rw [HP.out]; rfl,rfl⟩
 ·have HP : Hid (inI x 1 9 = false) := by show _ = _; unfold inI; simp; omega
  go_enter Tryz.func36,Tryz.ntmps36
  go_wp2
  go_ret
  exact ⟨by rw [HP.out]; rfl,rfl⟩
theorem stateOk_any (x : Int) (w : World) : Calls Tryz.prog 55 #[.int .i64 x] w fun e w' => e = .returned (.bool (inI x 1 3)) ∧ w' = w := by
 by_cases h1 : x = 1
 ·subst h1
  go_enter Tryz.func55,Tryz.ntmps55
  go_wp2
  go_ret
  exact ⟨rfl,rfl⟩
 ·by_cases h2 : x = 2
  ·subst h2
   go_enter Tryz.func55,Tryz.ntmps55
   go_wp2
   go_ret
   exact ⟨rfl,rfl⟩
  ·have HP : Hid (inI x 1 3 = (x == 3)) := by
    show _ = _
    unfold inI
    by_cases h3 : x = 3
    ·subst h3; rfl
    ·rw [decide_eq_false (by omega)]; simp [h3]
   have e1 : (x == 1) = false := by simp [h1]
   have e2 : (x == 2) = false := by simp [h2]
   go_enter Tryz.func55,Tryz.ntmps55
   go_wp2
   go_ret
   exact ⟨by rw [HP.out]; rfl,rfl⟩
set_option maxRecDepth 100000 in
set_option maxHeartbeats 4000000 in
theorem readersOk_any (w : World) (a : Option Addr) (c n : Nat) (rd : List (Int × Int)) (hE : PAt w a rd w.heap.size) (hm : rd.length ≤ 1048577) :
  Calls Tryz.prog 137 #[.slice a rd.length c,.int .i64 (n : Int)] w fun e w' => e = .returned (.bool (decide (rd.length ≤ 6) && rdOkTo n rd rd.length)) ∧ Below w.heap.size w w' := by
 by_cases h6 : rd.length ≤ 6
 ·have HO : Hid ((decide (rd.length ≤ 6) && rdOkTo n rd rd.length) = rdOkTo n rd rd.length) := by show _ = _; simp [h6]
  have h6' : ¬ (6 : Int) < (rd.length : Int) := by omega
  clear h6
  go_enter Tryz.func137,Tryz.ntmps137
  go_wp2_with fail
  go_loopw [12] (fun i wr => Box (∃ k : Nat,k ≤ rd.length ∧ i = .int .i64 k ∧ rdOkTo n rd k = true ∧ Below w.heap.size w wr))
   (fun i _ => rd.length - (intOf i).toNat)
  case atStart => exact ⟨⟨0,by omega,rfl,rfl,Below.refl _ _⟩⟩
  case round =>
   obtain ⟨k,hk,rfl,hno,hbr⟩ := hrel.out
   obtain ⟨wo,hwo⟩ : ∃ wo,wo = wr := ⟨_,rfl⟩
   subst hwo
   have HN : Hid (rdOkTo n rd k = true) := hno
   have HP := hE.on hbr
   have HBR : Hid (Below w.heap.size w wo) := hbr
   clear hno hrel hbr
   by_cases hlt : k < rd.length
   ·obtain ⟨gg,offg,hga,_,q0,q1⟩ := HP k hlt
    obtain ⟨r,hr⟩ : ∃ r,rd[k] = r := ⟨_,rfl⟩
    have hgd : rd.getD k (0, 0) = r := by simp [List.getD,List.getElem?_eq_getElem hlt,hr]
    rw [hr] at q0 q1
    have hi1 : (0 : Int) ≤ (k : Int) := by omega
    have hi3 : (k : Int) < (rd.length : Int) := by omega
    have HK : Hid ((k : Int) < (rd.length : Int)) := hi3
    have HSu : Hid (rdOkTo n rd (k + 1) = (inI r.1 1 9 && !(decide (0 < k) && decide (r.1 ≤ (rd.getD (k - 1) (0, 0)).1)) && inI r.2 0 n)) := by
     show _ = _
     rw [rdOkTo_succ,HN.out,hgd]; rfl
    subst hga
    obtain ⟨w2,hw2⟩ : ∃ w2,wo.alloc (.cells #[.int .i64 r.1,.int .i64 r.2] 198) = w2 := ⟨_,rfl⟩
    have hb2 : Below wo.heap.size wo w2 := by rw [← hw2]; exact (Below.refl _ _).alloc (Nat.le_refl _) _
    have hRB : w2.heap[wo.heap.size]? = some (.cells #[.int .i64 r.1,.int .i64 r.2] 198 (0, 0)) := by rw [← hw2]; exact heap_alloc_new wo _
    have z0 : w2.cell? ⟨wo.heap.size, 0,none⟩ = some (.int .i64 r.1) := by rw [cell_of_row w2 wo.heap.size 0 _ _ (0, 0) hRB]; rfl
    have z1 : w2.cell? ⟨wo.heap.size, 1,none⟩ = some (.int .i64 r.2) := by rw [cell_of_row w2 wo.heap.size 1 _ _ (0, 0) hRB]; rfl
    have HW2 : Hid (wo.alloc (.cells #[.int .i64 r.1,.int .i64 r.2] 198) = w2) := hw2
    have HB2 : Hid (Below w.heap.size w w2) := HBR.out.trans (hb2.mono HBR.out.size)
    have HPV : Hid (∀ j (hj : j < rd.length),w2.cell? ⟨gg,offg + j * 2,none⟩ = some (.int .i64 rd[j].1)) := fun j hj => by
     obtain ⟨g',o',he,_,h,_⟩ := (HP.on hb2) j hj
     cases he
     exact h
    have cI := idOk_any r.1 w2
    clear hw2 hb2 hRB hr hgd HP
    go_wp2_with fail
    rw [HW2.out]
    refine cI.mono ?_
    rintro e w3 ⟨rfl,rfl⟩
    clear cI
    cases hA1 : inI r.1 1 9 with
    | false =>
     have HPO : Hid (rdOkTo n rd (k + 1) = false) := by show _ = _; rw [HSu.out]; rw [hA1]; rfl
     clear HSu
     go_wp2_with fail
     go_ret
     exact ⟨by rw [HO.out,rdOkTo_down n rd rd.length (by have := HK.out; omega) HPO.out]; rfl,HB2.out⟩
    | true =>
     by_cases hn0 : r.2 < 0
     ·have HPO : Hid (rdOkTo n rd (k + 1) = false) := by show _ = _; rw [HSu.out,show inI r.2 0 n = false by unfold inI; exact decide_eq_false (by omega)]; simp
      clear HSu
      go_wp2_with fail
      go_ret
      exact ⟨by rw [HO.out,rdOkTo_down n rd rd.length (by have := HK.out; omega) HPO.out]; rfl,HB2.out⟩
     ·by_cases hn1 : (n : Int) < r.2
      ·have HPO : Hid (rdOkTo n rd (k + 1) = false) := by show _ = _; rw [HSu.out,show inI r.2 0 n = false by unfold inI; exact decide_eq_false (by omega)]; simp
       clear HSu
       go_wp2_with fail
       go_ret
       exact ⟨by rw [HO.out,rdOkTo_down n rd rd.length (by have := HK.out; omega) HPO.out]; rfl,HB2.out⟩
      ·have HS2 : Hid (rdOkTo n rd (k + 1) = !(decide (0 < k) && decide (r.1 ≤ (rd.getD (k - 1) (0, 0)).1))) := by show _ = _; rw [HSu.out,hA1,show inI r.2 0 n = true by unfold inI; exact decide_eq_true (by omega)]; simp
       clear HSu
       by_cases h0 : k = 0
       ·have HPO : Hid (rdOkTo n rd (k + 1) = true) := by show _ = _; rw [HS2.out]; simp [h0]
        have hgN : decide (0 < k) = false := decide_eq_false (by omega)
        clear HS2 h0
        go_wp2_with fail
        go_quiet (fail)
        go_wp2_with fail
        go_roundw
        case rel =>
         try ((repeat apply Exists.intro); refine ⟨?_,rfl⟩)
         exact ⟨⟨k + 1,by have := HK.out; omega,by go_num,HPO.out,HB2.out.trans ⟨rfl,rfl,rfl,Nat.le_refl _,fun _ _ => rfl⟩⟩⟩
        case measure => have := HK.out; simp [intOf]; omega
       ·obtain ⟨j,hkj⟩ : ∃ j,k = j + 1 := ⟨k - 1,by omega⟩
        have z5 := HPV.out j (by omega)
        obtain ⟨x,hx⟩ : ∃ x,rd[j].1 = x := ⟨_,rfl⟩
        have hxd : (rd.getD (k - 1) (0, 0)).1 = x := by rw [← hx,show k - 1 = j by omega]; simp [List.getD,List.getElem?_eq_getElem (show j < rd.length by omega)]
        have HS3 : Hid (rdOkTo n rd (k + 1) = !decide (r.1 ≤ x)) := by show _ = _; rw [HS2.out,hxd,show decide (0 < k) = true from decide_eq_true (by omega)]; rfl
        rw [hx] at z5
        have hgN : decide (0 < k) = true := decide_eq_true (by omega)
        have hg : 0 < k := by omega
        have hjj : (k : Int) - 1 = (j : Int) := by omega
        have hj0 : (0 : Int) ≤ (j : Int) := by omega
        have hj1 : (j : Int) < (rd.length : Int) := by omega
        clear hxd hx hkj h0 HS2
        by_cases hle : r.1 ≤ x
        ·have hle' : decide (r.1 ≤ x) = true := decide_eq_true hle
         have HPO : Hid (rdOkTo n rd (k + 1) = false) := by show _ = _; rw [HS3.out]; simp [hle]
         clear HS3
         go_wp2_with fail
         go_quiet (fail)
         go_wp2_with fail
         go_ret
         exact ⟨by rw [HO.out,rdOkTo_down n rd rd.length (by have := HK.out; omega) HPO.out]; rfl,HB2.out.trans ⟨rfl,rfl,rfl,Nat.le_refl _,fun _ _ => rfl⟩⟩
        ·have hle' : decide (r.1 ≤ x) = false := decide_eq_false hle
         have HPO : Hid (rdOkTo n rd (k + 1) = true) := by show _ = _; rw [HS3.out]; simp [hle]
         clear HS3
         go_wp2_with fail
         go_quiet (fail)
         go_wp2_with fail
         go_roundw
         case rel =>
          try ((repeat apply Exists.intro); refine ⟨?_,rfl⟩)
          exact ⟨⟨k + 1,by have := HK.out; omega,by go_num,HPO.out,HB2.out.trans ⟨rfl,rfl,rfl,Nat.le_refl _,fun _ _ => rfl⟩⟩⟩
         case measure => have := HK.out; simp [intOf]; omega
   ·have hi3 : ¬ (k : Int) < (rd.length : Int) := by omega
    have hke : k = rd.length := by omega
    subst hke
    go_wp2_with fail
    go_ret
    exact ⟨by rw [HO.out,HN.out]; rfl,HBR.out⟩
 ·have HO : Hid ((decide (rd.length ≤ 6) && rdOkTo n rd rd.length) = false) := by show _ = _; simp [h6]
  have h6' : (6 : Int) < (rd.length : Int) := by omega
  clear h6
  go_enter Tryz.func137,Tryz.ntmps137
  go_wp2_with fail
  go_ret
  exact ⟨by rw [HO.out]; rfl,Below.refl _ _⟩
set_option maxRecDepth 100000 in
set_option maxHeartbeats 4000000 in
theorem implStreamOk_any (w : World) (a : Option Addr) (c : Nat) (S : Stm) (hE : PAt w a S.rd w.heap.size) (ht : S.text.size ≤ 1048576) (hm : S.rd.length ≤ 1048577) :
  Calls Tryz.prog 134 #[.agg #[.int .i64 S.st,.string S.text,.slice a S.rd.length c]] w fun e w' => e = .returned (.bool (okM S)) ∧ Below w.heap.size w w' := by
 obtain ⟨st,t,rd⟩ := S
 dsimp only at hE hm ht ⊢
 obtain ⟨w1,hw1⟩ : ∃ w1,w.alloc (.cells #[.int .i64 st,.string t,.slice a rd.length c] 105) = w1 := ⟨_,rfl⟩
 have hb1 : Below w.heap.size w w1 := by rw [← hw1]; exact (Below.refl _ _).alloc (Nat.le_refl _) _
 have hB1 : MBox w1 w.heap.size (.int .i64 st) (.string t) (.slice a rd.length c) := by rw [← hw1]; exact MBox.new _ _ _ _
 have HW : Hid (w.alloc (.cells #[.int .i64 st,.string t,.slice a rd.length c] 105) = w1) := hw1
 have HB : Hid (Below w.heap.size w w1) := hb1
 have HO : Hid (okM ⟨st,t,rd⟩ = (rdOkTo t.size rd rd.length && (inI st 1 3 && decide (t.size ≤ 400) && decide (rd.length ≤ 6)))) := rfl
 have cS := stateOk_any st w1
 have cR := readersOk_any w1 a c t.size rd (hE.on hb1) hm
 obtain ⟨b0,b1,b2⟩ := hB1.cells
 clear hw1 hE hb1 hB1
 cases hs : inI st 1 3 with
 | false =>
  rw [hs] at cS
  go_enter Tryz.func134,Tryz.ntmps134
  go_wp2_with fail
  rw [HW.out]
  refine cS.mono ?_
  rintro e w2 ⟨rfl,rfl⟩
  go_wp2_with fail
  go_ret
  exact ⟨by rw [HO.out,hs]; simp,HB.out⟩
 | true =>
  rw [hs] at cS
  by_cases h4 : t.size ≤ 400
  ·have h4' : (t.size : Int) ≤ 400 := by omega
   go_enter Tryz.func134,Tryz.ntmps134
   go_wp2_with fail
   rw [HW.out]
   refine cS.mono ?_
   rintro e w2 ⟨rfl,rfl⟩
   go_wp2_with fail
   refine cR.mono ?_
   rintro e w3 ⟨rfl,hb3⟩
   go_wp2_with fail
   go_ret
   refine ⟨?_,HB.out.trans (hb3.mono HB.out.size)⟩
   rw [HO.out,hs,decide_eq_true h4]
   cases rdOkTo t.size rd rd.length <;> simp
  ·have h4' : ¬ (t.size : Int) ≤ 400 := by omega
   go_enter Tryz.func134,Tryz.ntmps134
   go_wp2_with fail
   rw [HW.out]
   refine cS.mono ?_
   rintro e w2 ⟨rfl,rfl⟩
   go_wp2_with fail
   go_ret
   exact ⟨by rw [HO.out,decide_eq_false h4]; simp,HB.out⟩
end Go.Proofs.YtaahjcljanckaaaGreatDoor
namespace Go.Proofs.YtaahjcljanckaaaGreatDoor
open Go.RowKit Go.Sort Go.MuLone
theorem right_eg : ∀ args w,(callFunc 133 args).run Tryz.prog w = .ok (.enter 133 args) w := enters_of Tryz.func133 (by kernel_rfl) rfl
set_option maxRecDepth 100000 in
set_option maxHeartbeats 4000000 in
theorem right_no (w : World) (B F : Nat) (a : Option Addr) (c : Nat) (S : Stm) (hB : HBox w B 1 S.st S.text (.slice a S.rd.length c)) (hE : PAt w a S.rd w.heap.size) (ht : S.text.size ≤ 1048576) (hm : S.rd.length ≤ 1048577) (hok : okM S = false) :
  Calls Tryz.prog 133 #[.pointer (some ⟨B, 2,none⟩),.pointer (some ⟨F, 0,none⟩)] w fun e w' => e = .returned (.bool false) ∧ Below w.heap.size w w' := by
 have cO := implStreamOk_any w a c S hE ht hm
 obtain ⟨b2,b3,b4⟩ := hB.cells
 rw [hok] at cO
 go_enter Tryz.func133,Tryz.ntmps133
 go_wp2_with fail
 refine cO.mono ?_
 rintro e w2 ⟨rfl,hb2⟩
 go_wp2_with fail
 go_ret
 exact ⟨rfl,hb2⟩
set_option maxRecDepth 100000 in
set_option maxHeartbeats 4000000 in
theorem right_yes (g : Nat) (lb : Array Value) (eg : ∀ args w,(callFunc g args).run Tryz.prog w = .ok (.enter g args) w) (w : World) (B F : Nat) (a : Option Addr) (c : Nat) (S : Stm) (hB : HBox w B 1 S.st S.text (.slice a S.rd.length c)) (hE : PAt w a S.rd w.heap.size) (ht : S.text.size ≤ 1048576) (hm : S.rd.length ≤ 1048577) (hok : okM S = true)
  (hF : ∀ W,Below w.heap.size w W → W.cell? ⟨F, 0,none⟩ = some (.func (.func g) #[] lb)) (R : Bool → World → Prop)
  (hf : ∀ W,Below w.heap.size w W → Calls Tryz.prog g (#[.pointer (some ⟨B, 2,none⟩)] ++ lb) W fun e w' => ∃ ok,e = .returned (.bool ok) ∧ R ok w') :
  Calls Tryz.prog 133 #[.pointer (some ⟨B, 2,none⟩),.pointer (some ⟨F, 0,none⟩)] w fun e w' => ∃ ok,e = .returned (.bool ok) ∧ R ok w' := by
 have cO := implStreamOk_any w a c S hE ht hm
 obtain ⟨b2,b3,b4⟩ := hB.cells
 rw [hok] at cO
 go_enter Tryz.func133,Tryz.ntmps133
 go_wp2_with fail
 refine cO.mono ?_
 rintro e w2 ⟨rfl,hb2⟩
 have f2 := hF w2 hb2
 have c2 := hf w2 hb2
 clear cO hF hf b2 b3 b4 hB hE
 go_wp2_with (go_at_fn g; refine c2.mono ?_; rintro e w3 ⟨ok,rfl,hR⟩)
 go_ret
 exact ⟨ok,rfl,hR⟩
set_option maxRecDepth 100000 in
set_option maxHeartbeats 4000000 in
theorem changeRight_to (G : Ending → World → Prop) (g : Nat) (lb : Array Value) (eg : ∀ args w,(callFunc g args).run Tryz.prog w = .ok (.enter g args) w) (w0 w : World) (B : Nat) (S : Stm) (v : Value) (H : Held w0 B 0 S v w) (ht : S.text.size ≤ 1048576) (hm : S.rd.length ≤ 1048576) (X : Nat → Prop) (hXB : X B) (hX : ∀ k,X k → w0.heap.size ≤ k ∧ k < w.heap.size) (Q : Bool → Stm → World → Prop)
  (hQ : ∀ ok S' W W',Q ok S' W → Tch (fun k => k = B ∨ w.heap.size ≤ k) W W' → Q ok S' W')
  (h0 : okM S = false → Q false S w)
  (hf : okM S = true → ∀ W,Held w0 B 1 S v W → Tch (fun k => k = B) w W → Calls Tryz.prog g (#[.pointer (some ⟨B, 2,none⟩)] ++ lb) W fun e w' => ∃ ok S' v',e = .returned (.bool ok) ∧ Held w0 B 1 S' v' w' ∧ Tch X W w' ∧ Q ok S' w')
  (hG : ∀ ok S' u w',MOwn w' w0.heap.size u S' → Below w0.heap.size w0 w' → Tch X w w' → Q ok S' w' → G (.returned (.tuple #[u,.bool ok])) w') :
  Calls Tryz.prog 129 #[.pointer (some ⟨B, 0,none⟩),.func (.func g) #[] lb] w G := by
 have HG : Hid (∀ ok S' u w',MOwn w' w0.heap.size u S' → Below w0.heap.size w0 w' → Tch X w w' → Q ok S' w' → G (.returned (.tuple #[u,.bool ok])) w') := hG
 clear hG
 obtain ⟨st,t,rd⟩ := S
 dsimp only at ht hm
 obtain ⟨a,c,rfl,_⟩ := H.at
 obtain ⟨w1,hw1⟩ : ∃ x,w.alloc (.cells #[.func (.func g) #[] lb] 185) = x := ⟨_,rfl⟩
 obtain ⟨w2,hw2⟩ : ∃ x,w1.alloc (.cells #[.int .i64 0,.string ⟨#[]⟩,.slice none 0 0] 105) = x := ⟨_,rfl⟩
 have hb1 : Below w.heap.size w w1 := by rw [← hw1]; exact (Below.refl _ _).alloc (Nat.le_refl _) _
 have hb2 : Below w1.heap.size w1 w2 := by rw [← hw2]; exact (Below.refl _ _).alloc (Nat.le_refl _) _
 have s1 : w1.heap.size = w.heap.size + 1 := by rw [← hw1]; simp
 have s2 : w2.heap.size = w.heap.size + 1 + 1 := by rw [← hw2]; simp; omega
 have hbw : Below w.heap.size w w2 := hb1.trans (hb2.mono hb1.size)
 have hF1 : w2.heap[w.heap.size]? = some (.cells #[.func (.func g) #[] lb] 185 (0, 0)) := by
  rw [hb2.block _ (by omega), ← hw1]
  exact heap_alloc_new w _
 have hR2 : MBox w2 (w.heap.size + 1) (.int .i64 0) (.string ⟨#[]⟩) (.slice none 0 0) := by rw [← hw2, ← s1]; exact MBox.new _ _ _ _
 have H2 := H.on hbw
 have HW : Hid ((w.alloc (.cells #[.func (.func g) #[] lb] 185)).alloc (.cells #[.int .i64 0,.string ⟨#[]⟩,.slice none 0 0] 105) = w2) := by rw [hw1]; exact hw2
 have hBw : B < w.heap.size := (hX B hXB).2
 have c0 := change_any 133 #[.pointer (some ⟨w.heap.size, 0,none⟩)] right_eg w2 B st t (.slice a rd.length c) H2.box (fun ok st' t' v' W => ∃ rd',Held w0 B 1 ⟨st',t',rd'⟩ v' W ∧ Tch X w2 W ∧ Q ok ⟨st',t',rd'⟩ W) (by
  intro W hBW hRW hT
  have HWd : Held w0 B 1 ⟨st,t,rd⟩ (.slice a rd.length c) W := ⟨Tch.below H2.below hT H2.below.size (fun k e => by rw [e]; exact H2.hB),H2.hB,hBW,H2.own.kept fun k hk => hT.2 k (H2.own.lt k hk).2 (ownP_notHeld H2.own H2.box k hk)⟩
  obtain ⟨a',c',e',hA⟩ := HWd.at
  cases e'
  have hTw : Tch (fun k => k = B) w W := (Tch.of_below hbw).trans hT
  cases hok : okM ⟨st,t,rd⟩ with
  | false =>
   refine (right_no W B w.heap.size a c ⟨st,t,rd⟩ hBW hA ht (by dsimp only; omega) hok).mono ?_
   rintro e w' ⟨rfl,hb'⟩
   exact ⟨false,st,t,a,rd.length,c,rfl,hBW.on hb',hRW.on hb',rd,HWd.on hb',(hT.weak (fun k e => e ▸ hXB)).trans (Tch.of_below hb'),hQ _ _ _ _ (h0 hok) ((hTw.weak (fun k e => Or.inl e)).trans (Tch.of_below hb'))⟩
  | true =>
   refine (right_yes g lb eg W B w.heap.size a c ⟨st,t,rd⟩ hBW hA ht (by dsimp only; omega) hok ?_ (fun ok w' => ∃ S' v',Held w0 B 1 S' v' w' ∧ Tch X W w' ∧ Q ok S' w') ?_).mono ?_
   ·intro W' hW'
    have hb : W'.heap[w.heap.size]? = some (.cells #[.func (.func g) #[] lb] 185 (0, 0)) := by
     rw [hW'.block _ (by have := hT.size; omega),hT.2 _ (by omega) (by omega)]
     exact hF1
    rw [cell_of_row W' w.heap.size 0 _ _ (0, 0) hb]; rfl
   ·intro W' hW'
    refine (hf hok W' (HWd.on hW') (hTw.trans (Tch.of_below hW'))).mono ?_
    rintro e w' ⟨ok,S',v',rfl,h1,h2,h3⟩
    exact ⟨ok,rfl,S',v',h1,(Tch.of_below hW').trans h2,h3⟩
   ·rintro e w' ⟨ok,rfl,S',v',h1,h2,h3⟩
    obtain ⟨a',c',rfl,_⟩ := h1.at
    exact ⟨ok,S'.st,S'.text,a',S'.rd.length,c',rfl,h1.box,hRW.kept (h2.2 _ hRW.lt (fun e => by have := (hX _ e).2; omega)),S'.rd,h1,(hT.weak (fun k e => e ▸ hXB)).trans h2,h3⟩)
 clear hw1 hw2 hb1 hb2 s1 hF1 H2 hf h0
 go_enter Tryz.func129,Tryz.ntmps129
 go_wp2_with fail
 rw [HW.out]
 refine c0.mono ?_
 rintro e w3 ⟨ok,st',t',v',w2',rfl,⟨rd',h1,h2,h3⟩,hB2,hM2,hT3,hB3⟩
 obtain ⟨a',c',rfl,_⟩ := h1.at
 dsimp only at h1 h3 hB2 hB3 ⊢
 have hnX : ∀ k,w.heap.size ≤ k → ¬ X k := fun k hk e => by have := (hX k e).2; omega
 have hR3 : MBox w3 (w.heap.size + 1) (.int .i64 0) (.string ⟨#[]⟩) (.slice none 0 0) := (hR2.kept (h2.2 _ hR2.lt (hnX _ (by omega)))).kept (hT3.2 _ (by have := h2.size; omega) (by omega))
 have ho3 : OwnP w3 w0.heap.size 198 (.slice a' rd'.length c') rd' := h1.own.kept fun k hk => hT3.2 k (h1.own.lt k hk).2 (fun e => e.elim (ownP_notHeld h1.own h1.box k hk) (ownP_notBox h1.own hM2 k hk))
 have hb3 : Below w0.heap.size w0 w3 := Tch.below h1.below hT3 h1.below.size (fun k e => by have := H.below.size; have := H.hB; omega)
 have hTX : Tch X w w3 := ⟨((Tch.of_below (S := X) hbw).1.trans h2.1).trans hT3.1,fun k hk hn => (hT3.2 k (by have := h2.size; omega) (fun e => e.elim (fun e => hn (e ▸ hXB)) (fun e => by omega))).trans ((h2.2 k (by omega) hn).trans (hbw.block k hk))⟩
 have hQ3 : Q ok ⟨st',t',rd'⟩ w3 := hQ _ _ _ _ h3 (hT3.weak (fun k e => e.elim Or.inl (fun e => Or.inr (by omega))))
 have HO : Hid (MOwn w3 w0.heap.size (.agg #[.int .i64 st',.string t',.slice a' rd'.length c']) ⟨st',t',rd'⟩ ∧ Below w0.heap.size w0 w3 ∧ Tch X w w3 ∧ Q ok ⟨st',t',rd'⟩ w3) := ⟨⟨_,rfl,ho3⟩,hb3,hTX,hQ3⟩
 obtain ⟨r0,r1,r2⟩ := hR3.cells
 obtain ⟨f0,f1,f2⟩ := (⟨hR3.thaw 0,hR3.thaw 1,hR3.thaw 2⟩ : _ ∧ _ ∧ _)
 have HP : Hid (w0.heap.size ≤ w.heap.size) := H.below.size
 clear ho3 hb3 hTX hQ3 h1 h2 h3 hB2 hM2 hT3 hB3 c0 H hR2
 go_wp2_with fail
 obtain ⟨q0,q1,q2⟩ := (hR3.put (.int .i64 st') (.string t') (.slice a' rd'.length c')).cells
 refine bodyPost_ret (v := .tuple #[.agg #[.int .i64 st',.string t',.slice a' rd'.length c'],.bool ok]) (by simp [results,Tryz.results129,go_sem,q0,q1,q2]) rfl (HG.out ok ⟨st',t',rd'⟩ _ _ (HO.out.1.put3 hR3 _ _ _) (Below.put3M HO.out.2.1 (by have := HP.out; omega) _ _ _) ?_ ?_)
 ·exact ⟨HO.out.2.2.1.1.trans ((((Below.refl 0 w3).setCell (Nat.zero_le _) _).setCell (Nat.zero_le _) _).setCell (Nat.zero_le _) _),fun k hk hn => (put3_otherM _ _ _ _ _ k (by omega)).trans (HO.out.2.2.1.2 k hk hn)⟩
 ·exact hQ _ _ _ _ HO.out.2.2.2 ⟨(((Below.refl 0 w3).setCell (Nat.zero_le _) _).setCell (Nat.zero_le _) _).setCell (Nat.zero_le _) _,fun k hk hn => put3_otherM _ _ _ _ _ k (fun e => hn (Or.inr (by omega)))⟩
end Go.Proofs.YtaahjcljanckaaaGreatDoor
namespace Go.Proofs.YtaahjcljanckaaaGreatDoor
open Go.RowKit Go.Sort
theorem cloneSH_any (s : ByteArray) (w : World) (hs : s.size ≤ 281474976710656) :
  Calls Tryz.prog 34 #[.string s] w fun e w' => e = .returned (.string s) ∧ Below w.heap.size w w' := by
 go_enter Tryz.func34,Tryz.ntmps34
 go_wp2_with (go_at_call 61; refine (Tryz.stringslite_Clone s _ hs).mono ?_; rintro e w' ⟨rfl,hb⟩)
 go_ret
 exact ⟨rfl,hb⟩
set_option maxRecDepth 100000 in
set_option maxHeartbeats 4000000 in
theorem streamCopy_any (w : World) (a : Option Addr) (c : Nat) (S : Stm) (hE : PAt w a S.rd w.heap.size) (ht : S.text.size ≤ 281474976710656) (hm : S.rd.length ≤ 1048576) :
  Calls Tryz.prog 131 #[.agg #[.int .i64 S.st,.string S.text,.slice a S.rd.length c]] w fun e w' => ∃ v,e = .returned v ∧ MOwn w' w.heap.size v S ∧ Below w.heap.size w w' := by
 obtain ⟨st,t,rd⟩ := S
 dsimp only at hE hm ht ⊢
 obtain ⟨w0,hw0⟩ : ∃ x,w.alloc (.cells #[.int .i64 st,.string t,.slice a rd.length c] 105) = x := ⟨_,rfl⟩
 obtain ⟨w1,hw1⟩ : ∃ x,w0.alloc (.cells #[.int .i64 0,.string ⟨#[]⟩,.slice none 0 0] 105) = x := ⟨_,rfl⟩
 have hb0 : Below w.heap.size w w0 := by rw [← hw0]; exact (Below.refl _ _).alloc (Nat.le_refl _) _
 have hb1 : Below w0.heap.size w0 w1 := by rw [← hw1]; exact (Below.refl _ _).alloc (Nat.le_refl _) _
 have s0 : w0.heap.size = w.heap.size + 1 := by rw [← hw0]; simp
 have s1 : w1.heap.size = w.heap.size + 2 := by rw [← hw1]; simp; omega
 have hB : MBox w1 w.heap.size (.int .i64 st) (.string t) (.slice a rd.length c) := by
  have h : MBox w0 w.heap.size (.int .i64 st) (.string t) (.slice a rd.length c) := by rw [← hw0]; exact MBox.new _ _ _ _
  exact h.on hb1
 have hR : MBox w1 (w.heap.size + 1) (.int .i64 0) (.string ⟨#[]⟩) (.slice none 0 0) := by rw [← hw1, ← s0]; exact MBox.new _ _ _ _
 have hBw : Below w.heap.size w w1 := hb0.trans (hb1.mono hb0.size)
 have HW : Hid ((w.alloc (.cells #[.int .i64 st,.string t,.slice a rd.length c] 105)).alloc (.cells #[.int .i64 0,.string ⟨#[]⟩,.slice none 0 0] 105) = w1) := by rw [hw0]; exact hw1
 have hS := (hE.on hBw)
 have KC : ∀ W,Below w1.heap.size w1 W → W.cell? ⟨w.heap.size, 0,none⟩ = some (.int .i64 st) ∧ W.cell? ⟨w.heap.size, 1,none⟩ = some (.string t) ∧ W.cell? ⟨w.heap.size, 2,none⟩ = some (.slice a rd.length c) := fun W hW => (hB.on hW).cells
 have HSG : Hid ((a = none → rd.length = 0) ∧ ∀ W,Below w1.heap.size w1 W → ∀ ad,a = some ad → ∀ j u,(prl rd)[j]? = some u → W.cell? (ad.add j) = some u) := ⟨hS.srcR.1,fun W hW => (hS.on hW).srcR.2⟩
 have HR : Hid (∀ W,Below w1.heap.size w1 W → MBox W (w.heap.size + 1) (.int .i64 0) (.string ⟨#[]⟩) (.slice none 0 0)) := fun W hW => hR.on hW
 have HS1 : Hid (w1.heap.size = w.heap.size + 2) := s1
 have hdf : Below w1.heap.size w1 w1.drew := ⟨rfl,rfl,rfl,Nat.le_refl _,fun _ _ => rfl⟩
 have hdr : Below (w.heap.size + 1) w1 w1.drew := hdf.mono (by omega)
 have hn1 : w.heap.size + 1 ≤ w1.heap.size := by omega
 have KS : ∀ W,Below (w.heap.size + 1) w1 W → Below (w.heap.size + 1) w1 W ∧ W.cell? ⟨w.heap.size, 0,none⟩ = some (.int .i64 st) ∧ W.cell? ⟨w.heap.size, 1,none⟩ = some (.string t) ∧ W.cell? ⟨w.heap.size, 2,none⟩ = some (.slice a rd.length c) := by
  intro W hW
  obtain ⟨x0,x1,x2⟩ := hB.cells
  exact ⟨hW,(hW.cell (by simp)).trans x0,(hW.cell (by simp)).trans x1,(hW.cell (by simp)).trans x2⟩
 obtain ⟨b0,b1,b2⟩ := KC w1.drew hdf
 have HC : Hid (∀ W,Calls Tryz.prog 34 #[.string t] W fun e w' => e = .returned (.string t) ∧ Below W.heap.size W w') := fun W => cloneSH_any t W ht
 clear hw0 hw1 hb0 hb1 hB hR s0 s1 hE hS KC
 go_enter Tryz.func131,Tryz.ntmps131
 go_wp2_with fail
 rw [HW.out]
 go_region_held3 (fun W => Below (w.heap.size + 1) w1 W ∧ W.cell? ⟨w.heap.size, 0,none⟩ = some (.int .i64 st) ∧ W.cell? ⟨w.heap.size, 1,none⟩ = some (.string t) ∧ W.cell? ⟨w.heap.size, 2,none⟩ = some (.slice a rd.length c)) (first | exact KS _ (by first | exact hdr | exact fC.mono hn1 | exact fB.mono hn1 | exact ballocR hdr hn1 _ | exact ballocR (fC.mono hn1) hn1 _ | exact (((fB.mono hn1).setCell (Nat.le_refl _) _).setCell (Nat.le_refl _) _).setCell (Nat.le_refl _) _ | exact (((fC.mono hn1).setCell (Nat.le_refl _) _).setCell (Nat.le_refl _) _).setCell (Nat.le_refl _) _))
  (first
   | (refine step_allR rfl (.tmp 8) (.tmp 10) 103 rfl 198 Tryz.underlying103 (.agg #[.int .i64 0,.int .i64 0]) 2 16 Tryz.infoRdr rfl (by omega) (by omega) _ rfl (by first | exact heap_alloc_new _ _ | exact (hC.block _ (by simp)).trans (heap_alloc_new _ _)) a rd.length c (prl rd) rfl (prl_length rd) HSG.out.1 (HSG.out.2 _ (by first | exact hdf | exact bplusR hdf _ | exact fC | exact bplusR fC _)) (prl_one' rd) hm ?_; rintro gB cB wB oB bB nB kB; have fB : Below w1.heap.size w1 wB := Below.trans (by first | exact hdf | exact bplusR hdf _ | exact fC | exact bplusR fC _) (bB.mono (by first | exact Nat.le_refl _ | exact fC.size | omega)); obtain ⟨r0,r1,r2⟩ := (HR.out _ fB).cells; have t0 := (HR.out _ fB).thaw 0; have t1 := (HR.out _ fB).thaw 1; have t2 := (HR.out _ fB).thaw 2; have HE : Hid (OwnP wB w1.heap.size 198 (.slice (some ⟨gB, 0,none⟩) rd.length cB) rd) := OwnP.mono (L := rd) oB (by first | exact Nat.le_refl _ | exact fC.size | omega); have HF : Hid (Below w1.heap.size w1 wB) := fB)
   | (go_simp; go_at_call 34; refine (HC.out _).mono ?_; rintro e wC ⟨rfl,hC⟩; have fC : Below w1.heap.size w1 wC := Below.trans (by first | exact hdf | exact bplusR hdf _ | exact fB) (hC.mono (by first | exact hdf.size | exact (bplusR hdf _).size | exact fB.size)); obtain ⟨r0,r1,r2⟩ := (HR.out _ fC).cells; have t0 := (HR.out _ fC).thaw 0; have t1 := (HR.out _ fC).thaw 1; have t2 := (HR.out _ fC).thaw 2; have HF : Hid (Below w1.heap.size w1 wC) := fC; try (have HE : Hid (OwnP wC w1.heap.size 198 (.slice (some ⟨gB, 0,none⟩) rd.length cB) rd) := OwnP.below HE.out hC (Nat.le_refl _))))
 all_goals
  go_wp2_with fail
  have hRB := HR.out _ HF.out
  obtain ⟨q0,q1,q2⟩ := (hRB.put (.int .i64 st) (.string t) (.slice (some ⟨gB, 0,none⟩) rd.length cB)).cells
  refine bodyPost_ret (v := .agg #[.int .i64 st,.string t,.slice (some ⟨gB, 0,none⟩) rd.length cB]) (by simp [results,Tryz.results131,go_sem,q0,q1,q2]) rfl ⟨_,rfl, ?_, ?_⟩
  ·exact (MOwn.put3 (S := ⟨st,t,rd⟩) ⟨_,rfl,HE.out⟩ hRB _ _ _).mono (by have := HS1.out; omega)
  ·exact Below.put3M (hBw.trans (HF.out.mono hBw.size)) (by omega) _ _ _
set_option maxRecDepth 100000 in
set_option maxHeartbeats 4000000 in
theorem holdStream_any (w0 w : World) (a : Option Addr) (c : Nat) (S : Stm) (hb : Below w0.heap.size w0 w) (hE : PAt w a S.rd w.heap.size) (ht : S.text.size ≤ 281474976710656) (hm : S.rd.length ≤ 1048576) :
  Calls Tryz.prog 128 #[.agg #[.int .i64 S.st,.string S.text,.slice a S.rd.length c]] w fun e w' => ∃ B v,e = .returned (.pointer (some ⟨B, 0,none⟩)) ∧ Held w0 B 0 S v w' ∧ Below w.heap.size w w' ∧ w.heap.size ≤ B := by
 obtain ⟨st,t,rd⟩ := S
 dsimp only at hE hm ht ⊢
 obtain ⟨w1,hw1⟩ : ∃ x,w.alloc (.cells #[.int .i64 st,.string t,.slice a rd.length c] 105) = x := ⟨_,rfl⟩
 have hb1 : Below w.heap.size w w1 := by rw [← hw1]; exact (Below.refl _ _).alloc (Nat.le_refl _) _
 have hB1 : MBox w1 w.heap.size (.int .i64 st) (.string t) (.slice a rd.length c) := by rw [← hw1]; exact MBox.new _ _ _ _
 have HW : Hid (w.alloc (.cells #[.int .i64 st,.string t,.slice a rd.length c] 105) = w1) := hw1
 have cC := streamCopy_any w1 a c ⟨st,t,rd⟩ (hE.on hb1) ht hm
 obtain ⟨b0,b1,b2⟩ := hB1.cells
 clear hw1
 go_enter Tryz.func128,Tryz.ntmps128
 go_wp2_with fail
 rw [HW.out]
 refine cC.mono ?_
 rintro e w2 ⟨v,rfl,⟨v1,rfl,ho⟩,hb2⟩
 have hbw2 : Below w.heap.size w w2 := hb1.trans (hb2.mono hb1.size)
 have HH : Hid (Held w0 w2.heap.size 0 ⟨st,t,rd⟩ v1 (w2.alloc (.cells #[.int .i32 0,.int .u32 0,.int .i64 st,.string t,v1] 193)) ∧ Below w.heap.size w (w2.alloc (.cells #[.int .i32 0,.int .u32 0,.int .i64 st,.string t,v1] 193)) ∧ w.heap.size ≤ w2.heap.size) := by
  have hbA : Below w2.heap.size w2 (w2.alloc (.cells #[.int .i32 0,.int .u32 0,.int .i64 st,.string t,v1] 193)) := (Below.refl _ _).alloc (Nat.le_refl _) _
  have hbT := hbw2.trans (hbA.mono hbw2.size)
  exact ⟨⟨hb.trans (hbT.mono hb.size),Nat.le_trans hb.size hbw2.size,heap_alloc_new w2 _,(ho.below hbA (Nat.le_refl _)).mono (Nat.le_trans hb.size hb1.size)⟩,hbT,hbw2.size⟩
 obtain ⟨a1,c1,rfl,_⟩ := ho.at
 clear ho hb2 hbw2 cC b0 b1 b2 hB1 hE hb1
 go_wp2_with fail
 go_ret
 exact ⟨_,_,rfl,HH.out.1,HH.out.2⟩
theorem end1_eg : ∀ args w,(callFunc 157 args).run Tryz.prog w = .ok (.enter 157 args) w := enters_of Tryz.func157 (by kernel_rfl) rfl
set_option maxRecDepth 100000 in
set_option maxHeartbeats 4000000 in
theorem end1_any (w0 : World) (B T : Nat) (S : Stm) (v : Value) (br : Bool) (W : World) (H : Held w0 B 1 S v W) (hT : W.heap[T]? = some (.cells #[.bool br] 4 (0, 0))) (hok : okM S = true) (_ : S.text.size ≤ 1048576) (_ : S.rd.length ≤ 1048576) :
  Calls Tryz.prog 157 (#[.pointer (some ⟨B, 2,none⟩)] ++ #[.pointer (some ⟨T, 0,none⟩)]) W fun e w' => ∃ ok S' v',e = .returned (.bool ok) ∧ Held w0 B 1 S' v' w' ∧ Tch (fun k => k = B ∨ v.ownBlock = some k) W w' ∧ (S',ok) = endM S br := by
 show Calls _ _ #[.pointer (some ⟨B, 2,none⟩),.pointer (some ⟨T, 0,none⟩)] _ _
 have hTB : T ≠ B := fun e => by
  have hb := H.box
  unfold HBox at hb
  rw [e,hb] at hT
  simp only [Option.some.injEq,Obj.cells.injEq] at hT
  exact absurd hT.2.1 (by decide)
 obtain ⟨b2,b3,b4⟩ := H.box.cells
 have z2 := H.box.thaw 2
 have p0 : W.cell? ⟨T, 0,none⟩ = some (.bool br) := by rw [cell_of_row W T 0 _ _ (0, 0) hT]; rfl
 by_cases hs : S.st = 1
 ·rw [hs] at b2
  have hA := H.stTo 2
  have x2 := hA.box.cells.1
  have y2 := hA.box.thaw 2
  have p1 : (W.setCell ⟨B, 2,none⟩ (.int .i64 2)).cell? ⟨T, 0,none⟩ = some (.bool br) := (World.cell?_setCell_other _ _ _ _ (fun e => hTB (congrArg Addr.block e).symm)).trans p0
  cases br with
  | false =>
   have HP : Hid (∃ ok S' v',Ending.returned (.bool true) = .returned (.bool ok) ∧ Held w0 B 1 S' v' (W.setCell ⟨B, 2,none⟩ (.int .i64 2)) ∧ Tch (fun k => k = B ∨ v.ownBlock = some k) W (W.setCell ⟨B, 2,none⟩ (.int .i64 2)) ∧ (S',ok) = endM S false) := ⟨true,_,v,rfl,hA,tch_set _ _ _ _ (Or.inl rfl),by unfold endM; rw [hok]; simp [hs]⟩
   obtain ⟨G,hG⟩ : ∃ G : Ending → World → Prop,G = fun e w' => ∃ ok S' v',e = .returned (.bool ok) ∧ Held w0 B 1 S' v' w' ∧ Tch (fun k => k = B ∨ v.ownBlock = some k) W w' ∧ (S',ok) = endM S false := ⟨_,rfl⟩
   rw [← hG]
   have HQ : Hid (G (.returned (.bool true)) (W.setCell ⟨B, 2,none⟩ (.int .i64 2))) := by rw [hG]; exact HP.out
   clear HP hG hA H hT
   go_enter Tryz.func157,Tryz.ntmps157
   go_wp2_with fail
   exact HQ.out
  | true =>
   have hA2 := hA.stTo 3
   have HP : Hid (∃ ok S' v',Ending.returned (.bool true) = .returned (.bool ok) ∧ Held w0 B 1 S' v' ((W.setCell ⟨B, 2,none⟩ (.int .i64 2)).setCell ⟨B, 2,none⟩ (.int .i64 3)) ∧ Tch (fun k => k = B ∨ v.ownBlock = some k) W ((W.setCell ⟨B, 2,none⟩ (.int .i64 2)).setCell ⟨B, 2,none⟩ (.int .i64 3)) ∧ (S',ok) = endM S true) := ⟨true,_,v,rfl,hA2,(tch_set _ _ _ _ (Or.inl rfl)).trans (tch_set _ _ _ _ (Or.inl rfl)),by unfold endM; rw [hok]; simp [hs]⟩
   obtain ⟨G,hG⟩ : ∃ G : Ending → World → Prop,G = fun e w' => ∃ ok S' v',e = .returned (.bool ok) ∧ Held w0 B 1 S' v' w' ∧ Tch (fun k => k = B ∨ v.ownBlock = some k) W w' ∧ (S',ok) = endM S true := ⟨_,rfl⟩
   rw [← hG]
   have HQ : Hid (G (.returned (.bool true)) ((W.setCell ⟨B, 2,none⟩ (.int .i64 2)).setCell ⟨B, 2,none⟩ (.int .i64 3))) := by rw [hG]; exact HP.out
   clear HP hG hA hA2 H hT
   go_enter Tryz.func157,Tryz.ntmps157
   go_wp2_with fail
   exact HQ.out
 ·have hs' : (S.st != 1) = true := by simp [hs]
  obtain ⟨G,hG⟩ : ∃ G : Ending → World → Prop,G = fun e w' => ∃ ok S' v',e = .returned (.bool ok) ∧ Held w0 B 1 S' v' w' ∧ Tch (fun k => k = B ∨ v.ownBlock = some k) W w' ∧ (S',ok) = endM S br := ⟨_,rfl⟩
  rw [← hG]
  have HQ : Hid (G (.returned (.bool false)) W) := by rw [hG]; exact ⟨false,S,v,rfl,H,Tch.of_below (Below.refl _ _),by unfold endM; rw [hok]; simp [hs]⟩
  clear hG H hT
  go_enter Tryz.func157,Tryz.ntmps157
  go_wp2_with fail
  exact HQ.out
set_option maxRecDepth 100000 in
set_option maxHeartbeats 4000000 in
theorem implStreamEnd_any (w : World) (a : Option Addr) (c : Nat) (S : Stm) (br : Bool) (hE : PAt w a S.rd w.heap.size) (ht : S.text.size ≤ 1048576) (hm : S.rd.length ≤ 1048576) :
  Calls Tryz.prog 156 #[.agg #[.int .i64 S.st,.string S.text,.slice a S.rd.length c],.bool br] w fun e w' => ∃ v,e = .returned (.tuple #[v,.bool (endM S br).2]) ∧ MOwn w' w.heap.size v (endM S br).1 ∧ Below w.heap.size w w' := by
 obtain ⟨w1,hw1⟩ : ∃ x,w.alloc (.cells #[.int .i64 S.st,.string S.text,.slice a S.rd.length c] 105) = x := ⟨_,rfl⟩
 obtain ⟨w2,hw2⟩ : ∃ x,w1.alloc (.cells #[.bool br] 4) = x := ⟨_,rfl⟩
 obtain ⟨w3,hw3⟩ : ∃ x,w2.alloc (.cells #[.int .i64 0,.string ⟨#[]⟩,.slice none 0 0] 105) = x := ⟨_,rfl⟩
 have hb1 : Below w.heap.size w w1 := by rw [← hw1]; exact (Below.refl _ _).alloc (Nat.le_refl _) _
 have hb2 : Below w1.heap.size w1 w2 := by rw [← hw2]; exact (Below.refl _ _).alloc (Nat.le_refl _) _
 have hb3 : Below w2.heap.size w2 w3 := by rw [← hw3]; exact (Below.refl _ _).alloc (Nat.le_refl _) _
 have s1 : w1.heap.size = w.heap.size + 1 := by rw [← hw1]; simp
 have s2 : w2.heap.size = w.heap.size + 1 + 1 := by rw [← hw2]; simp; omega
 have s3 : w3.heap.size = w.heap.size + 1 + 1 + 1 := by rw [← hw3]; simp; omega
 have hb23 : Below w1.heap.size w1 w3 := hb2.trans (hb3.mono hb2.size)
 have hbw : Below w.heap.size w w3 := hb1.trans (hb23.mono hb1.size)
 have hB3 : MBox w3 w.heap.size (.int .i64 S.st) (.string S.text) (.slice a S.rd.length c) := by
  have h : MBox w1 w.heap.size (.int .i64 S.st) (.string S.text) (.slice a S.rd.length c) := by rw [← hw1]; exact MBox.new _ _ _ _
  exact h.on hb23
 have hP3 : w3.heap[w.heap.size + 1]? = some (.cells #[.bool br] 4 (0, 0)) := by
  rw [hb3.block _ (by omega), ← hw2, ← s1]
  exact heap_alloc_new w1 _
 have hR3 : MBox w3 (w.heap.size + 1 + 1) (.int .i64 0) (.string ⟨#[]⟩) (.slice none 0 0) := by rw [← hw3, ← s2]; exact MBox.new _ _ _ _
 have HW : Hid (((w.alloc (.cells #[.int .i64 S.st,.string S.text,.slice a S.rd.length c] 105)).alloc (.cells #[.bool br] 4)).alloc (.cells #[.int .i64 0,.string ⟨#[]⟩,.slice none 0 0] 105) = w3) := by rw [hw1,hw2]; exact hw3
 have hmf : ∀ (fn : Fn) (first cap : Array Value) (w : World),(Instr.makeFunc fn first cap).run Tryz.prog w = .ok (.func fn first cap) w := fun _ _ _ _ => rfl
 have cH := holdStream_any w w3 a c S hbw (hE.on hbw) (by omega) hm
 obtain ⟨b0,b1,b2⟩ := hB3.cells
 clear hw1 hw2 hw3 hb1 hb2 hb3 hb23 s1 s2
 go_enter Tryz.func156,Tryz.ntmps156
 go_wp2_with fail
 rw [HW.out]
 refine cH.mono ?_
 rintro e w4 ⟨B,v,rfl,hH,hb4,hB⟩
 have hP4 : w4.heap[w.heap.size + 1]? = some (.cells #[.bool br] 4 (0, 0)) := by rw [hb4.block _ (by omega)]; exact hP3
 have hR4 := hR3.on hb4
 have hown : ∀ k,v.ownBlock = some k → k ≠ w.heap.size + 1 + 1 := ownP_notBox hH.own hR4
 have hownP : ∀ k,v.ownBlock = some k → k ≠ w.heap.size + 1 := fun k hk e => by
  obtain ⟨cs,hc⟩ := ownP_type hH.own k hk
  rw [e,hP4] at hc
  simp only [Option.some.injEq,Obj.cells.injEq] at hc
  exact absurd hc.2.1 (by decide)
 clear cH b0 b1 b2 HW hB3 hP3 hR3
 go_wp2_with fail
 refine changeRight_to _ 157 #[.pointer (some ⟨w.heap.size + 1, 0,none⟩)] end1_eg w w4 B S v hH ht hm (fun k => k = B ∨ v.ownBlock = some k) (Or.inl rfl) ?_ (fun ok S' _ => (S',ok) = endM S br) (fun _ _ _ _ h _ => h) ?_ ?_ ?_
 ·rintro k (rfl | hk)
  ·exact ⟨hH.hB,hH.box.lt⟩
  ·exact hH.own.lt k hk
 ·intro hok
  unfold endM
  rw [hok]
  rfl
 ·intro hok W hW hT
  have hPW : W.heap[w.heap.size + 1]? = some (.cells #[.bool br] 4 (0, 0)) := by rw [hT.2 _ (by have := hb4.size; omega) (by omega)]; exact hP4
  exact end1_any w B (w.heap.size + 1) S v br W hW hPW hok ht hm
 ·intro ok S' u w5 ho5 hb5 hT5 hQ5
  have HQ1 : Hid ((endM S br).1 = S') := by show _ = _; rw [← hQ5]
  have HQ2 : Hid ((endM S br).2 = ok) := by show _ = _; rw [← hQ5]
  have hR5 : MBox w5 (w.heap.size + 1 + 1) (.int .i64 0) (.string ⟨#[]⟩) (.slice none 0 0) := hR4.kept (hT5.2 _ (by have := hb4.size; omega) (fun e => e.elim (fun e => by omega) (fun e => hown _ e rfl)))
  obtain ⟨u1,rfl,hu1⟩ := ho5
  obtain ⟨a5,c5,rfl,_⟩ := hu1.at
  have HO : Hid (MOwn w5 w.heap.size (.agg #[.int .i64 S'.st,.string S'.text,.slice a5 S'.rd.length c5]) S' ∧ Below w.heap.size w w5) := ⟨⟨_,rfl,hu1⟩,hb5⟩
  obtain ⟨r0,r1,r2⟩ := hR5.cells
  obtain ⟨f0,f1,f2⟩ := (⟨hR5.thaw 0,hR5.thaw 1,hR5.thaw 2⟩ : _ ∧ _ ∧ _)
  clear hu1 hb5 hT5 hQ5 hP4 hR4 hown hownP hH hb4 hbw hE
  go_wp2_with fail
  obtain ⟨q0,q1,q2⟩ := (hR5.put (.int .i64 S'.st) (.string S'.text) (.slice a5 S'.rd.length c5)).cells
  refine bodyPost_ret (v := .tuple #[.agg #[.int .i64 S'.st,.string S'.text,.slice a5 S'.rd.length c5],.bool ok]) (by simp [results,Tryz.results156,go_sem,q0,q1,q2]) rfl ⟨_,by rw [HQ2.out],by rw [HQ1.out]; exact HO.out.1.put3 hR5 _ _ _,Below.put3M HO.out.2 (by omega) _ _ _⟩
end Go.Proofs.YtaahjcljanckaaaGreatDoor
