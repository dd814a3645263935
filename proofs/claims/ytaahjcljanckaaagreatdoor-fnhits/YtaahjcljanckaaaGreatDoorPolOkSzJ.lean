/- Texts that stand in one: PolOkSz, SkOkImpl, PolOkImpl, PxOkImpl, CliPlace, MayAsk. -/
import Derived.Test.YtaahjcljanckaaaGreatDoorConcatSJ
import Derived.Test.YtaahjcljanckaaaGreatDoorPolSzTextJ
import Derived.Test.YtaahjcljanckaaaGreatDoorShelf
import Derived.Test.YtaahjcljanckaaaGreatDoorPxCliImplJ
import Derived.Lib.QuietBelow
import Derived.BigQuiet
import Derived.Test.YtaahjcljanckaaaGreatDoorPrxBaseJ
import Derived.Test.YtaahjcljanckaaaGreatDoorCliLawJ
import Derived.Shelf.Abstract
import Derived.Test.YtaahjcljanckaaaGreatDoorPxSlicesJ
namespace Go.Proofs.YtaahjcljanckaaaGreatDoor
open Go.RowKit Go.Sort
theorem foldMin_lt (l : List Int) : ∀ (x z : Int),l.foldl min x < z ↔ x < z ∨ ∃ y ∈ l,y < z := by
 induction l with
 | nil => intro x z; simp
 | cons a r ih =>
  intro x z
  rw [List.foldl_cons,ih]
  simp only [List.mem_cons,exists_eq_or_imp]
  have : min x a < z ↔ x < z ∨ a < z := by omega
  rw [this,or_assoc]
theorem foldMax_gt (l : List Int) : ∀ (x z : Int),z < l.foldl max x ↔ z < x ∨ ∃ y ∈ l,z < y := by
 induction l with
 | nil => intro x z; simp
 | cons a r ih =>
  intro x z
  rw [List.foldl_cons,ih]
  simp only [List.mem_cons,exists_eq_or_imp]
  have : z < max x a ↔ z < x ∨ z < a := by omega
  rw [this,or_assoc]
theorem minOf_neg {l : List Int} (hl : 0 < l.length) (z : Int) : Lib.minOf l < z ↔ ∃ y ∈ l,y < z := by
 cases l with
 | nil => simp at hl
 | cons a r =>
  unfold Lib.minOf
  rw [foldMin_lt]
  simp
theorem maxOf_pos {l : List Int} (hl : 0 < l.length) (z : Int) : z < Lib.maxOf l ↔ ∃ y ∈ l,z < y := by
 cases l with
 | nil => simp at hl
 | cons a r =>
  unfold Lib.maxOf
  rw [foldMax_gt]
  simp
theorem rowOk_minmax {r : List Int} (hl : r.length = 16) : rowOk r = (!decide (Lib.minOf r < 0) && !decide (15 < Lib.maxOf r)) := by
 have h1 := minOf_neg (l := r) (by omega) 0
 have h2 := maxOf_pos (l := r) (by omega) 15
 cases hr : rowOk r with
 | true =>
  unfold rowOk at hr
  simp only [Bool.and_eq_true,List.all_eq_true] at hr
  have n1 : ¬ Lib.minOf r < 0 := by
   rw [h1]
   rintro ⟨y,hy,hlt⟩
   have := hr.2 y hy
   simp only [numOk,decide_eq_true_eq] at this
   omega
  have n2 : ¬ 15 < Lib.maxOf r := by
   rw [h2]
   rintro ⟨y,hy,hlt⟩
   have := hr.2 y hy
   simp only [numOk,decide_eq_true_eq] at this
   omega
  simp [n1,n2]
 | false =>
  unfold rowOk at hr
  rw [Bool.and_eq_false_iff] at hr
  rcases hr with hr | hr
  ·simp [hl] at hr
  ·rw [List.all_eq_false] at hr
   obtain ⟨y,hy,hn⟩ := hr
   simp only [numOk,decide_eq_true_eq] at hn
   by_cases h0 : y < 0
   ·have : Lib.minOf r < 0 := h1.2 ⟨y,hy,h0⟩
    simp [this]
   ·have : 15 < Lib.maxOf r := h2.2 ⟨y,hy,by omega⟩
    simp [this]
theorem IAt.getD {w : World} {b off B : Nat} {l : List Int} (h : IAt w (some ⟨b,off,none⟩) l B) : ∀ j,j < l.length → w.cell? ⟨b,off + j,none⟩ = some (.int .i64 (l.getD j 0)) := by
 intro j hj
 obtain ⟨g,o,ha,_,hc⟩ := h j hj
 simp only [Option.some.injEq,Addr.mk.injEq,and_true] at ha
 obtain ⟨rfl,rfl⟩ := ha
 rw [hc,List.getD_eq_getElem?_getD,List.getElem?_eq_getElem hj]
 rfl
set_option maxRecDepth 100000 in
set_option maxHeartbeats 2000000 in
theorem implSketchOk_any (w : World) (a : Option Addr) (c : Nat) (S : Sk) (hA : SSAt w a S.rows w.heap.size) (hm : S.rows.length ≤ 1048576) :
  Calls Tryz.prog 51 #[.agg #[.slice a S.rows.length c,.int .i64 S.added]] w fun e w' => e = .returned (.bool (okK S)) ∧ Below w.heap.size w w' := by
 obtain ⟨rows,added⟩ := S
 dsimp only at *
 obtain ⟨w1,hw1⟩ : ∃ x,w.alloc (.cells #[.slice a rows.length c,.int .i64 added] 30) = x := ⟨_,rfl⟩
 have hb1 : Below w.heap.size w w1 := by rw [← hw1]; exact (Below.refl _ _).alloc (Nat.le_refl _) _
 have hB : SkBox w1 w.heap.size (.slice a rows.length c) (.int .i64 added) := by rw [← hw1]; exact SkBox.new _ _ _
 have hA1 := hA.on hb1
 obtain ⟨b0,b1⟩ := hB.cells
 have HW : Hid (w.alloc (.cells #[.slice a rows.length c,.int .i64 added] 30) = w1) := hw1
 rw [← hw1] at b0 b1
 clear hw1 hB hA
 go_enter Tryz.func51,Tryz.ntmps51
 by_cases h3 : rows.length = 3
 case neg =>
  have hn : ((rows.length : Int) != 3) = true := by simp; omega
  have HF : Hid (okK ⟨rows,added⟩ = false) := by show _ = _; simp [okK,headOkK,h3]
  clear h3
  go_wp2
  go_ret
  exact ⟨by rw [HF.out]; rfl,by rw [HW.out]; exact hb1⟩
 have hn : ((rows.length : Int) != 3) = false := by simp; omega
 have H3 : Hid (rows.length = 3) := h3
 clear h3
 by_cases hlo : added < 0
 case pos =>
  have HF : Hid (okK ⟨rows,added⟩ = false) := by
   show _ = _
   have e : decide (0 ≤ added ∧ added ≤ 63) = false := decide_eq_false (by omega)
   simp only [okK,headOkK,e,Bool.and_false,Bool.false_and]
  go_wp2
  go_ret
  exact ⟨by rw [HF.out]; rfl,by rw [HW.out]; exact hb1⟩
 by_cases hhi : 64 ≤ added
 case pos =>
  have HF : Hid (okK ⟨rows,added⟩ = false) := by
   show _ = _
   have e : decide (0 ≤ added ∧ added ≤ 63) = false := decide_eq_false (by omega)
   simp only [okK,headOkK,e,Bool.and_false,Bool.false_and]
  go_wp2
  go_ret
  exact ⟨by rw [HF.out]; rfl,by rw [HW.out]; exact hb1⟩
 have HH : Hid (headOkK ⟨rows,added⟩ = true) := by
  have e : decide (0 ≤ added ∧ added ≤ 63) = true := decide_eq_true (by omega)
  show _ = _
  simp only [headOkK,e,H3.out,decide_true,Bool.and_true]
 go_wp2
 rw [HW.out] at b0 b1 ⊢
 clear hlo hhi
 go_loopw [4, 22] (fun _ i wr => Box (∃ (k : Nat),k ≤ rows.length ∧ i = .int .i64 k ∧ Hid (∀ j (hj : j < rows.length),j < k → rowOk rows[j] = true) ∧ w1 = wr))
  (fun _ i _ => rows.length - (intOf i).toNat)
 case atStart => exact ⟨⟨0,by omega,rfl,(fun j hj h => by omega),rfl⟩⟩
 case round =>
  obtain ⟨k,hk,rfl,HP,rfl⟩ := hrel.out
  by_cases hlt : k < rows.length
  ·obtain ⟨g,off,ai,ci,rfl,hg,hc,hI⟩ := hA1 k hlt
   have HFK : Hid (rowOk rows[k] = false → okK ⟨rows,added⟩ = false) := okK_false hlt
   have HPK : Hid (rowOk rows[k] = true → ∀ j (hj : j < rows.length),j < k + 1 → rowOk rows[j] = true) := by
    intro h j hj hjk
    by_cases e : j = k
    ·subst e; exact h
    ·exact HP.out j hj (by omega)
   obtain ⟨r,hr⟩ : ∃ r,rows[k] = r := ⟨_,rfl⟩
   rw [hr] at hc hI HFK HPK
   clear hrel hr hn
   have hi1 : (0 : Int) ≤ (k : Int) := by omega
   have hi2 : (k : Int) < (rows.length : Int) := by omega
   by_cases h16 : r.length = 16
   case neg =>
    have hn : ((r.length : Int) != 16) = true := by simp; omega
    have HF : Hid (okK ⟨rows,added⟩ = false) := HFK.out (rowOk_len_false h16)
    clear h16
    go_wp2
    go_ret
    exact ⟨by rw [HF.out]; rfl,hb1⟩
   have hn : ((r.length : Int) != 16) = false := by simp; omega
   have HMM : Hid (rowOk r = (!decide (Lib.minOf r < 0) && !decide (15 < Lib.maxOf r))) := rowOk_minmax h16
   obtain ⟨g2,off2,rfl,hx1,hx2⟩ := hI 0 (by omega)
   clear hx1 hx2
   have cMin := Tryz.slices_Min_int g2 off2 r.length ci r w1 (by omega) (Nat.le_refl _) (by omega) hI.getD
   have cMax := Tryz.slices_Max_int g2 off2 r.length ci r w1 (by omega) (Nat.le_refl _) (by omega) hI.getD
   rw [List.take_length] at cMin cMax
   generalize Lib.minOf r = mn at cMin HMM
   generalize Lib.maxOf r = mx at cMax HMM
   clear h16
   by_cases hmn : mn < 0
   ·have HF : Hid (okK ⟨rows,added⟩ = false) := HFK.out (by rw [HMM.out]; simp [hmn])
    go_wp2_with (go_at_call 83; refine cMin.mono ?_; rintro e w' ⟨rfl,rfl⟩)
    go_ret
    exact ⟨by rw [HF.out]; rfl,hb1⟩
   by_cases hmx : 15 < mx
   ·have HF : Hid (okK ⟨rows,added⟩ = false) := HFK.out (by rw [HMM.out]; simp [hmx])
    go_wp2_with (first | (go_at_call 83; refine cMin.mono ?_; rintro e w' ⟨rfl,rfl⟩) | (go_at_call 84; refine cMax.mono ?_; rintro e w' ⟨rfl,rfl⟩))
    go_ret
    exact ⟨by rw [HF.out]; rfl,hb1⟩
   have HT : Hid (rowOk r = true) := by show _ = _; rw [HMM.out]; simp; omega
   go_wp2_with (first | (go_at_call 83; refine cMin.mono ?_; rintro e w' ⟨rfl,rfl⟩) | (go_at_call 84; refine cMax.mono ?_; rintro e w' ⟨rfl,rfl⟩))
   go_roundw
   case rel =>
    try ((repeat apply Exists.intro); refine ⟨?_,rfl⟩)
    exact ⟨⟨k + 1,by omega,by go_num,HPK.out HT.out,by first | rfl | trivial⟩⟩
   case measure => simp [intOf]; omega
  ·have HT : Hid (okK ⟨rows,added⟩ = true) := okK_true HH.out fun j hj => HP.out j hj (by omega)
   go_wp2
   go_ret
   exact ⟨by rw [HT.out]; rfl,hb1⟩
theorem two_cells {w : World} {T : Nat} {x y : Value} {t : TypeId} (h : w.heap[T]? = some (.cells #[x,y] t (0, 0))) : w.cell? ⟨T, 0,none⟩ = some x ∧ w.cell? ⟨T, 1,none⟩ = some y := by
 exact ⟨by rw [cell_of_row w T 0 _ _ (0, 0) h]; rfl,by rw [cell_of_row w T 1 _ _ (0, 0) h]; rfl⟩
set_option maxRecDepth 100000 in
set_option maxHeartbeats 4000000 in
theorem implPolicyOk_any (w : World) (aw am ak : Option Addr) (cw cm ck : Nat) (P : Pol) (hA : PolAt w aw am ak P w.heap.size) (hm : P.win.length ≤ 1048576) (hm' : P.main.length ≤ 1048576) (hs : P.sk.rows.length ≤ 1048576) (hz : ∀ z ∈ P.win ++ P.main,z.size ≤ 10000000) :
  Calls Tryz.prog 28 #[.agg #[.slice aw P.win.length cw,.slice am P.main.length cm,.slice ak P.sk.rows.length ck,.int .i64 P.sk.added]] w fun e w' => e = .returned (.bool (okP P)) ∧ Below w.heap.size w w' := by
 obtain ⟨w1,hw1⟩ : ∃ x,w.alloc (.cells #[.slice aw P.win.length cw,.slice am P.main.length cm,.slice ak P.sk.rows.length ck,.int .i64 P.sk.added] 32) = x := ⟨_,rfl⟩
 have hb1 : Below w.heap.size w w1 := by rw [← hw1]; exact (Below.refl _ _).alloc (Nat.le_refl _) _
 have hB : PBox w1 w.heap.size (.slice aw P.win.length cw) (.slice am P.main.length cm) (.slice ak P.sk.rows.length ck) (.int .i64 P.sk.added) := by rw [← hw1]; exact PBox.new _ _ _ _ _
 have hA1 := hA.on hb1
 have cO := implSketchOk_any w1 ak ck P.sk hA1.2.2 hs
 have HW : Hid (w.alloc (.cells #[.slice aw P.win.length cw,.slice am P.main.length cm,.slice ak P.sk.rows.length ck,.int .i64 P.sk.added] 32) = w1) := hw1
 obtain ⟨A,hAA⟩ : ∃ A,P.win ++ P.main = A := ⟨_,rfl⟩
 have hAl : A.length = P.win.length + P.main.length := by rw [← hAA,List.length_append]
 have HOK : Hid (∀ q,listOk A = q → okP P = (q && (decide (P.win.length ≤ 2) && decide (P.main.length ≤ 4) && okK P.sk))) := fun q h => by rw [← h, ← hAA]; rfl
 have HAA : Hid (P.win ++ P.main = A) := hAA
 rw [hAA] at hz
 have HZ : Hid (∀ z ∈ A,z.size ≤ 10000000) := hz
 have HR : Hid (PolAt w1 aw am ak P w1.heap.size ∧ PBox w1 w.heap.size (.slice aw P.win.length cw) (.slice am P.main.length cm) (.slice ak P.sk.rows.length ck) (.int .i64 P.sk.added) ∧ Below w.heap.size w w1) := ⟨hA1,hB,hb1⟩
 obtain ⟨b0,b1,b2,b3⟩ := hB.cells
 rw [← hw1] at b0 b1 b2 b3
 clear hw1 hA hB hA1 hAA hz hb1 hs
 go_enter Tryz.func28,Tryz.ntmps28
 by_cases h2 : P.win.length ≤ 2
 case neg =>
  have h2' : ((2 : Int) < P.win.length) := by omega
  have HT : Hid (okP P = false) := by show _ = _; rw [HOK.out _ rfl,decide_eq_false h2]; simp
  clear h2 cO
  go_wp2_with fail
  rw [HW.out]
  go_ret
  exact ⟨by rw [HT.out]; rfl,HR.out.2.2⟩
 have h2' : ¬ ((2 : Int) < P.win.length) := by omega
 by_cases h4 : P.main.length ≤ 4
 case neg =>
  have h4' : ((4 : Int) < P.main.length) := by omega
  have HT : Hid (okP P = false) := by show _ = _; rw [HOK.out _ rfl,decide_eq_false h4]; simp
  clear h2 h4 cO
  go_wp2_with fail
  rw [HW.out]
  go_ret
  exact ⟨by rw [HT.out]; rfl,HR.out.2.2⟩
 have h4' : ¬ ((4 : Int) < P.main.length) := by omega
 rw [decide_eq_true h2,decide_eq_true h4] at HOK
 have hAL : A.length ≤ 6 := by omega
 clear h2 h4 hm hm'
 obtain ⟨q,hq⟩ : ∃ q,okK P.sk = q := ⟨_,rfl⟩
 rw [hq] at cO HOK
 clear hq
 go_wp2_with fail
 rw [HW.out]
 refine cO.mono ?_
 rintro e w2 ⟨rfl,hb2⟩
 obtain ⟨hP2,hB2,hbw2⟩ : PolAt w2 aw am ak P w2.heap.size ∧ PBox w2 w.heap.size (.slice aw P.win.length cw) (.slice am P.main.length cm) (.slice ak P.sk.rows.length ck) (.int .i64 P.sk.added) ∧ Below w.heap.size w w2 := ⟨HR.out.1.on hb2,HR.out.2.1.on hb2,HR.out.2.2.trans (hb2.mono HR.out.2.2.size)⟩
 clear cO b0 b1 b2 b3 HR HW hb2
 cases q with
 | false =>
  have HT : Hid (okP P = false) := by show _ = _; rw [HOK.out _ rfl]; simp
  go_wp2_with fail
  go_ret
  exact ⟨by rw [HT.out]; rfl,hbw2⟩
 | true =>
  obtain ⟨b0,b1,b2,b3⟩ := hB2.cells
  obtain ⟨w3,hw3⟩ : ∃ x,w2.alloc (.cells #[.slice aw P.win.length cw,.slice am P.main.length cm] 27) = x := ⟨_,rfl⟩
  have hb3 : Below w2.heap.size w2 w3 := by rw [← hw3]; exact (Below.refl _ _).alloc (Nat.le_refl _) _
  have hv3 : w3.heap[w2.heap.size]? = some (.cells #[.slice aw P.win.length cw,.slice am P.main.length cm] 27 (0, 0)) := by rw [← hw3]; exact heap_alloc_new _ _
  have hP3 := hP2.on hb3
  have cC := concatS_any w3 w2.heap.size aw am cw cm P.win P.main (two_cells hv3).1 (two_cells hv3).2 (Array.getElem?_eq_some_iff.1 hv3).1 hP3.1 hP3.2.1 (by omega)
  rw [HAA.out] at cC
  have HW3 : Hid (w2.alloc (.cells #[.slice aw P.win.length cw,.slice am P.main.length cm] 27) = w3) := hw3
  have HB3 : Hid (Below w.heap.size w w3) := hbw2.trans (hb3.mono hbw2.size)
  clear hw3 hv3 hP3 hP2 hB2
  go_wp2_with fail
  rw [HW3.out]
  refine cC.mono ?_
  rintro e w4 ⟨v,rfl,ho,hb4⟩
  have HB4 : Hid (Below w.heap.size w w4) := HB3.out.trans (hb4.mono HB3.out.size)
  obtain ⟨a5,c5,rfl,hL5⟩ := ho.strsAt
  have hcap : A.length ≤ c5 := by
   rcases ho.2 with ⟨e1,hl0⟩ | ⟨g,cp,cur,e1,_,_,hle,_⟩
   ·rw [strs_length] at hl0
    omega
   ·simp only [Value.slice.injEq] at e1
    rw [strs_length] at e1 hle
    omega
  clear cC ho b0 b1 b2 b3 hb3 hb4 HB3 HW3 hbw2
  go_wp2
  go_loopw [30] (fun i wr => Box (∃ (k : Nat),k ≤ A.length ∧ i = .int .i64 k ∧ Hid (listOkTo A k = true) ∧ LAt wr a5 A wr.heap.size ∧ Below w.heap.size w wr))
   (fun i _ => A.length - (intOf i).toNat)
  case atStart => exact ⟨⟨0,by omega,rfl,rfl,hL5,HB4.out⟩⟩
  case round =>
   obtain ⟨k,hk,rfl,HP,hL,hbr⟩ := hrel.out
   by_cases hlt : k < A.length
   ·obtain ⟨g',off',rfl,hg',hc⟩ := hL k hlt
    obtain ⟨z,hzz⟩ : ∃ z,A[k] = z := ⟨_,rfl⟩
    have HX : Hid (listOkTo A (k + 1) = (keyOk z && !inL (A.take k) z)) := by show _ = _; rw [listOkTo_succ,HP.out,getD_key hlt,hzz,Bool.true_and]
    have hzs : z.size ≤ 10000000 := HZ.out z (by rw [← hzz]; exact List.getElem_mem hlt)
    have HDN : Hid (listOkTo A (k + 1) = false → okP P = false) := fun h => by rw [HOK.out false (listOkTo_down A A.length (by omega) h)]; rfl
    rw [hzz] at hc
    have htk : (A.take k).length = k := by rw [List.length_take]; omega
    have cK := implKeyOk_any wr z hzs
    have cI : Calls Tryz.prog 53 #[.slice (some ⟨g',off',none⟩) k c5,.string z] wr fun e w' => e = .returned (.bool (inL (A.take k) z)) ∧ w' = wr := by
     have c := containsS_any wr (some ⟨g',off',none⟩) c5 (A.take k) z (hL.take k) (by omega)
     rw [htk] at c
     exact c
    have HL : Hid (LAt wr (some ⟨g',off',none⟩) A wr.heap.size ∧ Below w.heap.size w wr) := ⟨hL,hbr⟩
    clear hrel hL hbr hL5 hzz htk hg' HP
    have hi1 : (0 : Int) ≤ (k : Int) := by omega
    have hi2 : (k : Int) < (A.length : Int) := by omega
    have hi3 : (k : Int) ≤ (c5 : Int) := by omega
    cases hA1 : keyOk z with
    | false =>
     have HF : Hid (okP P = false) := HDN.out (by rw [HX.out,hA1]; rfl)
     rw [hA1] at cK
     clear hA1 cI
     go_wp2_with fail
     refine cK.mono ?_
     rintro e w' ⟨rfl,rfl⟩
     go_wp2_with fail
     go_ret
     exact ⟨by rw [HF.out]; rfl,HL.out.2⟩
    | true =>
     rw [hA1] at cK
     cases hA2 : inL (A.take k) z with
     | true =>
      have HF : Hid (okP P = false) := HDN.out (by rw [HX.out,hA1,hA2]; rfl)
      rw [hA2] at cI
      clear hA1 hA2
      go_wp2_with fail
      refine cK.mono ?_
      rintro e w' ⟨rfl,rfl⟩
      go_wp2_with fail
      refine cI.mono ?_
      rintro e w' ⟨rfl,rfl⟩
      go_wp2_with fail
      go_ret
      exact ⟨by rw [HF.out]; rfl,HL.out.2⟩
     | false =>
      have HT : Hid (listOkTo A (k + 1) = true) := by show _ = _; rw [HX.out,hA1,hA2]; rfl
      rw [hA2] at cI
      clear hA1 hA2
      go_wp2_with fail
      refine cK.mono ?_
      rintro e w' ⟨rfl,rfl⟩
      go_wp2_with fail
      refine cI.mono ?_
      rintro e w' ⟨rfl,rfl⟩
      go_wp2_with fail
      go_roundw
      case rel =>
       try ((repeat apply Exists.intro); refine ⟨?_,rfl⟩)
       exact ⟨⟨k + 1,by omega,by go_num,HT,HL.out.1,HL.out.2⟩⟩
      case measure => simp [intOf]; omega
   ·have hke : k = A.length := by omega
    have HT : Hid (okP P = true) := by
     show _ = _
     rw [HOK.out true (by show listOkTo A A.length = true; rw [← hke]; exact HP.out)]
     rfl
    clear hrel hL hL5 HP
    go_wp2_with fail
    go_ret
    exact ⟨by rw [HT.out]; rfl,hbr⟩
theorem implPolicyOk_sz (w : World) (aw am ak : Option Addr) (cw cm ck : Nat) (P : Pol) (hA : PolAt w aw am ak P w.heap.size) (hsz : PolSz P) :
  Calls Tryz.prog 28 #[.agg #[.slice aw P.win.length cw,.slice am P.main.length cm,.slice ak P.sk.rows.length ck,.int .i64 P.sk.added]] w fun e w' => e = .returned (.bool (okP P)) ∧ Below w.heap.size w w' := by
 obtain ⟨l1,l2,l3⟩ := hsz.parts
 exact implPolicyOk_any w aw am ak cw cm ck P hA l1 l2 (by unfold SkSz at l3; omega) (fun z hz => by have := hsz.texts z hz; omega)
set_option maxRecDepth 100000 in
set_option maxHeartbeats 8000000 in
theorem implProxyOk_any (w : World) (X : Pc) (R : Prx) (hA : PxAt w X R w.heap.size) (hsz : PxSz R) (hcap : RoomF X.f R.fes.length) :
  Calls Tryz.prog 12 #[.agg #[.int .i64 R.now,X.e,X.w,X.m,X.k,.int .i64 R.pol.sk.added,X.f,X.c,.int .i64 R.hits]] w fun e w' => e = .returned (.bool (okX R)) ∧ Below w.heap.size w w' := by
 obtain ⟨e0,e1,p0,p1,m0,m1,k0,k1,f0,f1,c0,c1,rfl⟩ := hA.slices
 dsimp only at hcap ⊢
 obtain ⟨w1,hw1⟩ : ∃ x,w.alloc (.cells #[.int .i64 R.now,.slice e0 R.ents.length e1,.slice p0 R.pol.win.length p1,.slice m0 R.pol.main.length m1,.slice k0 R.pol.sk.rows.length k1,.int .i64 R.pol.sk.added,.slice f0 R.fes.length f1,.slice c0 R.cls.length c1,.int .i64 R.hits] 36) = x := ⟨_,rfl⟩
 have hb1 : Below w.heap.size w w1 := by rw [← hw1]; exact (Below.refl _ _).alloc (Nat.le_refl _) _
 have hB1 : NB w1 w.heap.size 36 (.int .i64 R.now) (.slice e0 R.ents.length e1) (.slice p0 R.pol.win.length p1) (.slice m0 R.pol.main.length m1) (.slice k0 R.pol.sk.rows.length k1) (.int .i64 R.pol.sk.added) (.slice f0 R.fes.length f1) (.slice c0 R.cls.length c1) (.int .i64 R.hits) := by rw [← hw1]; exact NB.new _ _ _ _ _ _ _ _ _ _ _
 have HN1 : Hid (NB w1 w.heap.size 36 (.int .i64 R.now) (.slice e0 R.ents.length e1) (.slice p0 R.pol.win.length p1) (.slice m0 R.pol.main.length m1) (.slice k0 R.pol.sk.rows.length k1) (.int .i64 R.pol.sk.added) (.slice f0 R.fes.length f1) (.slice c0 R.cls.length c1) (.int .i64 R.hits)) := hB1
 have HA1 : Hid (PxAt w1 ⟨.slice e0 R.ents.length e1,.slice p0 R.pol.win.length p1,.slice m0 R.pol.main.length m1,.slice k0 R.pol.sk.rows.length k1,.slice f0 R.fes.length f1,.slice c0 R.cls.length c1⟩ R w1.heap.size) := hA.on hb1
 have HB1 : Hid (Below w.heap.size w w1) := hb1
 have HW : Hid (w.alloc (.cells #[.int .i64 R.now,.slice e0 R.ents.length e1,.slice p0 R.pol.win.length p1,.slice m0 R.pol.main.length m1,.slice k0 R.pol.sk.rows.length k1,.int .i64 R.pol.sk.added,.slice f0 R.fes.length f1,.slice c0 R.cls.length c1,.int .i64 R.hits] 36) = w1) := hw1
 have HSZ : Hid (PxSz R) := hsz
 have HC : Hid (R.fes.length ≤ f1) := hcap _ _ _ rfl
 have HSE : Hid (∀ e ∈ R.ents,e.key.size ≤ 1048576 ∧ e.bd.size ≤ 1048576) := hsz.ents
 have HSF : Hid (∀ e ∈ R.fes,e.key.size ≤ 1048576 ∧ e.tx.size ≤ 1048576) := hsz.fes
 obtain ⟨res,hres⟩ : ∃ r,okX R = r := ⟨_,rfl⟩
 obtain ⟨x4,hx4⟩ : ∃ b,okP R.pol = b := ⟨_,rfl⟩
 obtain ⟨x5,hx5⟩ : ∃ b,entsOkX R.ents R.pol = b := ⟨_,rfl⟩
 obtain ⟨x6,hx6⟩ : ∃ b,fesOkX R.now R.fes = b := ⟨_,rfl⟩
 obtain ⟨x7,hx7⟩ : ∃ b,clsOkX R = b := ⟨_,rfl⟩
 obtain ⟨y0,hy0⟩ : ∃ b,decide (0 < R.now) = b := ⟨_,rfl⟩
 have HY4 : Hid (okP R.pol = x4) := hx4
 have HY5 : Hid (entsOkX R.ents R.pol = x5) := hx5
 have HY6 : Hid (fesOkX R.now R.fes = x6) := hx6
 have HY7 : Hid (clsOkX R = x7) := hx7
 have HE : Hid (res = (y0 && (inB R.now 0 1000000000 && (inB R.hits 0 1000000000 && (x4 && (x5 && (x6 && x7))))))) := by
  show _ = _
  rw [← hres]
  unfold okX
  rw [hx4,hx5,hx6,hx7, ← hy0,show inB R.now 1 1000000000 = (decide (0 < R.now) && inB R.now 0 1000000000) by
   unfold inB
   by_cases h : 0 < R.now
   ·rw [decide_eq_true h,decide_eq_true (show (1 : Int) ≤ R.now by omega),decide_eq_true (show (0 : Int) ≤ R.now by omega)]; rfl
   ·rw [decide_eq_false h,decide_eq_false (show ¬ (1 : Int) ≤ R.now by omega)]; rfl]
  simp only [Bool.and_assoc]
 rw [hres]
 have cK2 := numE_any R.now w1
 have cK3 := numE_any R.hits w1
 generalize inB R.now 0 1000000000 = x2 at cK2 HE
 generalize inB R.hits 0 1000000000 = x3 at cK3 HE
 obtain ⟨b0,b1,b2,b3,b4,b5,b6,b7,b8⟩ := hB1.cells
 rw [← hw1] at b0
 clear hw1 hb1 hB1 hA hsz hres hx4 hx5 hx6 hx7 hcap
 go_enter Tryz.func12,Tryz.ntmps12
 cases y0 with
 | false =>
  have HR : Hid (res = false) := by show _ = _; rw [HE.out]; simp
  go_wp2_with fail
  rw [HW.out]
  go_ret
  exact ⟨by rw [HR.out]; rfl,HB1.out⟩
 | true =>
  go_wp2_with fail
  rw [HW.out] at b0 ⊢
  refine cK2.mono ?_
  rintro e w' ⟨rfl,rfl⟩
  cases x2 with
  | false =>
   have HR : Hid (res = false) := by show _ = _; rw [HE.out]; simp
   go_wp2_with fail
   go_ret
   exact ⟨by rw [HR.out]; rfl,HB1.out⟩
  | true =>
   go_wp2_with fail
   refine cK3.mono ?_
   rintro e w' ⟨rfl,rfl⟩
   cases x3 with
   | false =>
    have HR : Hid (res = false) := by show _ = _; rw [HE.out]; simp
    go_wp2_with fail
    go_ret
    exact ⟨by rw [HR.out]; rfl,HB1.out⟩
   | true =>
    have cK4 := implPolicyOk_sz w1 p0 m0 k0 p1 m1 k1 R.pol HA1.out.polAt HSZ.out.parts.2.1
    rw [HY4.out] at cK4
    go_wp2_with fail
    refine cK4.mono ?_
    rintro e w2 ⟨rfl,hb⟩
    clear b0 b1 b2 b3 b4 b5 b6 b7 b8
    have HB2 : Hid (Below w.heap.size w w2) := HB1.out.trans (hb.mono HB1.out.size)
    have HN2 : Hid (NB w2 w.heap.size 36 (.int .i64 R.now) (.slice e0 R.ents.length e1) (.slice p0 R.pol.win.length p1) (.slice m0 R.pol.main.length m1) (.slice k0 R.pol.sk.rows.length k1) (.int .i64 R.pol.sk.added) (.slice f0 R.fes.length f1) (.slice c0 R.cls.length c1) (.int .i64 R.hits)) := HN1.out.on hb
    have HA2 : Hid (PxAt w2 ⟨.slice e0 R.ents.length e1,.slice p0 R.pol.win.length p1,.slice m0 R.pol.main.length m1,.slice k0 R.pol.sk.rows.length k1,.slice f0 R.fes.length f1,.slice c0 R.cls.length c1⟩ R w2.heap.size) := HA1.out.on hb
    clear hb
    obtain ⟨b0,b1,b2,b3,b4,b5,b6,b7,b8⟩ := HN2.out.cells
    cases x4 with
    | false =>
     have HR : Hid (res = false) := by show _ = _; rw [HE.out]; simp
     go_wp2_with fail
     go_ret
     exact ⟨by rw [HR.out]; rfl,HB2.out⟩
    | true =>
     have cK5 := implEntries_any w2 e0 p0 m0 k0 e1 p1 m1 k1 R.ents R.pol (EnsV.at' HA2.out.e) HA2.out.polAt HSZ.out.parts.1 HSZ.out.parts.2.1 HSE.out
     rw [HY5.out] at cK5
     go_wp2_with fail
     refine cK5.mono ?_
     rintro e w3 ⟨rfl,hb⟩
     clear b0 b1 b2 b3 b4 b5 b6 b7 b8
     have HB3 : Hid (Below w.heap.size w w3) := HB2.out.trans (hb.mono HB2.out.size)
     have HN3 : Hid (NB w3 w.heap.size 36 (.int .i64 R.now) (.slice e0 R.ents.length e1) (.slice p0 R.pol.win.length p1) (.slice m0 R.pol.main.length m1) (.slice k0 R.pol.sk.rows.length k1) (.int .i64 R.pol.sk.added) (.slice f0 R.fes.length f1) (.slice c0 R.cls.length c1) (.int .i64 R.hits)) := HN2.out.on hb
     have HA3 : Hid (PxAt w3 ⟨.slice e0 R.ents.length e1,.slice p0 R.pol.win.length p1,.slice m0 R.pol.main.length m1,.slice k0 R.pol.sk.rows.length k1,.slice f0 R.fes.length f1,.slice c0 R.cls.length c1⟩ R w3.heap.size) := HA2.out.on hb
     clear hb
     obtain ⟨b0,b1,b2,b3,b4,b5,b6,b7,b8⟩ := HN3.out.cells
     cases x5 with
     | false =>
      have HR : Hid (res = false) := by show _ = _; rw [HE.out]; simp
      go_wp2_with fail
      go_ret
      exact ⟨by rw [HR.out]; rfl,HB3.out⟩
     | true =>
      have cK6 := implFetches_any w3 f0 f1 R.fes R.now (FetV.at' HA3.out.f) HC.out (fun f hf => by have := HSF.out f hf; omega)
      rw [HY6.out] at cK6
      go_wp2_with fail
      refine cK6.mono ?_
      rintro e w4 ⟨rfl,hb⟩
      clear b0 b1 b2 b3 b4 b5 b6 b7 b8
      have HB4 : Hid (Below w.heap.size w w4) := HB3.out.trans (hb.mono HB3.out.size)
      have HN4 : Hid (NB w4 w.heap.size 36 (.int .i64 R.now) (.slice e0 R.ents.length e1) (.slice p0 R.pol.win.length p1) (.slice m0 R.pol.main.length m1) (.slice k0 R.pol.sk.rows.length k1) (.int .i64 R.pol.sk.added) (.slice f0 R.fes.length f1) (.slice c0 R.cls.length c1) (.int .i64 R.hits)) := HN3.out.on hb
      have HA4 : Hid (PxAt w4 ⟨.slice e0 R.ents.length e1,.slice p0 R.pol.win.length p1,.slice m0 R.pol.main.length m1,.slice k0 R.pol.sk.rows.length k1,.slice f0 R.fes.length f1,.slice c0 R.cls.length c1⟩ R w4.heap.size) := HA3.out.on hb
      clear hb
      obtain ⟨b0,b1,b2,b3,b4,b5,b6,b7,b8⟩ := HN4.out.cells
      cases x6 with
      | false =>
       have HR : Hid (res = false) := by show _ = _; rw [HE.out]; simp
       go_wp2_with fail
       go_ret
       exact ⟨by rw [HR.out]; rfl,HB4.out⟩
      | true =>
       have cK7 := implClients_any w4 ⟨.slice e0 R.ents.length e1,.slice p0 R.pol.win.length p1,.slice m0 R.pol.main.length m1,.slice k0 R.pol.sk.rows.length k1,.slice f0 R.fes.length f1,.slice c0 R.cls.length c1⟩ R HA4.out HSZ.out
       dsimp only at cK7
       rw [HY7.out] at cK7
       go_wp2_with fail
       refine cK7.mono ?_
       rintro e w5 ⟨rfl,hb⟩
       clear b0 b1 b2 b3 b4 b5 b6 b7 b8
       have HB5 : Hid (Below w.heap.size w w5) := HB4.out.trans (hb.mono HB4.out.size)
       have HN5 : Hid (NB w5 w.heap.size 36 (.int .i64 R.now) (.slice e0 R.ents.length e1) (.slice p0 R.pol.win.length p1) (.slice m0 R.pol.main.length m1) (.slice k0 R.pol.sk.rows.length k1) (.int .i64 R.pol.sk.added) (.slice f0 R.fes.length f1) (.slice c0 R.cls.length c1) (.int .i64 R.hits)) := HN4.out.on hb
       have HA5 : Hid (PxAt w5 ⟨.slice e0 R.ents.length e1,.slice p0 R.pol.win.length p1,.slice m0 R.pol.main.length m1,.slice k0 R.pol.sk.rows.length k1,.slice f0 R.fes.length f1,.slice c0 R.cls.length c1⟩ R w5.heap.size) := HA4.out.on hb
       clear hb
       obtain ⟨b0,b1,b2,b3,b4,b5,b6,b7,b8⟩ := HN5.out.cells
       cases x7 with
       | false =>
        have HR : Hid (res = false) := by show _ = _; rw [HE.out]; simp
        go_wp2_with fail
        go_ret
        exact ⟨by rw [HR.out]; rfl,HB5.out⟩
       | true =>
        have HR : Hid (res = true) := by show _ = _; rw [HE.out]; rfl
        go_wp2_with fail
        go_ret
        exact ⟨by rw [HR.out]; rfl,HB5.out⟩
def AscC (l : List (Cli)) : Prop := ∀ i j (hi : i < l.length) (hj : j < l.length),i < j → l[i].id < l[j].id
structure PlaceC (rd : List (Cli)) (id : Int) (k : Nat) (b : Bool) : Prop where
 le : k ≤ rd.length
 lo : ∀ j (hj : j < rd.length),j < k → rd[j].id < id
 hi : ∀ j (hj : j < rd.length),k ≤ j → id ≤ rd[j].id
 there : b = true ↔ ∃ h : k < rd.length,rd[k].id = id
theorem placeC1_eg : ∀ args w,(callFunc 64 args).run Tryz.prog w = .ok (.enter 64 args) w := enters_of Tryz.func64 (by kernel_rfl) rfl
set_option maxHeartbeats 2000000 in
theorem placeC1_any (r : Cli) (id : Int) (w : World) :
  Calls Tryz.prog 64 #[.agg #[.int .i64 r.id,.string r.key,.int .i64 r.fe,.int .i64 r.fr,.int .i64 r.st,.string r.got,.int .i64 r.ag],.int .i64 id] w fun e w' => e = .returned (.int .i64 (Go.Lib.compareInt r.id id)) ∧ Below w.heap.size w w' := by
 have hb1 : Below w.heap.size w (w.alloc (.cells #[.int .i64 r.id,.string r.key,.int .i64 r.fe,.int .i64 r.fr,.int .i64 r.st,.string r.got,.int .i64 r.ag] 45)) := (Below.refl _ _).alloc (Nat.le_refl _) _
 have c1 := Tryz.cmp_Compare_int r.id id (w.alloc (.cells #[.int .i64 r.id,.string r.key,.int .i64 r.fe,.int .i64 r.fr,.int .i64 r.st,.string r.got,.int .i64 r.ag] 45))
 go_enter Tryz.func64,Tryz.ntmps64
 go_wp2_with fail
 refine c1.mono ?_
 rintro e w2 ⟨rfl,rfl⟩
 go_wp2_with fail
 go_ret
 exact ⟨rfl,hb1⟩
set_option maxRecDepth 100000 in
set_option maxHeartbeats 4000000 in
theorem searchC_any (w : World) (a : Option Addr) (c : Nat) (rd : List (Cli)) (id : Int) (hE : CliAt w a rd w.heap.size) (hm : rd.length ≤ 1048577) (hA : AscC rd) :
  Calls Tryz.prog 63 #[.slice a rd.length c,.int .i64 id,.func (.func 64) #[] #[]] w fun e w' => ∃ (k : Nat) (b : Bool),e = .returned (.tuple #[.int .i64 (k : Int),.bool b]) ∧ k ≤ rd.length ∧ (∀ j (hj : j < rd.length),j < k → rd[j].id < id) ∧ (∀ j (hj : j < rd.length),k ≤ j → id ≤ rd[j].id) ∧ (b = true ↔ ∃ h : k < rd.length,rd[k].id = id) ∧ Below w.heap.size w w' := by
 have eg := placeC1_eg
 obtain ⟨G,hG⟩ : ∃ G : Ending → World → Prop,G = fun e w' => ∃ (k : Nat) (b : Bool),e = .returned (.tuple #[.int .i64 (k : Int),.bool b]) ∧ k ≤ rd.length ∧ (∀ j (hj : j < rd.length),j < k → rd[j].id < id) ∧ (∀ j (hj : j < rd.length),k ≤ j → id ≤ rd[j].id) ∧ (b = true ↔ ∃ h : k < rd.length,rd[k].id = id) ∧ Below w.heap.size w w' := ⟨_,rfl⟩
 rw [← hG]
 have HG : Hid (∀ (k : Nat) (b : Bool) w',k ≤ rd.length → (∀ j (hj : j < rd.length),j < k → rd[j].id < id) → (∀ j (hj : j < rd.length),k ≤ j → id ≤ rd[j].id) → (b = true ↔ ∃ h : k < rd.length,rd[k].id = id) → Below w.heap.size w w' → G (.returned (.tuple #[.int .i64 (k : Int),.bool b])) w') := by rw [hG]; exact fun k b w' h1 h2 h3 h4 h5 => ⟨k,b,rfl,h1,h2,h3,h4,h5⟩
 have HA : Hid (AscC rd) := hA
 clear hG hA
 go_enter Tryz.func63,Tryz.ntmps63
 go_wp2_with fail
 go_loopw [9, 10] (fun i j wr => Box (∃ (lo hi : Nat),lo ≤ hi ∧ hi ≤ rd.length ∧ i = .int .i64 lo ∧ j = .int .i64 hi ∧ Hid (∀ j (hj : j < rd.length),j < lo → rd[j].id < id) ∧ Hid (∀ j (hj : j < rd.length),hi ≤ j → id ≤ rd[j].id) ∧ Below w.heap.size w wr))
  (fun i j _ => (intOf j).toNat - (intOf i).toNat)
 case atStart => exact ⟨⟨0,rd.length,Nat.zero_le _,Nat.le_refl _,rfl,rfl,fun j _ hj => absurd hj (Nat.not_lt_zero _),fun j hj h => absurd hj (by omega),Below.refl _ _⟩⟩
 case round =>
  obtain ⟨lo,hi,hlh,hin,rfl,rfl,HL,HH,hbr⟩ := hrel.out
  clear hrel
  by_cases hlt : lo < hi
  ·have hmid : (lo + hi) / 2 < rd.length := by omega
   obtain ⟨gg,offg,rfl,_,q0,q1,q2,q3,q4,q5,q6⟩ := (hE.below hbr (Nat.le_refl _)) ((lo + hi) / 2) hmid
   obtain ⟨f,hf⟩ : ∃ f,rd[(lo + hi) / 2] = f := ⟨_,rfl⟩
   have HF : Hid (rd[(lo + hi) / 2] = f) := hf
   rw [hf] at q0 q1 q2 q3 q4 q5 q6
   have hc := placeC1_any f id wr
   have HB : Hid (Below w.heap.size w wr) := hbr
   have HLT : Hid (lo < hi ∧ hi ≤ rd.length) := ⟨hlt,hin⟩
   clear hf hbr hE
   by_cases hx : f.id < id
   ·have hcx : Go.Lib.compareInt f.id id = -1 := by unfold Go.Lib.compareInt; simp [hx]
    rw [hcx] at hc
    go_wp2_with (go_at_fn 64; refine hc.mono ?_; rintro e w' ⟨rfl,hb'⟩)
    go_roundw
    case rel =>
     try ((repeat apply Exists.intro); refine ⟨?_,rfl⟩)
     refine ⟨⟨(lo + hi) / 2 + 1,hi,by have := HLT.out; omega,HLT.out.2,by go_num,rfl, ?_,HH,HB.out.trans (hb'.mono HB.out.size)⟩⟩
     intro j hj hjk
     by_cases e : j = (lo + hi) / 2
     ·subst e; rw [HF.out]; exact hx
     ·have := HA.out j ((lo + hi) / 2) hj hmid (by omega)
      rw [HF.out] at this
      omega
    case measure => have := HLT.out; simp [intOf]; omega
   ·have hcx : ¬ Go.Lib.compareInt f.id id < 0 := by unfold Go.Lib.compareInt; simp [hx]; split <;> omega
    obtain ⟨q,hq⟩ : ∃ q,Go.Lib.compareInt f.id id = q := ⟨_,rfl⟩
    rw [hq] at hc hcx
    clear hq
    go_wp2_with (go_at_fn 64; refine hc.mono ?_; rintro e w' ⟨rfl,hb'⟩)
    go_roundw
    case rel =>
     try ((repeat apply Exists.intro); refine ⟨?_,rfl⟩)
     refine ⟨⟨lo,(lo + hi) / 2,by have := HLT.out; omega,by omega,rfl,by go_num,HL, ?_,HB.out.trans (hb'.mono HB.out.size)⟩⟩
     intro j hj hjk
     by_cases e : j = (lo + hi) / 2
     ·subst e; rw [HF.out]; omega
     ·have := HA.out ((lo + hi) / 2) j hmid hj (by omega)
      rw [HF.out] at this
      omega
    case measure => have := HLT.out; simp [intOf]; omega
  ·obtain rfl : hi = lo := by omega
   have HB : Hid (Below w.heap.size w wr) := hbr
   by_cases hk : hi < rd.length
   ·obtain ⟨gg,offg,rfl,_,q0,q1,q2,q3,q4,q5,q6⟩ := (hE.below hbr (Nat.le_refl _)) hi hk
    obtain ⟨f,hf⟩ : ∃ f,rd[hi] = f := ⟨_,rfl⟩
    have HF : Hid (∃ h : hi < rd.length,rd[hi] = f) := ⟨hk,hf⟩
    rw [hf] at q0 q1 q2 q3 q4 q5 q6
    have hc := placeC1_any f id wr
    have hi1 : (0 : Int) ≤ (hi : Int) := by omega
    have hi2 : (hi : Int) < (rd.length : Int) := by omega
    have HI : Hid (hi ≤ rd.length) := hin
    clear hf hbr hE hk hlt hin hlh
    by_cases hx : f.id = id
    ·have hcx : Go.Lib.compareInt f.id id = 0 := by unfold Go.Lib.compareInt; simp [hx]
     rw [hcx] at hc
     have HX : Hid (f.id = id) := hx
     clear hx hcx
     go_wp2_with (go_at_fn 64; refine hc.mono ?_; rintro e w' ⟨rfl,hb'⟩)
     exact HG.out hi true w' HI.out HL.out HH.out ⟨fun _ => ⟨HF.out.1,by rw [HF.out.2]; exact HX.out⟩,fun _ => rfl⟩ (HB.out.trans (hb'.mono HB.out.size))
    ·have hcx : (Go.Lib.compareInt f.id id == 0) = false := by
      unfold Go.Lib.compareInt
      by_cases h1 : f.id < id
      ·simp [h1]
      ·simp [h1]; omega
     obtain ⟨q,hq⟩ : ∃ q,Go.Lib.compareInt f.id id = q := ⟨_,rfl⟩
     rw [hq] at hc hcx
     clear hq
     go_wp2_with (go_at_fn 64; refine hc.mono ?_; rintro e w' ⟨rfl,hb'⟩)
     exact HG.out hi false w' HI.out HL.out HH.out ⟨fun h => (by cases h),fun ⟨h,e⟩ => absurd (by rw [HF.out.2] at e; exact e) hx⟩ (HB.out.trans (hb'.mono HB.out.size))
   ·have hi2 : ¬ (hi : Int) < (rd.length : Int) := by omega
    have HI : Hid (hi ≤ rd.length) := hin
    have HN : Hid (¬ hi < rd.length) := hk
    clear hbr hE hk hlt hin hlh
    go_wp2_with fail
    exact HG.out hi false wr HI.out HL.out HH.out ⟨fun h => (by cases h),fun ⟨h,_⟩ => absurd h HN.out⟩ HB.out
set_option maxRecDepth 100000 in
set_option maxHeartbeats 4000000 in
theorem clientPlace_any (w : World) (a : Option Addr) (c : Nat) (rd : List Cli) (id : Int) (hE : CliAt w a rd w.heap.size) (hm : rd.length ≤ 1048577) (hA : AscC rd) :
  Calls Tryz.prog 38 #[.slice a rd.length c,.int .i64 id] w fun e w' => ∃ (k : Nat) (b : Bool),e = .returned (.tuple #[.int .i64 (k : Int),.bool b]) ∧ PlaceC rd id k b ∧ Below w.heap.size w w' := by
 obtain ⟨G,hG⟩ : ∃ G : Ending → World → Prop,G = fun e w' => ∃ (k : Nat) (b : Bool),e = .returned (.tuple #[.int .i64 (k : Int),.bool b]) ∧ PlaceC rd id k b ∧ Below w.heap.size w w' := ⟨_,rfl⟩
 rw [← hG]
 have HG : Hid (∀ (k : Nat) (b : Bool) w',PlaceC rd id k b → Below w.heap.size w w' → G (.returned (.tuple #[.int .i64 (k : Int),.bool b])) w') := by rw [hG]; exact fun k b w' h1 h2 => ⟨k,b,rfl,h1,h2⟩
 have c1 := searchC_any w a c rd id hE hm hA
 clear hG hE hA
 go_enter Tryz.func38,Tryz.ntmps38
 go_wp2_with fail
 refine c1.mono ?_
 rintro e w2 ⟨k,b,rfl,h1,h2,h3,h4,hb2⟩
 have HP : Hid (PlaceC rd id k b) := ⟨h1,h2,h3,h4⟩
 clear h1 h2 h3 h4 c1
 go_wp2_with fail
 exact HG.out k b w2 HP.out hb2
theorem PlaceC.none {rd : List Cli} {id : Int} {k : Nat} (h : PlaceC rd id k false) (hA : AscC rd) : ∀ r ∈ rd, ¬ r.id = id := by
 have hno : ∀ j (hj : j < rd.length), ¬ rd[j].id = id := fun j hj ej => by
  have hk : j = k ∨ k < j ∨ j < k := by omega
  rcases hk with rfl | hk | hk
  ·exact absurd (h.there.2 ⟨hj,ej⟩) (by decide)
  ·have := h.hi k (by omega) (Nat.le_refl _); have := hA k j (by omega) hj hk; omega
  ·have := h.lo j hj hk; omega
 intro r hr
 obtain ⟨j,hj,rfl⟩ := List.getElem_of_mem hr
 exact hno j hj
def mayB (R : Prx) (id : Int) (key : ByteArray) : Bool := okX R && (inB id 1 9 && (enKey key && (!decide (R.cls.length = 6) && !R.cls.any fun c => decide (c.id = id))))
theorem ascC_of {R : Prx} (h : OkX R) : AscC R.cls := fun i j hi hj hij => (List.pairwise_iff_getElem.1 h.cup) i j hi hj hij
theorem PlaceC.any {L : List Cli} {id : Int} {k : Nat} {b : Bool} (h : PlaceC L id k b) (hA : AscC L) : (L.any fun c => decide (c.id = id)) = b := by
 cases b with
 | true =>
  obtain ⟨hk,he⟩ := h.there.1 rfl
  exact List.any_eq_true.2 ⟨L[k],List.getElem_mem hk,by simpa using he⟩
 | false =>
  have hn := h.none hA
  rw [List.any_eq_false]
  intro c hc
  simpa using hn c hc
set_option maxHeartbeats 1000000 in
theorem idA_any (x : Int) (w : World) : Calls Tryz.prog 36 #[.int .i64 x] w fun e w' => e = .returned (.bool (inB x 1 9)) ∧ w' = w := by
 by_cases h1 : x ≥ 1
 ·by_cases h2 : x ≤ 9
  ·have HP : Hid (inB x 1 9 = true) := by show _ = _; unfold inB; simp; omega
   go_enter Tryz.func36,Tryz.ntmps36
   go_wp2
   go_ret
   exact ⟨by rw [HP.out]; rfl,rfl⟩
  ·have HP : Hid (inB x 1 9 = false) := by show _ = _; unfold inB; simp; omega
   go_enter Tryz.func36,Tryz.ntmps36
   go_wp2
   go_ret
   exact ⟨by rw [HP.out]; rfl,rfl⟩
 ·have HP : Hid (inB x 1 9 = false) := by show _ = _; unfold inB; simp; omega
  go_enter Tryz.func36,Tryz.ntmps36
  go_wp2
  go_ret
  exact ⟨by rw [HP.out]; rfl,rfl⟩
set_option maxRecDepth 100000 in
set_option maxHeartbeats 8000000 in
theorem mayAsk_any (w : World) (X : Pc) (R : Prx) (id : Int) (key : ByteArray) (hA : PxAt w X R w.heap.size) (hsz : PxSz R) (hcap : RoomF X.f R.fes.length) (hkey : key.size ≤ 1048576) :
  Calls Tryz.prog 20 #[.agg #[.int .i64 R.now,X.e,X.w,X.m,X.k,.int .i64 R.pol.sk.added,X.f,X.c,.int .i64 R.hits],.int .i64 id,.string key] w fun e w' => e = .returned (.bool (mayB R id key)) ∧ Below w.heap.size w w' := by
 obtain ⟨e0,e1,p0,p1,m0,m1,k0,k1,f0,f1,c0,c1,rfl⟩ := hA.slices
 dsimp only at hcap ⊢
 obtain ⟨_,_,_,hl4⟩ := hsz.parts
 obtain ⟨w1,hw1⟩ : ∃ x,w.alloc (.cells #[.int .i64 R.now,.slice e0 R.ents.length e1,.slice p0 R.pol.win.length p1,.slice m0 R.pol.main.length m1,.slice k0 R.pol.sk.rows.length k1,.int .i64 R.pol.sk.added,.slice f0 R.fes.length f1,.slice c0 R.cls.length c1,.int .i64 R.hits] 36) = x := ⟨_,rfl⟩
 have hb1 : Below w.heap.size w w1 := by rw [← hw1]; exact (Below.refl _ _).alloc (Nat.le_refl _) _
 have hB1 : NB w1 w.heap.size 36 (.int .i64 R.now) (.slice e0 R.ents.length e1) (.slice p0 R.pol.win.length p1) (.slice m0 R.pol.main.length m1) (.slice k0 R.pol.sk.rows.length k1) (.int .i64 R.pol.sk.added) (.slice f0 R.fes.length f1) (.slice c0 R.cls.length c1) (.int .i64 R.hits) := by rw [← hw1]; exact NB.new _ _ _ _ _ _ _ _ _ _ _
 have HN1 : Hid (NB w1 w.heap.size 36 (.int .i64 R.now) (.slice e0 R.ents.length e1) (.slice p0 R.pol.win.length p1) (.slice m0 R.pol.main.length m1) (.slice k0 R.pol.sk.rows.length k1) (.int .i64 R.pol.sk.added) (.slice f0 R.fes.length f1) (.slice c0 R.cls.length c1) (.int .i64 R.hits)) := hB1
 have HA1 : Hid (PxAt w1 ⟨.slice e0 R.ents.length e1,.slice p0 R.pol.win.length p1,.slice m0 R.pol.main.length m1,.slice k0 R.pol.sk.rows.length k1,.slice f0 R.fes.length f1,.slice c0 R.cls.length c1⟩ R w1.heap.size) := hA.on hb1
 have HB1 : Hid (Below w.heap.size w w1) := hb1
 have HW : Hid (w.alloc (.cells #[.int .i64 R.now,.slice e0 R.ents.length e1,.slice p0 R.pol.win.length p1,.slice m0 R.pol.main.length m1,.slice k0 R.pol.sk.rows.length k1,.int .i64 R.pol.sk.added,.slice f0 R.fes.length f1,.slice c0 R.cls.length c1,.int .i64 R.hits] 36) = w1) := hw1
 have c1' := implProxyOk_any w1 ⟨.slice e0 R.ents.length e1,.slice p0 R.pol.win.length p1,.slice m0 R.pol.main.length m1,.slice k0 R.pol.sk.rows.length k1,.slice f0 R.fes.length f1,.slice c0 R.cls.length c1⟩ R (hA.on hb1) hsz hcap
 dsimp only at c1'
 obtain ⟨x1,hx1⟩ : ∃ b,okX R = b := ⟨_,rfl⟩
 rw [hx1] at c1'
 have HX1 : Hid (okX R = x1) := hx1
 obtain ⟨b0,b1,b2,b3,b4,b5,b6,b7,b8⟩ := hB1.cells
 rw [← hw1] at b0 b1 b2 b3 b4 b5 b6 b7 b8
 clear hw1 hb1 hB1 hA hsz hx1 hcap
 go_enter Tryz.func20,Tryz.ntmps20
 go_wp2_with fail
 rw [HW.out] at b0 b1 b2 b3 b4 b5 b6 b7 b8 ⊢
 refine c1'.mono ?_
 rintro e w2 ⟨rfl,hb2⟩
 have HB2 : Hid (Below w.heap.size w w2) := HB1.out.trans (hb2.mono HB1.out.size)
 have HA2 : Hid (PxAt w2 ⟨.slice e0 R.ents.length e1,.slice p0 R.pol.win.length p1,.slice m0 R.pol.main.length m1,.slice k0 R.pol.sk.rows.length k1,.slice f0 R.fes.length f1,.slice c0 R.cls.length c1⟩ R w2.heap.size) := HA1.out.on hb2
 clear b0 b1 b2 b3 b4 b5 b6 b7 b8 c1'
 obtain ⟨b0,b1,b2,b3,b4,b5,b6,b7,b8⟩ := (HN1.out.on hb2).cells
 clear hb2
 cases x1 with
 | false =>
  have HR : Hid (mayB R id key = false) := by show _ = _; unfold mayB; rw [HX1.out]; rfl
  go_wp2_with fail
  go_ret
  exact ⟨by rw [HR.out]; rfl,HB2.out⟩
 | true =>
  have HOK : Hid (OkX R) := okX_iff.1 HX1.out
  have c2 := idA_any id w2
  obtain ⟨x2,hx2⟩ : ∃ b,inB id 1 9 = b := ⟨_,rfl⟩
  rw [hx2] at c2
  have HX2 : Hid (inB id 1 9 = x2) := hx2
  clear hx2
  go_wp2_with fail
  refine c2.mono ?_
  rintro e w' ⟨rfl,hww⟩
  subst hww
  clear c2
  cases x2 with
  | false =>
   have HR : Hid (mayB R id key = false) := by show _ = _; unfold mayB; rw [HX1.out,HX2.out]; rfl
   go_wp2_with fail
   go_ret
   exact ⟨by rw [HR.out]; rfl,HB2.out⟩
  | true =>
   have c3 := keyE_any w' key (by omega)
   obtain ⟨x3,hx3⟩ : ∃ b,enKey key = b := ⟨_,rfl⟩
   rw [hx3] at c3
   have HX3 : Hid (enKey key = x3) := hx3
   clear hx3
   go_wp2_with fail
   refine c3.mono ?_
   rintro e w3 ⟨rfl,hww⟩
   subst hww
   clear c3
   cases x3 with
   | false =>
    have HR : Hid (mayB R id key = false) := by show _ = _; unfold mayB; rw [HX1.out,HX2.out,HX3.out]; rfl
    go_wp2_with fail
    go_ret
    exact ⟨by rw [HR.out]; rfl,HB2.out⟩
   | true =>
    by_cases h6 : R.cls.length = 6
    ·have h6i : ((R.cls.length : Int) == 6) = true := by simp; omega
     have HR : Hid (mayB R id key = false) := by show _ = _; unfold mayB; rw [HX1.out,HX2.out,HX3.out]; simp [h6]
     clear h6
     go_wp2_with fail
     go_ret
     exact ⟨by rw [HR.out]; rfl,HB2.out⟩
    ·have h6i : ((R.cls.length : Int) == 6) = false := by simp; omega
     have HR : Hid (mayB R id key = !R.cls.any fun c => decide (c.id = id)) := by show _ = _; unfold mayB; rw [HX1.out,HX2.out,HX3.out]; simp [h6]
     obtain ⟨ax,cx,hvx,hcx⟩ := HA2.out.c
     simp only [Value.slice.injEq,true_and] at hvx
     obtain ⟨hax,hcx'⟩ := hvx
     subst hax hcx'
     have c4 := clientPlace_any w' c0 c1 R.cls id hcx (by omega) (ascC_of HOK.out)
     clear h6 hcx
     go_wp2_with fail
     refine c4.mono ?_
     rintro e w4 ⟨k,b,rfl,hp,hb4⟩
     have HF : Hid ((R.cls.any fun c => decide (c.id = id)) = b ∧ Below w.heap.size w w4) := ⟨hp.any (ascC_of HOK.out),HB2.out.trans (hb4.mono HB2.out.size)⟩
     clear hp hb4 c4
     go_wp2_with fail
     go_ret
     exact ⟨by rw [HR.out,HF.out.1]; rfl,HF.out.2⟩
end Go.Proofs.YtaahjcljanckaaaGreatDoor
