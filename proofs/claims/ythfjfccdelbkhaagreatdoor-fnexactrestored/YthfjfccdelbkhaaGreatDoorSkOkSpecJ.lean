/- Texts that stand in one: SkOkSpec, SkOkImpl, SkGuessImpl. -/
import Derived.Test.YthfjfccdelbkhaaGreatDoorIntsJ
import Derived.Test.YthfjfccdelbkhaaGreatDoorShelf
import Derived.Test.YthfjfccdelbkhaaGreatDoorSumSpecJ
import Derived.Deep.RegionHeld3
namespace Go.Proofs.YthfjfccdelbkhaaGreatDoor
open Go.RowKit Go.Sort
theorem okK_false {rows : List (List Int)} {added : Int} {k : Nat} (hk : k < rows.length) (h : rowOk rows[k] = false) : okK ⟨rows,added⟩ = false := by
 unfold okK
 rw [Bool.and_eq_false_iff]
 right
 rw [List.all_eq_false]
 exact ⟨rows[k],List.getElem_mem _,by simp [h]⟩
theorem okK_true {rows : List (List Int)} {added : Int} (h0 : headOkK ⟨rows,added⟩ = true) (h : ∀ j (hj : j < rows.length),rowOk rows[j] = true) : okK ⟨rows,added⟩ = true := by
 unfold okK
 rw [Bool.and_eq_true]
 refine ⟨h0, ?_⟩
 rw [List.all_eq_true]
 intro r hr
 obtain ⟨j,hj,rfl⟩ := List.getElem_of_mem hr
 exact h j hj
theorem rowOk_len_false {r : List Int} (h : ¬ r.length = 16) : rowOk r = false := by simp [rowOk,h]
theorem rowOk_num_false {r : List Int} {q : Nat} (hq : q < r.length) (h : numOk r[q] = false) : rowOk r = false := by
 unfold rowOk
 rw [Bool.and_eq_false_iff]
 right
 rw [List.all_eq_false]
 exact ⟨r[q],List.getElem_mem _,by simp [h]⟩
theorem rowOk_true {r : List Int} (hl : r.length = 16) (h : ∀ q (hq : q < r.length),numOk r[q] = true) : rowOk r = true := by
 unfold rowOk
 rw [Bool.and_eq_true]
 refine ⟨by simpa using hl, ?_⟩
 rw [List.all_eq_true]
 intro z hz
 obtain ⟨q,hq,rfl⟩ := List.getElem_of_mem hz
 exact h q hq
set_option maxRecDepth 100000 in
set_option maxHeartbeats 2000000 in
theorem specSketchOk_any (w : World) (a : Option Addr) (c : Nat) (S : Sk) (hA : SSAt w a S.rows w.heap.size) (hm : S.rows.length ≤ 1048576) :
  Calls Tryz.prog 86 #[.agg #[.slice a S.rows.length c,.int .i64 S.added]] w fun e w' => e = .returned (.bool (okK S)) ∧ Below w.heap.size w w' := by
 obtain ⟨rows,added⟩ := S
 dsimp only at *
 obtain ⟨w1,hw1⟩ : ∃ x,w.alloc (.cells #[.slice a rows.length c,.int .i64 added] 28) = x := ⟨_,rfl⟩
 have hb1 : Below w.heap.size w w1 := by rw [← hw1]; exact (Below.refl _ _).alloc (Nat.le_refl _) _
 have hB : SkBox w1 w.heap.size (.slice a rows.length c) (.int .i64 added) := by rw [← hw1]; exact SkBox.new _ _ _
 have hA1 := hA.on hb1
 obtain ⟨b0,b1⟩ := hB.cells
 have HW : Hid (w.alloc (.cells #[.slice a rows.length c,.int .i64 added] 28) = w1) := hw1
 rw [← hw1] at b0 b1
 clear hw1 hB hA
 go_enter Tryz.func86,Tryz.ntmps86
 by_cases h3 : rows.length = 3
 case neg =>
  have hn : ((rows.length : Int) != 3) = true := by simp; omega
  have HF : Hid (okK ⟨rows,added⟩ = false) := by show _ = _; simp [okK,headOkK,h3]
  clear h3
  go_wp2
  go_ret
  exact ⟨by rw [HF.out]; rfl,by rw [HW.out]; exact hb1⟩
 have hn : ((rows.length : Int) != 3) = false := by simp; omega
 have H3 : Hid (rows.length = 3) := h3
 clear h3
 by_cases hin : inN added 0 63 = true
 case neg =>
  have hinf : inN added 0 63 = false := by simpa using hin
  have cI : ∀ wi,Calls Tryz.prog 37 #[.int .i64 added,.int .i64 0,.int .i64 63] wi fun e w' => e = .returned (.bool false) ∧ w' = wi := by intro wi; have := in_any added 0 63 wi; rw [hinf] at this; exact this
  have HF : Hid (okK ⟨rows,added⟩ = false) := by
   have e : decide (0 ≤ added ∧ added ≤ 63) = false := hinf
   show _ = _
   simp only [okK,headOkK,e,Bool.and_false,Bool.false_and]
  clear hin hinf
  go_wp2_with (go_at_call 37; refine (cI _).mono ?_; rintro e w' ⟨rfl,rfl⟩)
  go_ret
  exact ⟨by rw [HF.out]; rfl,by rw [HW.out]; exact hb1⟩
 have cI : ∀ wi,Calls Tryz.prog 37 #[.int .i64 added,.int .i64 0,.int .i64 63] wi fun e w' => e = .returned (.bool true) ∧ w' = wi := by intro wi; have := in_any added 0 63 wi; rw [hin] at this; exact this
 have HH : Hid (headOkK ⟨rows,added⟩ = true) := by
  have e : decide (0 ≤ added ∧ added ≤ 63) = true := hin
  show _ = _
  simp only [headOkK,e,H3.out,decide_true,Bool.and_true]
 clear hin
 go_wp2_with (go_at_call 37; refine (cI _).mono ?_; rintro e w' ⟨rfl,rfl⟩)
 rw [HW.out] at b0 b1 ⊢
 go_loopw [3, 4] (fun i _ wr => Box (∃ (k : Nat),k ≤ rows.length ∧ i = .int .i64 k ∧ Hid (∀ j (hj : j < rows.length),j < k → rowOk rows[j] = true) ∧ w1 = wr))
  (fun i _ _ => rows.length - (intOf i).toNat)
 case atStart => exact ⟨⟨0,by omega,rfl,(fun j hj h => by omega),rfl⟩⟩
 case round =>
  obtain ⟨k,hk,rfl,HP,rfl⟩ := hrel.out
  by_cases hlt : k < rows.length
  ·obtain ⟨g,off,ai,ci,rfl,hg,hc,hI⟩ := hA1 k hlt
   have HFK : Hid (rowOk rows[k] = false → okK ⟨rows,added⟩ = false) := okK_false hlt
   have HPK : Hid (rowOk rows[k] = true → ∀ j (hj : j < rows.length),j < k + 1 → rowOk rows[j] = true) := by
    intro h j hj hjk
    by_cases e : j = k
    ·subst e; exact h
    ·exact HP.out j hj (by omega)
   obtain ⟨r,hr⟩ : ∃ r,rows[k] = r := ⟨_,rfl⟩
   rw [hr] at hc hI HFK HPK
   clear hrel hr cI hn
   have hi1 : (0 : Int) ≤ (k : Int) := by omega
   have hi2 : (k : Int) < (rows.length : Int) := by omega
   by_cases h16 : r.length = 16
   case neg =>
    have hn : ((r.length : Int) != 16) = true := by simp; omega
    have HF : Hid (okK ⟨rows,added⟩ = false) := HFK.out (rowOk_len_false h16)
    clear h16
    go_wp2
    go_ret
    exact ⟨by rw [HF.out]; rfl,hb1⟩
   have hn : ((r.length : Int) != 16) = false := by simp; omega
   have H16 : Hid (r.length = 16) := h16
   have hr16 : r.length ≤ 16 := by omega
   clear h16
   go_wp2
   go_loopw [4] (fun i wr => Box (∃ (q : Nat),q ≤ r.length ∧ i = .int .i64 q ∧ Hid (∀ j (hj : j < r.length),j < q → numOk r[j] = true) ∧ w1 = wr))
    (fun i _ => r.length - (intOf i).toNat)
   case atStart => exact ⟨⟨0,by omega,rfl,(fun j hj h => by omega),rfl⟩⟩
   case round =>
    obtain ⟨q,hq,rfl,HQ,rfl⟩ := hrel.out
    by_cases hlq : q < r.length
    ·obtain ⟨g2,off2,rfl,hg2,hc2⟩ := hI q hlq
     have HNF : Hid (numOk r[q] = false → rowOk r = false) := rowOk_num_false hlq
     have HQK : Hid (numOk r[q] = true → ∀ j (hj : j < r.length),j < q + 1 → numOk r[j] = true) := by
      intro h j hj hjk
      by_cases e : j = q
      ·subst e; exact h
      ·exact HQ.out j hj (by omega)
     obtain ⟨z,hz⟩ : ∃ z,r[q] = z := ⟨_,rfl⟩
     rw [hz] at hc2 HNF HQK
     clear hrel hz
     have hj1 : (0 : Int) ≤ (q : Int) := by omega
     have hj2 : (q : Int) < (r.length : Int) := by omega
     have cN := fun wi => in_any z 0 15 wi
     by_cases hno : inN z 0 15 = true
     ·rw [hno] at cN
      have HT : Hid (∀ j (hj : j < r.length),j < q + 1 → numOk r[j] = true) := HQK.out hno
      clear hno
      go_wp2_with (go_at_call 37; refine (cN _).mono ?_; rintro e w' ⟨rfl,rfl⟩)
      go_roundw
      case rel =>
       try ((repeat apply Exists.intro); refine ⟨?_,rfl⟩)
       exact ⟨⟨q + 1,by omega,by go_num,HT,by first | rfl | trivial⟩⟩
      case measure => simp [intOf]; omega
     ·have hnof : inN z 0 15 = false := by simpa using hno
      rw [hnof] at cN
      have HF : Hid (okK ⟨rows,added⟩ = false) := HFK.out (HNF.out hnof)
      clear hno hnof
      go_wp2_with (go_at_call 37; refine (cN _).mono ?_; rintro e w' ⟨rfl,rfl⟩)
      go_ret
      exact ⟨by rw [HF.out]; rfl,hb1⟩
    ·have HT : Hid (rowOk r = true) := rowOk_true H16.out fun j hj => HQ.out j hj (by omega)
     go_wp2
     refine ⟨⟨⟨k + 1,by omega,by go_num,HPK.out HT.out,trivial⟩⟩, ?_⟩
     simp [intOf]
     omega
  ·have HT : Hid (okK ⟨rows,added⟩ = true) := okK_true HH.out fun j hj => HP.out j hj (by omega)
   clear cI
   go_wp2
   go_ret
   exact ⟨by rw [HT.out]; rfl,hb1⟩
theorem foldMin_lt (l : List Int) : ∀ (x z : Int),l.foldl min x < z ↔ x < z ∨ ∃ y ∈ l,y < z := by
 induction l with
 | nil => intro x z; simp
 | cons a r ih =>
  intro x z
  rw [List.foldl_cons,ih]
  simp only [List.mem_cons,exists_eq_or_imp]
  have : min x a < z ↔ x < z ∨ a < z := by omega
  rw [this,or_assoc]
theorem foldMax_gt (l : List Int) : ∀ (x z : Int),z < l.foldl max x ↔ z < x ∨ ∃ y ∈ l,z < y := by
 induction l with
 | nil => intro x z; simp
 | cons a r ih =>
  intro x z
  rw [List.foldl_cons,ih]
  simp only [List.mem_cons,exists_eq_or_imp]
  have : z < max x a ↔ z < x ∨ z < a := by omega
  rw [this,or_assoc]
theorem minOf_neg {l : List Int} (hl : 0 < l.length) (z : Int) : Lib.minOf l < z ↔ ∃ y ∈ l,y < z := by
 cases l with
 | nil => simp at hl
 | cons a r =>
  unfold Lib.minOf
  rw [foldMin_lt]
  simp
theorem maxOf_pos {l : List Int} (hl : 0 < l.length) (z : Int) : z < Lib.maxOf l ↔ ∃ y ∈ l,z < y := by
 cases l with
 | nil => simp at hl
 | cons a r =>
  unfold Lib.maxOf
  rw [foldMax_gt]
  simp
theorem rowOk_minmax {r : List Int} (hl : r.length = 16) : rowOk r = (!decide (Lib.minOf r < 0) && !decide (15 < Lib.maxOf r)) := by
 have h1 := minOf_neg (l := r) (by omega) 0
 have h2 := maxOf_pos (l := r) (by omega) 15
 cases hr : rowOk r with
 | true =>
  unfold rowOk at hr
  simp only [Bool.and_eq_true,List.all_eq_true] at hr
  have n1 : ¬ Lib.minOf r < 0 := by
   rw [h1]
   rintro ⟨y,hy,hlt⟩
   have := hr.2 y hy
   simp only [numOk,decide_eq_true_eq] at this
   omega
  have n2 : ¬ 15 < Lib.maxOf r := by
   rw [h2]
   rintro ⟨y,hy,hlt⟩
   have := hr.2 y hy
   simp only [numOk,decide_eq_true_eq] at this
   omega
  simp [n1,n2]
 | false =>
  unfold rowOk at hr
  rw [Bool.and_eq_false_iff] at hr
  rcases hr with hr | hr
  ·simp [hl] at hr
  ·rw [List.all_eq_false] at hr
   obtain ⟨y,hy,hn⟩ := hr
   simp only [numOk,decide_eq_true_eq] at hn
   by_cases h0 : y < 0
   ·have : Lib.minOf r < 0 := h1.2 ⟨y,hy,h0⟩
    simp [this]
   ·have : 15 < Lib.maxOf r := h2.2 ⟨y,hy,by omega⟩
    simp [this]
theorem IAt.getD {w : World} {b off B : Nat} {l : List Int} (h : IAt w (some ⟨b,off,none⟩) l B) : ∀ j,j < l.length → w.cell? ⟨b,off + j,none⟩ = some (.int .i64 (l.getD j 0)) := by
 intro j hj
 obtain ⟨g,o,ha,_,hc⟩ := h j hj
 simp only [Option.some.injEq,Addr.mk.injEq,and_true] at ha
 obtain ⟨rfl,rfl⟩ := ha
 rw [hc,List.getD_eq_getElem?_getD,List.getElem?_eq_getElem hj]
 rfl
set_option maxRecDepth 100000 in
set_option maxHeartbeats 2000000 in
theorem implSketchOk_any (w : World) (a : Option Addr) (c : Nat) (S : Sk) (hA : SSAt w a S.rows w.heap.size) (hm : S.rows.length ≤ 1048576) :
  Calls Tryz.prog 92 #[.agg #[.slice a S.rows.length c,.int .i64 S.added]] w fun e w' => e = .returned (.bool (okK S)) ∧ Below w.heap.size w w' := by
 obtain ⟨rows,added⟩ := S
 dsimp only at *
 obtain ⟨w1,hw1⟩ : ∃ x,w.alloc (.cells #[.slice a rows.length c,.int .i64 added] 28) = x := ⟨_,rfl⟩
 have hb1 : Below w.heap.size w w1 := by rw [← hw1]; exact (Below.refl _ _).alloc (Nat.le_refl _) _
 have hB : SkBox w1 w.heap.size (.slice a rows.length c) (.int .i64 added) := by rw [← hw1]; exact SkBox.new _ _ _
 have hA1 := hA.on hb1
 obtain ⟨b0,b1⟩ := hB.cells
 have HW : Hid (w.alloc (.cells #[.slice a rows.length c,.int .i64 added] 28) = w1) := hw1
 rw [← hw1] at b0 b1
 clear hw1 hB hA
 go_enter Tryz.func92,Tryz.ntmps92
 by_cases h3 : rows.length = 3
 case neg =>
  have hn : ((rows.length : Int) != 3) = true := by simp; omega
  have HF : Hid (okK ⟨rows,added⟩ = false) := by show _ = _; simp [okK,headOkK,h3]
  clear h3
  go_wp2
  go_ret
  exact ⟨by rw [HF.out]; rfl,by rw [HW.out]; exact hb1⟩
 have hn : ((rows.length : Int) != 3) = false := by simp; omega
 have H3 : Hid (rows.length = 3) := h3
 clear h3
 by_cases hlo : added < 0
 case pos =>
  have HF : Hid (okK ⟨rows,added⟩ = false) := by
   show _ = _
   have e : decide (0 ≤ added ∧ added ≤ 63) = false := decide_eq_false (by omega)
   simp only [okK,headOkK,e,Bool.and_false,Bool.false_and]
  go_wp2
  go_ret
  exact ⟨by rw [HF.out]; rfl,by rw [HW.out]; exact hb1⟩
 by_cases hhi : 64 ≤ added
 case pos =>
  have HF : Hid (okK ⟨rows,added⟩ = false) := by
   show _ = _
   have e : decide (0 ≤ added ∧ added ≤ 63) = false := decide_eq_false (by omega)
   simp only [okK,headOkK,e,Bool.and_false,Bool.false_and]
  go_wp2
  go_ret
  exact ⟨by rw [HF.out]; rfl,by rw [HW.out]; exact hb1⟩
 have HH : Hid (headOkK ⟨rows,added⟩ = true) := by
  have e : decide (0 ≤ added ∧ added ≤ 63) = true := decide_eq_true (by omega)
  show _ = _
  simp only [headOkK,e,H3.out,decide_true,Bool.and_true]
 go_wp2
 rw [HW.out] at b0 b1 ⊢
 clear hlo hhi
 go_loopw [4, 22] (fun _ i wr => Box (∃ (k : Nat),k ≤ rows.length ∧ i = .int .i64 k ∧ Hid (∀ j (hj : j < rows.length),j < k → rowOk rows[j] = true) ∧ w1 = wr))
  (fun _ i _ => rows.length - (intOf i).toNat)
 case atStart => exact ⟨⟨0,by omega,rfl,(fun j hj h => by omega),rfl⟩⟩
 case round =>
  obtain ⟨k,hk,rfl,HP,rfl⟩ := hrel.out
  by_cases hlt : k < rows.length
  ·obtain ⟨g,off,ai,ci,rfl,hg,hc,hI⟩ := hA1 k hlt
   have HFK : Hid (rowOk rows[k] = false → okK ⟨rows,added⟩ = false) := okK_false hlt
   have HPK : Hid (rowOk rows[k] = true → ∀ j (hj : j < rows.length),j < k + 1 → rowOk rows[j] = true) := by
    intro h j hj hjk
    by_cases e : j = k
    ·subst e; exact h
    ·exact HP.out j hj (by omega)
   obtain ⟨r,hr⟩ : ∃ r,rows[k] = r := ⟨_,rfl⟩
   rw [hr] at hc hI HFK HPK
   clear hrel hr hn
   have hi1 : (0 : Int) ≤ (k : Int) := by omega
   have hi2 : (k : Int) < (rows.length : Int) := by omega
   by_cases h16 : r.length = 16
   case neg =>
    have hn : ((r.length : Int) != 16) = true := by simp; omega
    have HF : Hid (okK ⟨rows,added⟩ = false) := HFK.out (rowOk_len_false h16)
    clear h16
    go_wp2
    go_ret
    exact ⟨by rw [HF.out]; rfl,hb1⟩
   have hn : ((r.length : Int) != 16) = false := by simp; omega
   have HMM : Hid (rowOk r = (!decide (Lib.minOf r < 0) && !decide (15 < Lib.maxOf r))) := rowOk_minmax h16
   obtain ⟨g2,off2,rfl,hx1,hx2⟩ := hI 0 (by omega)
   clear hx1 hx2
   have cMin := Tryz.slices_Min_int g2 off2 r.length ci r w1 (by omega) (Nat.le_refl _) (by omega) hI.getD
   have cMax := Tryz.slices_Max_int g2 off2 r.length ci r w1 (by omega) (Nat.le_refl _) (by omega) hI.getD
   rw [List.take_length] at cMin cMax
   generalize Lib.minOf r = mn at cMin HMM
   generalize Lib.maxOf r = mx at cMax HMM
   clear h16
   by_cases hmn : mn < 0
   ·have HF : Hid (okK ⟨rows,added⟩ = false) := HFK.out (by rw [HMM.out]; simp [hmn])
    go_wp2_with (go_at_call 105; refine cMin.mono ?_; rintro e w' ⟨rfl,rfl⟩)
    go_ret
    exact ⟨by rw [HF.out]; rfl,hb1⟩
   by_cases hmx : 15 < mx
   ·have HF : Hid (okK ⟨rows,added⟩ = false) := HFK.out (by rw [HMM.out]; simp [hmx])
    go_wp2_with (first | (go_at_call 105; refine cMin.mono ?_; rintro e w' ⟨rfl,rfl⟩) | (go_at_call 106; refine cMax.mono ?_; rintro e w' ⟨rfl,rfl⟩))
    go_ret
    exact ⟨by rw [HF.out]; rfl,hb1⟩
   have HT : Hid (rowOk r = true) := by show _ = _; rw [HMM.out]; simp; omega
   go_wp2_with (first | (go_at_call 105; refine cMin.mono ?_; rintro e w' ⟨rfl,rfl⟩) | (go_at_call 106; refine cMax.mono ?_; rintro e w' ⟨rfl,rfl⟩))
   go_roundw
   case rel =>
    try ((repeat apply Exists.intro); refine ⟨?_,rfl⟩)
    exact ⟨⟨k + 1,by omega,by go_num,HPK.out HT.out,by first | rfl | trivial⟩⟩
   case measure => simp [intOf]; omega
  ·have HT : Hid (okK ⟨rows,added⟩ = true) := okK_true HH.out fun j hj => HP.out j hj (by omega)
   go_wp2
   go_ret
   exact ⟨by rw [HT.out]; rfl,hb1⟩
def GBox (w : World) (T : Nat) (n : Int) (b : Bool) : Prop := w.heap[T]? = some (.cells #[.int .i64 n,.bool b] 136 (0, 0))
theorem GBox.lt {w : World} {T : Nat} {n : Int} {b : Bool} (h : GBox w T n b) : T < w.heap.size := (Array.getElem?_eq_some_iff.1 h).1
theorem GBox.new (w : World) (n : Int) (b : Bool) : GBox (w.alloc (.cells #[.int .i64 n,.bool b] 136)) w.heap.size n b := heap_alloc_new w _
theorem GBox.kept {w w' : World} {T : Nat} {n : Int} {b : Bool} (h : GBox w T n b) (hk : w'.heap[T]? = w.heap[T]?) : GBox w' T n b := hk.trans h
theorem GBox.on {w w' : World} {T : Nat} {n : Int} {b : Bool} (h : GBox w T n b) (hb : Below w.heap.size w w') : GBox w' T n b := h.kept (hb.block T h.lt)
theorem GBox.thaw {w : World} {T : Nat} {n : Int} {b : Bool} (h : GBox w T n b) (i : Nat) : w.frozen? ⟨T,i,none⟩ = false := by
 unfold GBox at h
 simp [World.frozen?,h]
theorem GBox.cells {w : World} {T : Nat} {n : Int} {b : Bool} (h : GBox w T n b) : w.cell? ⟨T, 0,none⟩ = some (.int .i64 n) ∧ w.cell? ⟨T, 1,none⟩ = some (.bool b) := by
 unfold GBox at h
 refine ⟨?_, ?_⟩
 ·rw [cell_of_row w T 0 _ _ (0, 0) h]; rfl
 ·rw [cell_of_row w T 1 _ _ (0, 0) h]; rfl
theorem GBox.put {w : World} {T : Nat} {n : Int} {b : Bool} (h : GBox w T n b) (m : Int) (c : Bool) : GBox ((w.setCell ⟨T, 0,none⟩ (.int .i64 m)).setCell ⟨T, 1,none⟩ (.bool c)) T m c := by
 unfold GBox at *
 simp only [World.setCell,Array.getElem?_modify,h]
 simp
set_option maxRecDepth 100000 in
set_option maxHeartbeats 2000000 in
theorem guessWith_any (w : World) (least n : Int) (made : Bool) :
  Calls Tryz.prog 119 #[.agg #[.int .i64 least,.bool made],.int .i64 n] w fun e w' => e = .returned (.agg #[.int .i64 (if made = true then min n least else n),.bool true]) ∧ Below w.heap.size w w' := by
 obtain ⟨w0,hw0⟩ : ∃ x,w.alloc (.cells #[.int .i64 least,.bool made] 136) = x := ⟨_,rfl⟩
 obtain ⟨w1,hw1⟩ : ∃ x,w0.alloc (.cells #[.int .i64 0,.bool false] 136) = x := ⟨_,rfl⟩
 have hb0 : Below w.heap.size w w0 := by rw [← hw0]; exact (Below.refl _ _).alloc (Nat.le_refl _) _
 have hb1 : Below w0.heap.size w0 w1 := by rw [← hw1]; exact (Below.refl _ _).alloc (Nat.le_refl _) _
 have s0 : w0.heap.size = w.heap.size + 1 := by rw [← hw0]; simp
 have hbw : Below w.heap.size w w1 := hb0.trans (hb1.mono hb0.size)
 have hG : GBox w1 w.heap.size least made := by
  have h : GBox w0 w.heap.size least made := by rw [← hw0]; exact GBox.new _ _ _
  exact h.on hb1
 have hR : GBox w1 (w.heap.size + 1) 0 false := by rw [← hw1, ← s0]; exact GBox.new _ _ _
 have HW : Hid ((w.alloc (.cells #[.int .i64 least,.bool made] 136)).alloc (.cells #[.int .i64 0,.bool false] 136) = w1) := by rw [hw0]; exact hw1
 obtain ⟨g0,g1⟩ := hG.cells
 obtain ⟨r0,r1⟩ := hR.cells
 have f0 := hR.thaw 0
 have f1 := hR.thaw 1
 rw [← HW.out] at g0 g1
 clear hw0 hw1 s0 hb0 hb1 hG
 have HR : Hid (∀ m,GBox ((w1.setCell ⟨w.heap.size + 1, 0,none⟩ (.int .i64 m)).setCell ⟨w.heap.size + 1, 1,none⟩ (.bool true)) (w.heap.size + 1) m true ∧ Below w.heap.size w ((w1.setCell ⟨w.heap.size + 1, 0,none⟩ (.int .i64 m)).setCell ⟨w.heap.size + 1, 1,none⟩ (.bool true))) := fun m => ⟨hR.put m true,(hbw.setCell (show w.heap.size ≤ w.heap.size + 1 by omega) _).setCell (show w.heap.size ≤ w.heap.size + 1 by omega) _⟩
 clear hR hbw
 cases made with
 | true =>
  go_enter Tryz.func119,Tryz.ntmps119
  go_upto_region 2 with fail
  rw [HW.out] at g0 g1 ⊢
  go_wp2
  obtain ⟨q0,q1⟩ := (HR.out (min n least)).1.cells
  refine bodyPost_ret (v := .agg #[.int .i64 (min n least),.bool true]) (by simp [results,Tryz.results119,go_sem,q0,q1]) rfl ⟨by simp,(HR.out _).2⟩
 | false =>
  go_enter Tryz.func119,Tryz.ntmps119
  go_upto_region 3 with fail
  rw [HW.out] at g0 g1 ⊢
  go_wp2
  obtain ⟨q0,q1⟩ := (HR.out n).1.cells
  refine bodyPost_ret (v := .agg #[.int .i64 n,.bool true]) (by simp [results,Tryz.results119,go_sem,q0,q1]) rfl ⟨by simp,(HR.out _).2⟩
theorem guessTo_succ (key : ByteArray) (rows : List (List Int)) (k : Nat) : guessTo key rows (k + 1) = min (lookR key rows k) (guessTo key rows k) := by
 unfold guessTo
 rw [List.range_succ,List.foldl_append]
 rfl
def leastTo (key : ByteArray) (rows : List (List Int)) (k : Nat) : Int := if k = 0 then 0 else guessTo key rows k
theorem leastTo_succ (key : ByteArray) (rows : List (List Int)) (k : Nat) (hz : lookR key rows k ≤ 15) : (if decide (0 < k) = true then min (lookR key rows k) (leastTo key rows k) else lookR key rows k) = leastTo key rows (k + 1) := by
 unfold leastTo
 rw [if_neg (show ¬ k + 1 = 0 by omega),guessTo_succ]
 by_cases h : k = 0
 ·subst h
  simp [guessTo]
  omega
 ·rw [if_neg h,if_pos (by simp; omega)]
set_option maxRecDepth 100000 in
set_option maxHeartbeats 4000000 in
theorem implSketchGuess_any (w : World) (a : Option Addr) (c : Nat) (S : Sk) (key : ByteArray) (hA : SSAt w a S.rows w.heap.size) (hm : S.rows.length ≤ 1048576) (hk : key.size ≤ 1048576) (ht : Tab w) :
  Calls Tryz.prog 117 #[.agg #[.slice a S.rows.length c,.int .i64 S.added],.string key] w fun e w' => e = .returned (.int .i64 (guessS S key)) ∧ Below w.heap.size w w' := by
 obtain ⟨w0,hw0⟩ : ∃ x,w.alloc (.cells #[.slice a S.rows.length c,.int .i64 S.added] 28) = x := ⟨_,rfl⟩
 have hb0 : Below w.heap.size w w0 := by rw [← hw0]; exact (Below.refl _ _).alloc (Nat.le_refl _) _
 have hB : SkBox w0 w.heap.size (.slice a S.rows.length c) (.int .i64 S.added) := by rw [← hw0]; exact SkBox.new _ _ _
 have HW : Hid (w.alloc (.cells #[.slice a S.rows.length c,.int .i64 S.added] 28) = w0) := hw0
 have c0 := implSketchOk_any w0 a c S (hA.on hb0) hm
 obtain ⟨b0,b1⟩ := hB.cells
 rw [← HW.out] at b0 b1
 clear hw0
 cases hok : okK S with
 | false =>
  rw [hok] at c0
  have HG : Hid (guessS S key = 0) := by show _ = _; unfold guessS; rw [hok]; rfl
  clear hok
  go_enter Tryz.func117,Tryz.ntmps117
  go_wp2_with fail
  rw [HW.out] at b0 b1 ⊢
  refine c0.mono ?_
  rintro e w1 ⟨rfl,hb1⟩
  go_wp2_with fail
  go_ret
  exact ⟨by rw [HG.out]; rfl,hb0.trans (hb1.mono hb0.size)⟩
 | true =>
  rw [hok] at c0
  obtain ⟨r0,r1,r2,hrows,o0,o1,o2,_,_⟩ := okK_parts hok
  have hall : AllOk S.rows := by
   rw [hrows]
   intro r hr
   simp only [List.mem_cons,List.not_mem_nil,or_false] at hr
   rcases hr with rfl | rfl | rfl
   ·exact o0
   ·exact o1
   ·exact o2
  have h3 : S.rows.length = 3 := by rw [hrows]; rfl
  have HG : Hid (guessS S key = leastTo key S.rows 3) := by show _ = _; unfold guessS; rw [if_pos hok]; rfl
  obtain ⟨rows,added⟩ := S
  dsimp only at *
  rw [h3] at c0 b0 b1 hB HW
  have hfl : rows.flatten.length = 48 := by rw [flat_len _ hall.all16,h3]
  have hsz : (Tryz.prog.info? 113).map (·.size) = some (ints rows.flatten).toArray.size := by rw [List.size_toArray,ints_length,hfl]; kernel_rfl
  have hol : (ints zrows.flatten).toArray.size = (ints rows.flatten).toArray.size := by rw [List.size_toArray,List.size_toArray,ints_length,ints_length,hfl,zrows_len]
  have H3 : Hid (rows.length = 3) := h3
  have HC1 : Hid (∀ wi,SSAt wi a rows wi.heap.size → Calls Tryz.prog 108 #[.agg #[.slice a 3 c,.int .i64 added]] wi fun e w' => e = .returned (.agg (ints rows.flatten).toArray) ∧ Below wi.heap.size wi w') := fun wi h => rowsOf_any wi a c rows added h3 hall.all16 h
  have hA0 := hA.on hb0
  clear hok hrows o0 o1 o2 hfl hA
  go_enter Tryz.func117,Tryz.ntmps117
  rw [h3]
  clear h3
  go_wp2_with fail
  rw [HW.out] at b0 b1 ⊢
  refine c0.mono ?_
  rintro e w1 ⟨rfl,hb1⟩
  clear c0 b0 b1
  have hbw1 := hb0.trans (hb1.mono hb0.size)
  have hA1 := hA0.on hb1
  obtain ⟨b0,b1⟩ := (hB.on hb1).cells
  have c1 := HC1.out w1 hA1
  go_wp2_with fail
  refine c1.mono ?_
  rintro e w2 ⟨rfl,hb2⟩
  clear c1 b0 b1
  have hbw2 := hbw1.trans (hb2.mono hbw1.size)
  obtain ⟨w3,hw3⟩ : ∃ x,w2.alloc (.cells (ints zrows.flatten).toArray 113) = x := ⟨_,rfl⟩
  have hR3 : RBox w3 w2.heap.size zrows := by rw [← hw3]; exact RBox.new _ _
  have hb3 : Below w2.heap.size w2 w3 := by rw [← hw3]; exact (Below.refl _ _).alloc (Nat.le_refl _) _
  have hR4 := hR3.stored rows
  have hbw4 := below_setRow (hbw2.trans (hb3.mono hbw2.size)) hbw2.size (ints rows.flatten).toArray
  have hs3 : w3.heap.size = w2.heap.size + 1 := by rw [← hw3]; simp
  have HW3 : Hid (w2.alloc (.cells (ints zrows.flatten).toArray 113) = w3) := hw3
  clear hw3 hb3
  go_wp2_with (rw [zlit,HW3.out]; refine wpList_storeR rfl (.tmp 5) (.tmp 12) 113 rfl w2.heap.size rfl _ rfl _ _ hR3 hsz hol (ints_all _) ?_)
  obtain ⟨w4,hw4⟩ : ∃ x,w3.setRow w2.heap.size (ints rows.flatten).toArray = x := ⟨_,rfl⟩
  have hs4 : w4.heap.size = w2.heap.size + 1 := by rw [← hw4,setRow_size]; exact hs3
  rw [hw4] at hR4 hbw4 ⊢
  have hb5 : Below w4.heap.size w4 (w4.alloc (.cells #[.int .i64 0,.bool false] 136)) := (Below.refl _ _).alloc (Nat.le_refl _) _
  have hG5 : GBox (w4.alloc (.cells #[.int .i64 0,.bool false] 136)) (w2.heap.size + 1) 0 false := by rw [← hs4]; exact GBox.new _ _ _
  have hR5 := hR4.on hb5
  have hbw5 : Below w.heap.size w (w4.alloc (.cells #[.int .i64 0,.bool false] 136)) := hbw4.trans (hb5.mono (by have := hbw2.size; omega))
  have hws2 := hbw2.size
  clear hw4 hR4 hbw4 hb5 hs3 hR3 HW3 hbw1 hbw2 hA0 hA1 hb1 hb2 hB hsz hol HC1
  go_loopw [7, 13] (fun _ i wr => Box (∃ (k : Nat),k ≤ 3 ∧ i = .int .i64 k ∧ RBox wr w2.heap.size rows ∧ GBox wr (w2.heap.size + 1) (leastTo key rows k) (decide (0 < k)) ∧ Below w.heap.size w wr))
   (fun _ i _ => 3 - (intOf i).toNat)
  case atStart => exact ⟨⟨0,by omega,rfl,hR5,hG5,hbw5⟩⟩
  case round =>
   obtain ⟨k,hk3,rfl,hR1,hG1,hbel⟩ := hrel.out
   by_cases hlt : k < 3
   ·have h3 := H3.out
    have hkr : k < rows.length := by omega
    have hp := placeS_lt (k : Int) key
    have hgd : (rows.getD k []).getD (placeS (k : Int) key) 0 = lookR key rows k := rfl
    have hz : lookR key rows k ≤ 15 := by
     unfold lookR
     have := rowOk_at (hall rows[k] (List.getElem_mem hkr)) (placeS (k : Int) key) hp
     have e : rows.getD k [] = rows[k] := by rw [List.getD_eq_getElem?_getD,List.getElem?_eq_getElem hkr]; rfl
     rw [e]
     exact this.2
    have HLS := leastTo_succ key rows k hz
    have cP := fun wi (h : Below wr.heap.size wr wi) => implSketchPlace_any (k : Int) key wi hk ((ht.below hbel (Nat.le_refl _)).below h (by have := hbel.size; have := (ht.below hbel (Nat.le_refl _)).lt; exact Nat.le_refl _))
    have HN : Hid (∀ wi,Below wr.heap.size wr wi → wi.cell? ⟨w2.heap.size,k * 16 + placeS (k : Int) key,none⟩ = some (.int .i64 (lookR key rows k)) ∧ wi.cell? ⟨w2.heap.size + 1, 0,none⟩ = some (.int .i64 (leastTo key rows k)) ∧ wi.cell? ⟨w2.heap.size + 1, 1,none⟩ = some (.bool (decide (0 < k))) ∧ wi.frozen? ⟨w2.heap.size + 1, 0,none⟩ = false ∧ wi.frozen? ⟨w2.heap.size + 1, 1,none⟩ = false ∧ Hid (RBox ((wi.setCell ⟨w2.heap.size + 1, 0,none⟩ (.int .i64 (leastTo key rows (k + 1)))).setCell ⟨w2.heap.size + 1, 1,none⟩ (.bool true)) w2.heap.size rows ∧ GBox ((wi.setCell ⟨w2.heap.size + 1, 0,none⟩ (.int .i64 (leastTo key rows (k + 1)))).setCell ⟨w2.heap.size + 1, 1,none⟩ (.bool true)) (w2.heap.size + 1) (leastTo key rows (k + 1)) (decide (0 < k + 1)) ∧ Below w.heap.size w ((wi.setCell ⟨w2.heap.size + 1, 0,none⟩ (.int .i64 (leastTo key rows (k + 1)))).setCell ⟨w2.heap.size + 1, 1,none⟩ (.bool true)))) := by
     intro wi hb
     have hR2 := hR1.on hb
     have hG2 := hG1.on hb
     have hc := hR2.cell hall.all16 hkr hp
     have e : decide (0 < k + 1) = true := by simp
     refine ⟨hc,hG2.cells.1,hG2.cells.2,hG2.thaw 0,hG2.thaw 1, ?_, ?_, ?_⟩
     ·exact (hR2.kept ((Below.heap_setCell _ _ _ _ (show w2.heap.size ≠ w2.heap.size + 1 by omega)).trans (Below.heap_setCell _ _ _ _ (show w2.heap.size ≠ w2.heap.size + 1 by omega))))
     ·rw [e]; exact hG2.put _ _
     ·exact ((hbel.trans (hb.mono hbel.size)).setCell (show w.heap.size ≤ w2.heap.size + 1 by omega) _).setCell (show w.heap.size ≤ w2.heap.size + 1 by omega) _
    generalize lookR key rows k = z at HN HLS hz
    have HLS' : Hid ((if decide (0 < k) = true then min z (leastTo key rows k) else z) = leastTo key rows (k + 1)) := HLS
    generalize leastTo key rows k = lst at HN HLS'
    generalize decide (0 < k) = md at HN HLS'
    generalize placeS (k : Int) key = p at cP hp HN
    obtain ⟨g0,g1,g2,g3⟩ := (⟨(HN.out wr (Below.refl _ _)).2.1,(HN.out wr (Below.refl _ _)).2.2.1,(HN.out wr (Below.refl _ _)).1,trivial⟩ : _ ∧ _ ∧ _ ∧ True)
    clear hrel hR5 hG5 hbw5 hR1 hG1 hbel h3 hkr ht HLS hgd g3
    have hi1 : (0 : Int) ≤ (k : Int) := by omega
    have hi2 : (k : Int) < 3 := by omega
    have hp1 : (0 : Int) ≤ (p : Int) := by omega
    have hp2 : (p : Int) < 16 := by omega
    have hdr : Below wr.heap.size wr wr.drew := ⟨rfl,rfl,rfl,Nat.le_refl _,fun _ _ => rfl⟩
    go_wp2_with fail
    go_region_law (first
     | (go_simp; go_at_call 116; refine (cP _ hdr).mono ?_; rintro e wp ⟨rfl,hbp⟩; have hbp' := hdr.trans hbp; have x0 := (HN.out wp hbp').1; have x1 := (HN.out wp hbp').2.1; have x2 := (HN.out wp hbp').2.2.1)
     | (go_simp; go_at_call 119; refine (guessWith_any _ lst z md).mono ?_; rintro e wq ⟨rfl,hbq⟩; have hbq' := hbp'.trans (hbq.mono hbp'.size); have y1 := (HN.out wq hbq').2.1; have y2 := (HN.out wq hbq').2.2.1; have y3 := (HN.out wq hbq').2.2.2.1; have y4 := (HN.out wq hbq').2.2.2.2.1; have HX := (HN.out wq hbq').2.2.2.2.2; rw [HLS'.out]))
    all_goals (
     clear hbp hbp' hbq hbq' x0 x1 x2 y1 y2 y3 y4 g0 g1 g2 cP HN
     go_wp2
     refine ⟨?_, ?_⟩
     ·exact ⟨⟨k + 1,by omega,by go_num,HX.out.1,HX.out.2.1,HX.out.2.2⟩⟩
     ·simp [intOf]; omega)
   ·obtain rfl : k = 3 := by omega
    obtain ⟨g0,_⟩ := hG1.cells
    clear hrel hR5 hG5 hbw5 hR1 hG1
    go_wp2
    go_ret
    exact ⟨by rw [HG.out]; rfl,hbel⟩
end Go.Proofs.YthfjfccdelbkhaaGreatDoor
