/- Texts that stand in one: SkLaw3, StrsLaw, FigPlain, DecPlain, MarkText, MarkListW, PolLaw. -/
import Derived.Test.YthfjfccdelbkhaaGreatDoorSumTabJ
import Derived.Laws.OwnMore
import Derived.Lib.QuietBelow
import Derived.BigQuiet
import Derived.Test.YthfjfccdelbkhaaGreatDoorSkBaseJ
namespace Go.Proofs.YthfjfccdelbkhaaGreatDoor
open Go.RowKit
end Go.Proofs.YthfjfccdelbkhaaGreatDoor
namespace Go.Proofs.YthfjfccdelbkhaaGreatDoor
open Go.RowKit Go.Sort
theorem Tryz.infoStr : (Tryz.prog.info? 9).map (fun i => (i.zero,i.size,i.bytes)) = some (some (.string ⟨#[]⟩), 1, 16) := by kernel_rfl
def wgtL (L : List ByteArray) : Nat := (L.map ByteArray.size).sum
theorem wgtL_mem {L : List ByteArray} {p : ByteArray} (h : p ∈ L) : p.size ≤ wgtL L := by
 induction L with
 | nil => cases h
 | cons q r ih =>
  unfold wgtL at *
  rw [List.map_cons,List.sum_cons]
  rcases List.mem_cons.1 h with h | h
  ·rw [h]; omega
  ·have := ih h; omega
set_option maxHeartbeats 1000000 in
theorem eqStringS_same (w : World) (a b : Option Addr) (c1 c2 : Nat) (l : List ByteArray) (hA : LAt w a l w.heap.size) (hB : LAt w b l w.heap.size) (hl : l.length ≤ 1048576) :
  Calls Tryz.prog 50 #[.slice a l.length c1,.slice b l.length c2] w fun e w' => e = .returned (.bool true) ∧ Below w.heap.size w w' := by
 go_enter Tryz.func50,Tryz.ntmps50
 go_wp2
 go_loopw [5] (fun i wr => Box (∃ (k nq : Nat),k ≤ l.length ∧ i = .int .i64 k ∧ wr = w.drewN nq))
  (fun i _ => l.length - (intOf i).toNat)
 case atStart => exact ⟨⟨0, 0,by omega,rfl,rfl⟩⟩
 case round =>
  obtain ⟨k,nq,hk,rfl,rfl⟩ := hrel.out
  by_cases hlt : k < l.length
  ·obtain ⟨g,off,rfl,_,hc1⟩ := hA k hlt
   obtain ⟨g2,off2,rfl,_,hc2⟩ := hB k hlt
   obtain ⟨x,hx⟩ : ∃ x,l[k] = x := ⟨_,rfl⟩
   rw [hx] at hc1 hc2
   clear hA hB hx hrel
   have hi1 : (0 : Int) ≤ (k : Int) := by omega
   have hi2 : (k : Int) < (l.length : Int) := by omega
   go_wp2
   go_quiet (fail)
   go_wp2
   go_roundw
   case rel =>
    try ((repeat apply Exists.intro); refine ⟨?_,rfl⟩)
    exact ⟨⟨k + 1,_,by omega,by go_num,rfl⟩⟩
   case measure => simp [intOf]; omega
  ·go_wp2
   go_ret
   exact ⟨rfl,⟨rfl,rfl,rfl,Nat.le_refl _,fun _ _ => rfl⟩⟩
end Go.Proofs.YthfjfccdelbkhaaGreatDoor
namespace Go.Proofs.YthfjfccdelbkhaaGreatDoor
open Go.RowKit
def fig (x : Nat) : UInt8 := if x < 10 then UInt8.ofNat (48 + x) else UInt8.ofNat (87 + x)
theorem fig_lo {x : Nat} (h : x < 10) : (fig x).toNat = 48 + x := by simp [fig,h]; omega
def digF : Nat → Nat → List UInt8 → List UInt8
 | 0,_,s => s
 | f + 1,n,s => if n = 0 then s else digF f (n / 10) (fig (n % 10) :: s)
theorem digF_on {f n : Nat} {s : List UInt8} (h : n ≠ 0) : digF (f + 1) n s = digF f (n / 10) (fig (n % 10) :: s) := by simp [digF,h]
theorem digF_zero {f : Nat} {s : List UInt8} : digF f 0 s = s := by cases f <;> simp [digF]
end Go.Proofs.YthfjfccdelbkhaaGreatDoor
namespace Go.Proofs.YthfjfccdelbkhaaGreatDoor
open Go.RowKit Go.Sort
theorem mark_cons (c : UInt8) (l : List UInt8) : (⟨[c].toArray⟩ : ByteArray) ++ (⟨l.toArray⟩ : ByteArray) = ⟨(c :: l).toArray⟩ := by rw [ByteArray.mk_append_mk]; rfl
theorem mark_down {f k : Nat} (h : k < 10 ^ (f + 1)) : k / 10 < 10 ^ f := by rw [Nat.pow_succ] at h; omega
def mkT (k : Nat) : ByteArray := ⟨(109 :: digF 20 k []).toArray⟩
set_option maxHeartbeats 1000000 in
theorem markText_any (m : Nat) (w : World) (h0 : 0 < m) (hm : m ≤ 9223372036854775807) :
  Calls Tryz.prog 27 #[.int .i64 m] w fun e w' => e = .returned (.string (mkT m)) ∧ Below w.heap.size w w' := by
 go_enter Tryz.func27,Tryz.ntmps27
 go_wp2
 go_loopw [0, 3] (fun n v wr => Box (∃ (f k : Nat) (l : List UInt8),n = .int .i64 k ∧ v = .string ⟨l.toArray⟩ ∧ k ≤ 9223372036854775807 ∧ k < 10 ^ f ∧ l.length + f ≤ 20 ∧ Hid (digF f k l = digF 20 m []) ∧ Below w.heap.size w wr))
  (fun n _ _ => (intOf n).toNat)
 case atStart => exact ⟨⟨20,m, [],rfl,rfl,hm,by omega,by simp,rfl,Below.refl _ _⟩⟩
 case round =>
  obtain ⟨f,k,l,rfl,rfl,hk,hkf,hlf,hl,hbel⟩ := hrel.out
  have hsz := hbel.size
  by_cases hlt : 0 < k
  ·obtain ⟨d,hd,HD⟩ : ∃ d : Nat,d < 10 ∧ (k : Int) % 10 = (d : Int) := ⟨k % 10,by omega,by omega⟩
   have hcv := fun w => one_text_of (P := Tryz.prog) w 87 9 5 (fig d) (48 + (d : Int)) (by rw [fig_lo hd]; simp) Tryz.underlying87 Tryz.underlying5 Tryz.underlying9
   go_wp2
   go_roundw
   case rel =>
    try ((repeat apply Exists.intro); refine ⟨?_,rfl⟩)
    match f,hkf,hlf,hl with
    | 0,hkf,_,_ => simp at hkf; omega
    | f + 1,hkf,hlf,hl =>
     exact ⟨⟨f,k / 10,fig d :: l,by go_num,congrArg Value.string (mark_cons _ _),by omega,mark_down hkf,by simp; omega,by
      have := hl.out
      rw [digF_on (by omega),show k % 10 = d by omega] at this
      exact this,hbel.alloc hsz _⟩⟩
   case measure => simp [intOf]; omega
  ·go_wp2
   go_ret
   have hk0 : k = 0 := by omega
   exact ⟨by
    have h1 := hl.out
    rw [hk0,digF_zero] at h1
    rw [show (⟨#[109]⟩ : ByteArray) ++ ⟨l.toArray⟩ = ⟨(109 :: l).toArray⟩ from mark_cons _ _,h1]
    rfl,hbel⟩
theorem Tryz.info9 : (Tryz.prog.info? 9).map (fun i => (i.zero,i.size,i.bytes)) = some (some (.string ⟨#[]⟩), 1, 16) := by kernel_rfl
def marks (k n : Nat) : List Value := (List.range n).map fun j => Value.string (mkT (k + j))
theorem marks_length (k n : Nat) : (marks k n).length = n := by simp [marks]
theorem marks_at {k n j : Nat} (h : j < n) : (marks k n)[j]'(by rw [marks_length]; exact h) = .string (mkT (k + j)) := by simp [marks]
theorem marks_succ (k n : Nat) : marks k (n + 1) = marks k n ++ [.string (mkT (k + n))] := by simp [marks,List.range_succ]
theorem marks_set (k j : Nat) (xs : List Value) (h : j < xs.length) : (marks k j ++ xs.drop j).set j (.string (mkT (k + j))) = marks k (j + 1) ++ xs.drop (j + 1) := by
 rw [List.set_append_right _ _ (by rw [marks_length]; exact Nat.le_refl _),marks_length,Nat.sub_self,List.drop_eq_getElem_cons h,List.set_cons_zero,marks_succ]
 simp
set_option maxHeartbeats 1000000 in
theorem markS_any (w : World) (base : Nat) (v : Value) (xs : List Value) (k : Nat) (hown : OwnV w base 9 v xs) (hl : xs.length ≤ 10000000) (hk0 : 0 < k) (hk1 : k ≤ 10000000) :
  Calls Tryz.prog 54 #[v,.int .i64 k] w fun e w' => e = .returned (.int .i64 ((k + xs.length : Nat) : Int)) ∧ OwnV w' base 9 v (marks k xs.length) ∧ w.grownBy w' v.ownBlock := by
 obtain ⟨a,cap,rfl,_⟩ := hown.shape
 go_enter Tryz.func54,Tryz.ntmps54
 go_wp2
 go_loopw [1, 5] (fun n i wr => Box (∃ (j : Nat),j ≤ xs.length ∧ i = .int .i64 j ∧ n = .int .i64 ((k + j : Nat) : Int) ∧ OwnV wr base 9 (.slice a xs.length cap) (marks k j ++ xs.drop j) ∧ w.grownBy wr (Value.slice a xs.length cap).ownBlock))
  (fun _ i _ => xs.length - (intOf i).toNat)
 case atStart => exact ⟨⟨0,by omega,rfl,rfl,hown,grownBy_refl _ _⟩⟩
 case round =>
  obtain ⟨j,hj,rfl,rfl,hown1,hgr⟩ := hrel.out
  by_cases hlt : j < xs.length
  ·have hlen : (marks k j ++ xs.drop j).length = xs.length := by rw [List.length_append,marks_length,List.length_drop]; omega
   obtain ⟨a',cap',hv,hc⟩ := hown1.shape
   obtain ⟨g,hg,hcell,hfr,hbg,hgs⟩ := hc j (by omega)
   rw [hg] at hv
   have ha : a = some ⟨g, 0,none⟩ := by simp only [Value.slice.injEq] at hv; exact hv.1
   subst ha
   have c1 := markText_any (k + j) wr (by omega) (by omega)
   have HX : Hid (∀ w1,Below wr.heap.size wr w1 → OwnV (w1.setCell ⟨g,j,none⟩ (.string (mkT (k + j)))) base 9 (.slice (some ⟨g, 0,none⟩) xs.length cap) (marks k (j + 1) ++ xs.drop (j + 1)) ∧ w.grownBy (w1.setCell ⟨g,j,none⟩ (.string (mkT (k + j)))) (Value.slice (some ⟨g, 0,none⟩) xs.length cap).ownBlock) := by
    intro w1 hb
    have h1 := hown1.below hb (Nat.le_refl _)
    have h2 := h1.stored hlen.symm j (.string (mkT (k + j)))
    rw [marks_set k j xs hlt] at h2
    exact ⟨h2.1,grownBy_trans hgr (grownBy_trans (grownBy_below hb) h2.2)⟩
   clear hown1 hgr hc hv hg hown
   have hi1 : (0 : Int) ≤ (j : Int) := by omega
   have hi2 : (j : Int) < (xs.length : Int) := by omega
   go_wp2_with (go_at_call 27; refine c1.mono ?_; rintro e w1 ⟨rfl,hb1⟩; have hcell1 := (hb1.cell (p := ⟨g,j,none⟩) hgs).trans hcell; have hfr1 := (hb1.frozen (p := ⟨g,j,none⟩) hgs).trans hfr)
   go_roundw
   case rel =>
    try ((repeat apply Exists.intro); refine ⟨?_,rfl⟩)
    have h := HX.out w1 hb1
    exact ⟨⟨j + 1,by omega,by go_num,by go_num,h.1,h.2⟩⟩
   case measure => simp [intOf]; omega
  ·go_wp2
   go_ret
   have hje : j = xs.length := by omega
   subst hje
   rw [List.drop_of_length_le (Nat.le_refl _),List.append_nil] at hown1
   exact ⟨ret_int (by simp),hown1,hgr⟩
set_option maxHeartbeats 1000000 in
theorem heldS_any (w : World) (base : Nat) (v : Value) (n k : Nat) (hown : OwnV w base 9 v (marks k n)) (hl : n ≤ 10000000) (hk0 : 0 < k) (hk1 : k ≤ 10000000) :
  Calls Tryz.prog 56 #[v,.int .i64 k] w fun e w' => e = .returned (.int .i64 ((k + n : Nat) : Int)) ∧ Below w.heap.size w w' := by
 obtain ⟨a,cap,rfl,hc⟩ := hown.shape
 rw [marks_length] at *
 go_enter Tryz.func56,Tryz.ntmps56
 go_wp2
 go_loopw [1, 5] (fun m i wr => Box (∃ (j : Nat),j ≤ n ∧ i = .int .i64 j ∧ m = .int .i64 ((k + j : Nat) : Int) ∧ Below w.heap.size w wr))
  (fun _ i _ => n - (intOf i).toNat)
 case atStart => exact ⟨⟨0,by omega,rfl,rfl,Below.refl _ _⟩⟩
 case round =>
  obtain ⟨j,hj,rfl,rfl,hbel⟩ := hrel.out
  by_cases hlt : j < n
  ·obtain ⟨g,rfl,hcell,_,_,hgs⟩ := hc j (by rw [marks_length]; exact hlt)
   rw [marks_at hlt] at hcell
   have hcell1 := (hbel.cell (p := ⟨g,j,none⟩) hgs).trans hcell
   have kc := cell_regrown hcell1
   have cV : ∀ d os,Calls Tryz.prog 27 #[.int .i64 ((k : Int) + (j : Int))] (grow (redrawn wr d) os) fun e w'' => e = .returned (.string (mkT (k + j))) ∧ ∃ p : Regrown,w'' = grow (redrawn wr p.d) p.os := fun d os => Calls.regrown_of (by have := markText_any (k + j) (grow (redrawn wr d) os) (by omega) (by omega); simpa using this)
   clear hc hown hcell
   have hi1 : (0 : Int) ≤ (j : Int) := by omega
   have hi2 : (j : Int) < (n : Int) := by omega
   go_wp2
   refine wp_region_quiet_below (by kernel_rfl) (by kernel_rfl) ?_
   repeat (first | go_big_quiet_step (exact cV _ _) | quiet_step (exact cV _ _))
   refine wpQuiet_nil ?_
   intro _ hw'
   obtain ⟨⟨dq,osq⟩,hw''⟩ := hw'
   subst hw''
   go_wp2
   go_roundw
   case rel =>
    try ((repeat apply Exists.intro); refine ⟨?_,rfl⟩)
    exact ⟨⟨j + 1,by omega,by go_num,by go_num,hbel.trans ((below_regrown wr dq osq).mono hbel.size)⟩⟩
   case measure => simp [intOf]; omega
  ·go_wp2
   go_ret
   exact ⟨ret_int (by omega),hbel⟩
def wgtP (P : Pol) : Nat := P.win.length + wgtL P.win + (P.main.length + wgtL P.main) + (P.sk.rows.length + tot P.sk.rows P.sk.rows.length)
def PolSz (P : Pol) : Prop := wgtP P ≤ 1048576
theorem PolSz.parts {P : Pol} (h : PolSz P) : P.win.length ≤ 1048576 ∧ P.main.length ≤ 1048576 ∧ SkSz P.sk := by
 unfold PolSz wgtP at h
 refine ⟨by omega,by omega, ?_⟩
 unfold SkSz
 omega
set_option maxHeartbeats 2000000 in
theorem eqPolicy_same (w : World) (aw am ak bw bm bk : Option Addr) (cw cm ck dw dm dk : Nat) (P : Pol) (hA : PolAt w aw am ak P w.heap.size) (hB : PolAt w bw bm bk P w.heap.size) (hsz : PolSz P) :
  Calls Tryz.prog 23 #[.agg #[.slice aw P.win.length cw,.slice am P.main.length cm,.slice ak P.sk.rows.length ck,.int .i64 P.sk.added],.agg #[.slice bw P.win.length dw,.slice bm P.main.length dm,.slice bk P.sk.rows.length dk,.int .i64 P.sk.added]] w fun e w' => e = .returned (.bool true) ∧ Below w.heap.size w w' := by
 obtain ⟨l1,l2,l3⟩ := hsz.parts
 obtain ⟨w0,hw0⟩ : ∃ x,w.alloc (.cells #[.slice aw P.win.length cw,.slice am P.main.length cm,.slice ak P.sk.rows.length ck,.int .i64 P.sk.added] 30) = x := ⟨_,rfl⟩
 obtain ⟨w1,hw1⟩ : ∃ x,w0.alloc (.cells #[.slice bw P.win.length dw,.slice bm P.main.length dm,.slice bk P.sk.rows.length dk,.int .i64 P.sk.added] 30) = x := ⟨_,rfl⟩
 have hb0 : Below w.heap.size w w0 := by rw [← hw0]; exact (Below.refl _ _).alloc (Nat.le_refl _) _
 have hb1 : Below w0.heap.size w0 w1 := by rw [← hw1]; exact (Below.refl _ _).alloc (Nat.le_refl _) _
 have s0 : w0.heap.size = w.heap.size + 1 := by rw [← hw0]; simp
 have hX : PBox w1 w.heap.size (.slice aw P.win.length cw) (.slice am P.main.length cm) (.slice ak P.sk.rows.length ck) (.int .i64 P.sk.added) := by
  have h : PBox w0 w.heap.size (.slice aw P.win.length cw) (.slice am P.main.length cm) (.slice ak P.sk.rows.length ck) (.int .i64 P.sk.added) := by rw [← hw0]; exact PBox.new _ _ _ _ _
  exact h.on hb1
 have hY : PBox w1 (w.heap.size + 1) (.slice bw P.win.length dw) (.slice bm P.main.length dm) (.slice bk P.sk.rows.length dk) (.int .i64 P.sk.added) := by rw [← hw1, ← s0]; exact PBox.new _ _ _ _ _
 have hbw : Below w.heap.size w w1 := hb0.trans (hb1.mono hb0.size)
 obtain ⟨x0,x1,x2,x3⟩ := hX.cells
 obtain ⟨y0,y1,y2,y3⟩ := hY.cells
 have HW : Hid ((w.alloc (.cells #[.slice aw P.win.length cw,.slice am P.main.length cm,.slice ak P.sk.rows.length ck,.int .i64 P.sk.added] 30)).alloc (.cells #[.slice bw P.win.length dw,.slice bm P.main.length dm,.slice bk P.sk.rows.length dk,.int .i64 P.sk.added] 30) = w1) := by rw [hw0]; exact hw1
 have hA1 := hA.on hbw
 have hB1 := hB.on hbw
 have e1 := eqStringS_same w1 aw bw cw dw P.win hA1.1 hB1.1 l1
 rw [← hw1, ← hw0] at x0 x1 x2 x3 y0 y1 y2 y3
 clear hw0 hw1 s0 hb0 hb1 hA hB
 go_enter Tryz.func23,Tryz.ntmps23
 go_wp2_with fail
 rw [HW.out] at x0 x1 x2 x3 y0 y1 y2 y3 ⊢
 refine e1.mono ?_
 rintro e w2 ⟨rfl,hb2⟩
 clear e1 x0 x1 x2 x3 y0 y1 y2 y3
 have hbw2 := hbw.trans (hb2.mono hbw.size)
 have hX2 := hX.on hb2
 have hY2 := hY.on hb2
 obtain ⟨x0,x1,x2,x3⟩ := hX2.cells
 obtain ⟨y0,y1,y2,y3⟩ := hY2.cells
 have e2 := eqStringS_same w2 am bm cm dm P.main (hA1.2.1.on hb2) (hB1.2.1.on hb2) l2
 go_wp2_with fail
 refine e2.mono ?_
 rintro e w3 ⟨rfl,hb3⟩
 clear e2 x0 x1 x2 x3 y0 y1 y2 y3
 have hbw3 := hbw2.trans (hb3.mono hbw2.size)
 obtain ⟨x0,x1,x2,x3⟩ := (hX2.on hb3).cells
 obtain ⟨y0,y1,y2,y3⟩ := (hY2.on hb3).cells
 have e3 := eqSketch_same w3 ak bk ck dk P.sk ((hA1.2.2.on hb2).on hb3) ((hB1.2.2.on hb2).on hb3) l3
 go_wp2_with fail
 refine e3.mono ?_
 rintro e w4 ⟨rfl,hb4⟩
 go_wp2_with fail
 go_ret
 exact ⟨rfl,hbw3.trans (hb4.mono hbw3.size)⟩
end Go.Proofs.YthfjfccdelbkhaaGreatDoor
