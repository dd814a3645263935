/- Texts that stand in one: SnocS, SeatKit, SkGuessImpl, Settle, Enter, ToEnd. -/
import Derived.Test.YtaahjcljanckaaaGreatDoorHallSeatJ
import Derived.Test.YtaahjcljanckaaaGreatDoorCliLawJ
import Derived.Test.YtaahjcljanckaaaGreatDoorSkStepJ
import Derived.Test.YtaahjcljanckaaaGreatDoorShelf
import Derived.Test.YtaahjcljanckaaaGreatDoorRowStepJ
import Derived.Test.YtaahjcljanckaaaGreatDoorEntPlaceJ
import Derived.Shelf.Abstract
import Derived.Test.YtaahjcljanckaaaGreatDoorSumSpecJ
import Derived.Test.YtaahjcljanckaaaGreatDoorPolOkSzJ
import Derived.Deep.RegionHeld3
import Derived.Lib.QuietBelow
import Derived.BigQuiet
import Derived.Deep.RegionLaw
import Derived.Test.YtaahjcljanckaaaGreatDoorPxCliImplJ
import Derived.Test.YtaahjcljanckaaaGreatDoorFindPlainJ
import Derived.Deep.MidRow
namespace Go.Proofs.YtaahjcljanckaaaGreatDoor
open Go.RowKit Go.Sort
theorem grown_alloc {w w' : World} {o : Obj} {row : Option Nat} (h : (w.alloc o).grownBy w' row) : w.grownBy w' row := by
 have h0 : w.grownBy (w.alloc o) row := grownBy_below ((Below.refl _ _).alloc (Nat.le_refl _) _)
 exact grownBy_trans h0 h
theorem wpList_snocS {P : Program} {ops : Array Oper} {rest : List Oper} {o : Oper} {a : Act} {Q : Exit → Act → World → Prop} {wr : World} (hgd : o.guard = none) (s x : Operand) (t : TypeId)
  (ho : o.op = .call { callee := .builtin .append,args := #[s,x],argTypes := #[t,t] }) (base : Nat) (ht : P.underlying t = some (.slice 9))
  (hinfo : (P.info? 9).map (fun i => (i.zero,i.size,i.bytes)) = some (some (.string ⟨#[]⟩), 1, 16)) (v : Value) (L : List ByteArray) (hs : a.eval s = v) (hown : OwnV wr base 9 v (strs L))
  (y : ByteArray) (hx : a.eval x = .slice (some ⟨wr.heap.size, 0,none⟩) 1 1) (hlen : L.length ≤ 2000000) (hbase : base ≤ wr.heap.size)
  (h : ∀ g cap w',OwnV w' base 9 (.slice (some ⟨g, 0,none⟩) (L.length + 1) cap) (strs (L ++ [y])) → wr.grownBy w' v.ownBlock → (v.ownBlock = some g ∨ wr.heap.size ≤ g) → wpList P ops Q rest (a.put o.dst (.slice (some ⟨g, 0,none⟩) (L.length + 1) cap)) w') :
  wpList P ops Q (o :: rest) a (wr.alloc (.cells #[.string y] 9)) := by
 obtain ⟨i0,hi,hz0,hz1,hz2⟩ := info_parts hinfo
 have hO : (wr.alloc (.cells #[.string y] 9)).ownsRow base 9 1 v L.length (strs L) := by
  have h1 := OwnV.alloc hown (.cells #[.string y] 9)
  unfold OwnV at h1
  rw [strs_length] at h1
  exact h1
 refine wpList_append_lies _ hgd s x t ho base 9 i0 _ 1 16 ht hi hz0 hz1 hz2 rfl (by decide) v L.length (strs L) hs hO ⟨wr.heap.size, 0,none⟩ 1 1 [.string y] hx rfl (fun j u hj => ?_) (fun u hu => ?_) (by decide) (by unfold maxLen; omega) (by omega) (by simp; omega) (wr.heap.size + 1) (by simp) ?_
 ·match j,hj with
  | 0,hj => simp at hj; subst hj; simp [Addr.add]
 ·simp at hu; subst hu; rfl
 ·intro g cap w' h1 h2 h3 _
  refine h g cap w' ?_ (grown_alloc h2) ?_
  ·unfold OwnV
   rw [strs_append,List.length_append,strs_length]
   exact h1
  ·rcases h3 with h3 | h3
   ·exact .inl h3
   ·exact .inr (by omega)
theorem strsOf_strs (L : List ByteArray) : (Lib.strsOf (fun i => L.getD i noKey) L.length).map encStr = strs L := by
 apply List.ext_getElem
 ·simp [Lib.strsOf,strs]
 ·intro i h1 h2
  have hi : i < L.length := by simpa [strs] using h2
  simp [Lib.strsOf,strs,encStr,List.getD_eq_getElem?_getD,hi]
theorem deleteFirst_any (w : World) (base : Nat) (v : Value) (L : List ByteArray) (ho : OwnV w base 9 v (strs L)) (hl : 0 < L.length) :
  Calls Tryz.prog 98 #[v,.int .i64 0,.int .i64 1] w fun e w' => ∃ v',e = .returned v' ∧ OwnV w' base 9 v' (strs L.tail) ∧ v'.ownBlock = v.ownBlock ∧ w.grownBy w' v.ownBlock := by
 rcases ho.2 with ⟨rfl,h0⟩ | ⟨g,c,cur,rfl,h1,h2,h3,h4,h5,h6⟩
 ·rw [strs_length] at h0; omega
 ·rw [strs_length] at h3 h6 ho ⊢
  have hc := Tryz.slices_Delete_string_cells g 0 L.length c 0 1 (fun i => L.getD i noKey) w h3 (by unfold maxLen at h4; omega) (by omega) (by omega)
   (fun i hi => by
    rw [Nat.zero_add,(ho.cell (j := i) (by rw [strs_length]; exact hi)).1,strs_at hi]
    simp [List.getD_eq_getElem?_getD,hi])
   (fun i hi => by rw [Nat.zero_add]; exact (ho.cell (j := i) (by rw [strs_length]; exact hi)).2.1)
  refine hc.mono ?_
  rintro e w' ⟨rfl,q,rfl⟩
  have hv : (((Lib.strsOf (fun i => L.getD i noKey) L.length).take 0 ++ (Lib.strsOf (fun i => L.getD i noKey) L.length).drop 1 ++ List.replicate (1 - 0) []).map encStr) = strs (L.drop 1) ++ [Value.string ⟨#[]⟩] := by
   rw [List.take_zero,List.nil_append,List.map_append,List.map_drop,strsOf_strs]
   simp [strs,encStr]
  rw [hv]
  have ho' : OwnV (w.drewN q) base 9 (.slice (some ⟨g, 0,none⟩) L.length c) (strs L) := ho
  obtain ⟨ys,e1,_,e3,_,e5,e6⟩ := OwnV.storedAll (strs (L.drop 1) ++ [Value.string ⟨#[]⟩]) 0 (w.drewN q) (strs L) ho' (by rw [strs_length])
  have hcut := e5.cut (by rw [e1,strs_length]) (L.length - 1) (by omega)
  have hgw : w.grownBy (w.drewN q) (some g) := ⟨rfl,rfl,rfl,Nat.le_refl _,fun _ _ _ => rfl⟩
  refine ⟨_,rfl, ?_,rfl,grownBy_trans hgw e6⟩
  rw [show L.length - (1 - 0) = L.length - 1 by omega]
  have ht : ys.take (L.length - 1) = strs L.tail := by
   apply List.ext_getElem?
   intro i
   by_cases hi : i < L.length - 1
   ·rw [List.getElem?_take_of_lt hi]
    have := e3 i (by simp [strs]; omega) (by rw [strs_length]; omega)
    rw [Nat.zero_add] at this
    rw [this,List.getElem?_append_left (by simp [strs]; omega)]
    simp [strs]
   ·rw [List.getElem?_eq_none (by rw [List.length_take]; omega),List.getElem?_eq_none (by simp [strs]; omega)]
  rw [ht] at hcut
  exact hcut
def outF (G : Nat) : Value := .func (.func 67) #[] #[.pointer (some ⟨G, 0,none⟩)]
theorem out_eg : ∀ args w,(callFunc 67 args).run Tryz.prog w = .ok (.enter 67 args) w := enters_of Tryz.func67 (by kernel_rfl) rfl
theorem one_cell {w : World} {G : Nat} {x : Value} {t : TypeId} (h : w.heap[G]? = some (.cells #[x] t (0, 0))) : w.cell? ⟨G, 0,none⟩ = some x ∧ w.frozen? ⟨G, 0,none⟩ = false := by
 exact ⟨by rw [cell_of_row w G 0 _ _ (0, 0) h]; rfl,by simp [World.frozen?,h]⟩
theorem out_any (W : World) (G : Nat) (x y : ByteArray) (h : W.heap[G]? = some (.cells #[.string y] 9 (0, 0))) :
  Calls Tryz.prog 67 #[.string x,.pointer (some ⟨G, 0,none⟩)] W fun e w' => e = .returned (.tuple #[]) ∧ w' = W.setCell ⟨G, 0,none⟩ (.string x) := by
 obtain ⟨c0,f0⟩ := one_cell h
 go_enter Tryz.func67,Tryz.ntmps67
 go_wp2
 go_end0
 exact ⟨rfl,rfl⟩
def Seats (w : World) (V G lo : Nat) (v1 v2 v3 : Value) (P : Pol) (out : ByteArray) : Prop :=
 PHold w V 124 [outF G] lo v1 v2 v3 P ∧ w.heap[G]? = some (.cells #[.string out] 9 (0, 0)) ∧ G < lo ∧ lo ≤ V
theorem seats_ty : tyOk 124 := by unfold tyOk; decide
theorem Seats.out {w : World} {V G lo : Nat} {v1 v2 v3 : Value} {P : Pol} {o : ByteArray} (h : Seats w V G lo v1 v2 v3 P o) (x : ByteArray) : Seats (w.setCell ⟨G, 0,none⟩ (.string x)) V G lo v1 v2 v3 P x := by
 obtain ⟨h1,h2,h3,h4⟩ := h
 refine ⟨h1.far h2 (.inr h3) (by omega) (fun k hk => Below.heap_setCell _ _ _ _ (by exact hk)) (by simp [World.setCell]), ?_,h3,h4⟩
 rw [heap_put h2]; simp
theorem Seats.on {w w' : World} {V G lo : Nat} {v1 v2 v3 : Value} {P : Pol} {o : ByteArray} (h : Seats w V G lo v1 v2 v3 P o) (hb : Below w.heap.size w w') : Seats w' V G lo v1 v2 v3 P o :=
 ⟨h.1.on hb,(hb.block G (Array.getElem?_eq_some_iff.1 h.2.1).1).trans h.2.1,h.2.2⟩
theorem Seats.lo {w : World} {V G lo : Nat} {v1 v2 v3 : Value} {P : Pol} {o : ByteArray} (h : Seats w V G lo v1 v2 v3 P o) : lo ≤ w.heap.size := by
 have := h.1.lt
 have := h.2.2.2
 omega
theorem Seats.gone1 {w w' : World} {V G lo : Nat} {v1 v2 v3 : Value} {P : Pol} {o : ByteArray} (h : Seats w V G lo v1 v2 v3 P o) (hg : w.grownBy w' v1.ownBlock) (i : Nat) (x : Value) : (w'.setCell ⟨V,i,none⟩ x).heap[G]? = some (.cells #[.string o] 9 (0, 0)) := by
 have h3 := h.2.2.1
 have h4 := h.2.2.2
 rw [Below.heap_setCell _ _ _ _ (by show G ≠ V; omega),hg.block G (Array.getElem?_eq_some_iff.1 h.2.1).1 (fun e => by have := (h.1.2.1.lt G e.symm).1; omega)]
 exact h.2.1
theorem Seats.gone2 {w w' : World} {V G lo : Nat} {v1 v2 v3 : Value} {P : Pol} {o : ByteArray} (h : Seats w V G lo v1 v2 v3 P o) (hg : w.grownBy w' v2.ownBlock) (i : Nat) (x : Value) : (w'.setCell ⟨V,i,none⟩ x).heap[G]? = some (.cells #[.string o] 9 (0, 0)) := by
 have h3 := h.2.2.1
 have h4 := h.2.2.2
 rw [Below.heap_setCell _ _ _ _ (by show G ≠ V; omega),hg.block G (Array.getElem?_eq_some_iff.1 h.2.1).1 (fun e => by have := (h.1.2.2.1.lt G e.symm).1; omega)]
 exact h.2.1
theorem Seats.win {w w' : World} {V G lo : Nat} {v1 v2 v3 v1' : Value} {P : Pol} {o : ByteArray} {W' : List ByteArray} (h : Seats w V G lo v1 v2 v3 P o) (hg : w.grownBy w' v1.ownBlock) (ho : OwnV w' lo 9 v1' (strs W')) (hn : ∀ k,v1'.ownBlock = some k → v1.ownBlock = some k ∨ w.heap.size ≤ k) :
  Seats (w'.setCell ⟨V, 0,none⟩ v1') V G lo v1' v2 v3 ⟨W',P.main,P.sk⟩ o ∧ Below G w (w'.setCell ⟨V, 0,none⟩ v1') := by
 have h3 := h.2.2.1
 have h4 := h.2.2.2
 have h5 := h.lo
 refine ⟨⟨h.1.setWin seats_ty hg ho hn,h.gone1 hg 0 _,h.2.2⟩, ?_⟩
 exact ((Below.refl G w).grown hg (by omega) (fun k e => by have := (h.1.2.1.lt k e).1; omega)).setCell (by show G ≤ V; omega) _
theorem Seats.main {w w' : World} {V G lo : Nat} {v1 v2 v3 v2' : Value} {P : Pol} {o : ByteArray} {W' : List ByteArray} (h : Seats w V G lo v1 v2 v3 P o) (hg : w.grownBy w' v2.ownBlock) (ho : OwnV w' lo 9 v2' (strs W')) (hn : ∀ k,v2'.ownBlock = some k → v2.ownBlock = some k ∨ w.heap.size ≤ k) :
  Seats (w'.setCell ⟨V, 1,none⟩ v2') V G lo v1 v2' v3 ⟨P.win,W',P.sk⟩ o ∧ Below G w (w'.setCell ⟨V, 1,none⟩ v2') := by
 have h3 := h.2.2.1
 have h4 := h.2.2.2
 have h5 := h.lo
 refine ⟨⟨h.1.setMain seats_ty hg ho hn,h.gone2 hg 1 _,h.2.2⟩, ?_⟩
 exact ((Below.refl G w).grown hg (by omega) (fun k e => by have := (h.1.2.2.1.lt k e).1; omega)).setCell (by show G ≤ V; omega) _
def GBox (w : World) (T : Nat) (n : Int) (b : Bool) : Prop := w.heap[T]? = some (.cells #[.int .i64 n,.bool b] 160 (0, 0))
theorem GBox.lt {w : World} {T : Nat} {n : Int} {b : Bool} (h : GBox w T n b) : T < w.heap.size := (Array.getElem?_eq_some_iff.1 h).1
theorem GBox.new (w : World) (n : Int) (b : Bool) : GBox (w.alloc (.cells #[.int .i64 n,.bool b] 160)) w.heap.size n b := heap_alloc_new w _
theorem GBox.kept {w w' : World} {T : Nat} {n : Int} {b : Bool} (h : GBox w T n b) (hk : w'.heap[T]? = w.heap[T]?) : GBox w' T n b := hk.trans h
theorem GBox.on {w w' : World} {T : Nat} {n : Int} {b : Bool} (h : GBox w T n b) (hb : Below w.heap.size w w') : GBox w' T n b := h.kept (hb.block T h.lt)
theorem GBox.thaw {w : World} {T : Nat} {n : Int} {b : Bool} (h : GBox w T n b) (i : Nat) : w.frozen? ⟨T,i,none⟩ = false := by
 unfold GBox at h
 simp [World.frozen?,h]
theorem GBox.cells {w : World} {T : Nat} {n : Int} {b : Bool} (h : GBox w T n b) : w.cell? ⟨T, 0,none⟩ = some (.int .i64 n) ∧ w.cell? ⟨T, 1,none⟩ = some (.bool b) := by
 unfold GBox at h
 refine ⟨?_, ?_⟩
 ·rw [cell_of_row w T 0 _ _ (0, 0) h]; rfl
 ·rw [cell_of_row w T 1 _ _ (0, 0) h]; rfl
theorem GBox.put {w : World} {T : Nat} {n : Int} {b : Bool} (h : GBox w T n b) (m : Int) (c : Bool) : GBox ((w.setCell ⟨T, 0,none⟩ (.int .i64 m)).setCell ⟨T, 1,none⟩ (.bool c)) T m c := by
 unfold GBox at *
 simp only [World.setCell,Array.getElem?_modify,h]
 simp
set_option maxRecDepth 100000 in
set_option maxHeartbeats 2000000 in
theorem guessWith_any (w : World) (least n : Int) (made : Bool) :
  Calls Tryz.prog 108 #[.agg #[.int .i64 least,.bool made],.int .i64 n] w fun e w' => e = .returned (.agg #[.int .i64 (if made = true then min n least else n),.bool true]) ∧ Below w.heap.size w w' := by
 obtain ⟨w0,hw0⟩ : ∃ x,w.alloc (.cells #[.int .i64 least,.bool made] 160) = x := ⟨_,rfl⟩
 obtain ⟨w1,hw1⟩ : ∃ x,w0.alloc (.cells #[.int .i64 0,.bool false] 160) = x := ⟨_,rfl⟩
 have hb0 : Below w.heap.size w w0 := by rw [← hw0]; exact (Below.refl _ _).alloc (Nat.le_refl _) _
 have hb1 : Below w0.heap.size w0 w1 := by rw [← hw1]; exact (Below.refl _ _).alloc (Nat.le_refl _) _
 have s0 : w0.heap.size = w.heap.size + 1 := by rw [← hw0]; simp
 have hbw : Below w.heap.size w w1 := hb0.trans (hb1.mono hb0.size)
 have hG : GBox w1 w.heap.size least made := by
  have h : GBox w0 w.heap.size least made := by rw [← hw0]; exact GBox.new _ _ _
  exact h.on hb1
 have hR : GBox w1 (w.heap.size + 1) 0 false := by rw [← hw1, ← s0]; exact GBox.new _ _ _
 have HW : Hid ((w.alloc (.cells #[.int .i64 least,.bool made] 160)).alloc (.cells #[.int .i64 0,.bool false] 160) = w1) := by rw [hw0]; exact hw1
 obtain ⟨g0,g1⟩ := hG.cells
 obtain ⟨r0,r1⟩ := hR.cells
 have f0 := hR.thaw 0
 have f1 := hR.thaw 1
 rw [← HW.out] at g0 g1
 clear hw0 hw1 s0 hb0 hb1 hG
 have HR : Hid (∀ m,GBox ((w1.setCell ⟨w.heap.size + 1, 0,none⟩ (.int .i64 m)).setCell ⟨w.heap.size + 1, 1,none⟩ (.bool true)) (w.heap.size + 1) m true ∧ Below w.heap.size w ((w1.setCell ⟨w.heap.size + 1, 0,none⟩ (.int .i64 m)).setCell ⟨w.heap.size + 1, 1,none⟩ (.bool true))) := fun m => ⟨hR.put m true,(hbw.setCell (show w.heap.size ≤ w.heap.size + 1 by omega) _).setCell (show w.heap.size ≤ w.heap.size + 1 by omega) _⟩
 clear hR hbw
 cases made with
 | true =>
  go_enter Tryz.func108,Tryz.ntmps108
  go_upto_region 2 with fail
  rw [HW.out] at g0 g1 ⊢
  go_wp2
  obtain ⟨q0,q1⟩ := (HR.out (min n least)).1.cells
  refine bodyPost_ret (v := .agg #[.int .i64 (min n least),.bool true]) (by simp [results,Tryz.results108,go_sem,q0,q1]) rfl ⟨by simp,(HR.out _).2⟩
 | false =>
  go_enter Tryz.func108,Tryz.ntmps108
  go_upto_region 3 with fail
  rw [HW.out] at g0 g1 ⊢
  go_wp2
  obtain ⟨q0,q1⟩ := (HR.out n).1.cells
  refine bodyPost_ret (v := .agg #[.int .i64 n,.bool true]) (by simp [results,Tryz.results108,go_sem,q0,q1]) rfl ⟨by simp,(HR.out _).2⟩
theorem guessTo_succ (key : ByteArray) (rows : List (List Int)) (k : Nat) : guessTo key rows (k + 1) = min (lookR key rows k) (guessTo key rows k) := by
 unfold guessTo
 rw [List.range_succ,List.foldl_append]
 rfl
def leastTo (key : ByteArray) (rows : List (List Int)) (k : Nat) : Int := if k = 0 then 0 else guessTo key rows k
theorem leastTo_succ (key : ByteArray) (rows : List (List Int)) (k : Nat) (hz : lookR key rows k ≤ 15) : (if decide (0 < k) = true then min (lookR key rows k) (leastTo key rows k) else lookR key rows k) = leastTo key rows (k + 1) := by
 unfold leastTo
 rw [if_neg (show ¬ k + 1 = 0 by omega),guessTo_succ]
 by_cases h : k = 0
 ·subst h
  simp [guessTo]
  omega
 ·rw [if_neg h,if_pos (by simp; omega)]
set_option maxRecDepth 100000 in
set_option maxHeartbeats 4000000 in
theorem implSketchGuess_any (w : World) (a : Option Addr) (c : Nat) (S : Sk) (key : ByteArray) (hA : SSAt w a S.rows w.heap.size) (hm : S.rows.length ≤ 1048576) (hk : key.size ≤ 1048576) (ht : Tab w) :
  Calls Tryz.prog 104 #[.agg #[.slice a S.rows.length c,.int .i64 S.added],.string key] w fun e w' => e = .returned (.int .i64 (guessS S key)) ∧ Below w.heap.size w w' := by
 obtain ⟨w0,hw0⟩ : ∃ x,w.alloc (.cells #[.slice a S.rows.length c,.int .i64 S.added] 30) = x := ⟨_,rfl⟩
 have hb0 : Below w.heap.size w w0 := by rw [← hw0]; exact (Below.refl _ _).alloc (Nat.le_refl _) _
 have hB : SkBox w0 w.heap.size (.slice a S.rows.length c) (.int .i64 S.added) := by rw [← hw0]; exact SkBox.new _ _ _
 have HW : Hid (w.alloc (.cells #[.slice a S.rows.length c,.int .i64 S.added] 30) = w0) := hw0
 have c0 := implSketchOk_any w0 a c S (hA.on hb0) hm
 obtain ⟨b0,b1⟩ := hB.cells
 rw [← HW.out] at b0 b1
 clear hw0
 cases hok : okK S with
 | false =>
  rw [hok] at c0
  have HG : Hid (guessS S key = 0) := by show _ = _; unfold guessS; rw [hok]; rfl
  clear hok
  go_enter Tryz.func104,Tryz.ntmps104
  go_wp2_with fail
  rw [HW.out] at b0 b1 ⊢
  refine c0.mono ?_
  rintro e w1 ⟨rfl,hb1⟩
  go_wp2_with fail
  go_ret
  exact ⟨by rw [HG.out]; rfl,hb0.trans (hb1.mono hb0.size)⟩
 | true =>
  rw [hok] at c0
  obtain ⟨r0,r1,r2,hrows,o0,o1,o2,_,_⟩ := okK_parts hok
  have hall : AllOk S.rows := by
   rw [hrows]
   intro r hr
   simp only [List.mem_cons,List.not_mem_nil,or_false] at hr
   rcases hr with rfl | rfl | rfl
   ·exact o0
   ·exact o1
   ·exact o2
  have h3 : S.rows.length = 3 := by rw [hrows]; rfl
  have HG : Hid (guessS S key = leastTo key S.rows 3) := by show _ = _; unfold guessS; rw [if_pos hok]; rfl
  obtain ⟨rows,added⟩ := S
  dsimp only at *
  rw [h3] at c0 b0 b1 hB HW
  have hfl : rows.flatten.length = 48 := by rw [flat_len _ hall.all16,h3]
  have hsz : (Tryz.prog.info? 119).map (·.size) = some (ints rows.flatten).toArray.size := by rw [List.size_toArray,ints_length,hfl]; kernel_rfl
  have hol : (ints zrows.flatten).toArray.size = (ints rows.flatten).toArray.size := by rw [List.size_toArray,List.size_toArray,ints_length,ints_length,hfl,zrows_len]
  have H3 : Hid (rows.length = 3) := h3
  have HC1 : Hid (∀ wi,SSAt wi a rows wi.heap.size → Calls Tryz.prog 74 #[.agg #[.slice a 3 c,.int .i64 added]] wi fun e w' => e = .returned (.agg (ints rows.flatten).toArray) ∧ Below wi.heap.size wi w') := fun wi h => rowsOf_any wi a c rows added h3 hall.all16 h
  have hA0 := hA.on hb0
  clear hok hrows o0 o1 o2 hfl hA
  go_enter Tryz.func104,Tryz.ntmps104
  rw [h3]
  clear h3
  go_wp2_with fail
  rw [HW.out] at b0 b1 ⊢
  refine c0.mono ?_
  rintro e w1 ⟨rfl,hb1⟩
  clear c0 b0 b1
  have hbw1 := hb0.trans (hb1.mono hb0.size)
  have hA1 := hA0.on hb1
  obtain ⟨b0,b1⟩ := (hB.on hb1).cells
  have c1 := HC1.out w1 hA1
  go_wp2_with fail
  refine c1.mono ?_
  rintro e w2 ⟨rfl,hb2⟩
  clear c1 b0 b1
  have hbw2 := hbw1.trans (hb2.mono hbw1.size)
  obtain ⟨w3,hw3⟩ : ∃ x,w2.alloc (.cells (ints zrows.flatten).toArray 119) = x := ⟨_,rfl⟩
  have hR3 : RBox w3 w2.heap.size zrows := by rw [← hw3]; exact RBox.new _ _
  have hb3 : Below w2.heap.size w2 w3 := by rw [← hw3]; exact (Below.refl _ _).alloc (Nat.le_refl _) _
  have hR4 := hR3.stored rows
  have hbw4 := below_setRow (hbw2.trans (hb3.mono hbw2.size)) hbw2.size (ints rows.flatten).toArray
  have hs3 : w3.heap.size = w2.heap.size + 1 := by rw [← hw3]; simp
  have HW3 : Hid (w2.alloc (.cells (ints zrows.flatten).toArray 119) = w3) := hw3
  clear hw3 hb3
  go_wp2_with (rw [zlit,HW3.out]; refine wpList_storeR rfl (.tmp 5) (.tmp 12) 119 rfl w2.heap.size rfl _ rfl _ _ hR3 hsz hol (ints_all _) ?_)
  obtain ⟨w4,hw4⟩ : ∃ x,w3.setRow w2.heap.size (ints rows.flatten).toArray = x := ⟨_,rfl⟩
  have hs4 : w4.heap.size = w2.heap.size + 1 := by rw [← hw4,setRow_size]; exact hs3
  rw [hw4] at hR4 hbw4 ⊢
  have hb5 : Below w4.heap.size w4 (w4.alloc (.cells #[.int .i64 0,.bool false] 160)) := (Below.refl _ _).alloc (Nat.le_refl _) _
  have hG5 : GBox (w4.alloc (.cells #[.int .i64 0,.bool false] 160)) (w2.heap.size + 1) 0 false := by rw [← hs4]; exact GBox.new _ _ _
  have hR5 := hR4.on hb5
  have hbw5 : Below w.heap.size w (w4.alloc (.cells #[.int .i64 0,.bool false] 160)) := hbw4.trans (hb5.mono (by have := hbw2.size; omega))
  have hws2 := hbw2.size
  clear hw4 hR4 hbw4 hb5 hs3 hR3 HW3 hbw1 hbw2 hA0 hA1 hb1 hb2 hB hsz hol HC1
  go_loopw [7, 13] (fun _ i wr => Box (∃ (k : Nat),k ≤ 3 ∧ i = .int .i64 k ∧ RBox wr w2.heap.size rows ∧ GBox wr (w2.heap.size + 1) (leastTo key rows k) (decide (0 < k)) ∧ Below w.heap.size w wr))
   (fun _ i _ => 3 - (intOf i).toNat)
  case atStart => exact ⟨⟨0,by omega,rfl,hR5,hG5,hbw5⟩⟩
  case round =>
   obtain ⟨k,hk3,rfl,hR1,hG1,hbel⟩ := hrel.out
   by_cases hlt : k < 3
   ·have h3 := H3.out
    have hkr : k < rows.length := by omega
    have hp := placeS_lt (k : Int) key
    have hgd : (rows.getD k []).getD (placeS (k : Int) key) 0 = lookR key rows k := rfl
    have hz : lookR key rows k ≤ 15 := by
     unfold lookR
     have := rowOk_at (hall rows[k] (List.getElem_mem hkr)) (placeS (k : Int) key) hp
     have e : rows.getD k [] = rows[k] := by rw [List.getD_eq_getElem?_getD,List.getElem?_eq_getElem hkr]; rfl
     rw [e]
     exact this.2
    have HLS := leastTo_succ key rows k hz
    have cP := fun wi (h : Below wr.heap.size wr wi) => implSketchPlace_any (k : Int) key wi hk ((ht.below hbel (Nat.le_refl _)).below h (by have := hbel.size; have := (ht.below hbel (Nat.le_refl _)).lt; exact Nat.le_refl _))
    have HN : Hid (∀ wi,Below wr.heap.size wr wi → wi.cell? ⟨w2.heap.size,k * 16 + placeS (k : Int) key,none⟩ = some (.int .i64 (lookR key rows k)) ∧ wi.cell? ⟨w2.heap.size + 1, 0,none⟩ = some (.int .i64 (leastTo key rows k)) ∧ wi.cell? ⟨w2.heap.size + 1, 1,none⟩ = some (.bool (decide (0 < k))) ∧ wi.frozen? ⟨w2.heap.size + 1, 0,none⟩ = false ∧ wi.frozen? ⟨w2.heap.size + 1, 1,none⟩ = false ∧ Hid (RBox ((wi.setCell ⟨w2.heap.size + 1, 0,none⟩ (.int .i64 (leastTo key rows (k + 1)))).setCell ⟨w2.heap.size + 1, 1,none⟩ (.bool true)) w2.heap.size rows ∧ GBox ((wi.setCell ⟨w2.heap.size + 1, 0,none⟩ (.int .i64 (leastTo key rows (k + 1)))).setCell ⟨w2.heap.size + 1, 1,none⟩ (.bool true)) (w2.heap.size + 1) (leastTo key rows (k + 1)) (decide (0 < k + 1)) ∧ Below w.heap.size w ((wi.setCell ⟨w2.heap.size + 1, 0,none⟩ (.int .i64 (leastTo key rows (k + 1)))).setCell ⟨w2.heap.size + 1, 1,none⟩ (.bool true)))) := by
     intro wi hb
     have hR2 := hR1.on hb
     have hG2 := hG1.on hb
     have hc := hR2.cell hall.all16 hkr hp
     have e : decide (0 < k + 1) = true := by simp
     refine ⟨hc,hG2.cells.1,hG2.cells.2,hG2.thaw 0,hG2.thaw 1, ?_, ?_, ?_⟩
     ·exact (hR2.kept ((Below.heap_setCell _ _ _ _ (show w2.heap.size ≠ w2.heap.size + 1 by omega)).trans (Below.heap_setCell _ _ _ _ (show w2.heap.size ≠ w2.heap.size + 1 by omega))))
     ·rw [e]; exact hG2.put _ _
     ·exact ((hbel.trans (hb.mono hbel.size)).setCell (show w.heap.size ≤ w2.heap.size + 1 by omega) _).setCell (show w.heap.size ≤ w2.heap.size + 1 by omega) _
    generalize lookR key rows k = z at HN HLS hz
    have HLS' : Hid ((if decide (0 < k) = true then min z (leastTo key rows k) else z) = leastTo key rows (k + 1)) := HLS
    generalize leastTo key rows k = lst at HN HLS'
    generalize decide (0 < k) = md at HN HLS'
    generalize placeS (k : Int) key = p at cP hp HN
    obtain ⟨g0,g1,g2,g3⟩ := (⟨(HN.out wr (Below.refl _ _)).2.1,(HN.out wr (Below.refl _ _)).2.2.1,(HN.out wr (Below.refl _ _)).1,trivial⟩ : _ ∧ _ ∧ _ ∧ True)
    clear hrel hR5 hG5 hbw5 hR1 hG1 hbel h3 hkr ht HLS hgd g3
    have hi1 : (0 : Int) ≤ (k : Int) := by omega
    have hi2 : (k : Int) < 3 := by omega
    have hp1 : (0 : Int) ≤ (p : Int) := by omega
    have hp2 : (p : Int) < 16 := by omega
    have hdr : Below wr.heap.size wr wr.drew := ⟨rfl,rfl,rfl,Nat.le_refl _,fun _ _ => rfl⟩
    go_wp2_with fail
    go_region_law (first
     | (go_simp; go_at_call 96; refine (cP _ hdr).mono ?_; rintro e wp ⟨rfl,hbp⟩; have hbp' := hdr.trans hbp; have x0 := (HN.out wp hbp').1; have x1 := (HN.out wp hbp').2.1; have x2 := (HN.out wp hbp').2.2.1)
     | (go_simp; go_at_call 108; refine (guessWith_any _ lst z md).mono ?_; rintro e wq ⟨rfl,hbq⟩; have hbq' := hbp'.trans (hbq.mono hbp'.size); have y1 := (HN.out wq hbq').2.1; have y2 := (HN.out wq hbq').2.2.1; have y3 := (HN.out wq hbq').2.2.2.1; have y4 := (HN.out wq hbq').2.2.2.2.1; have HX := (HN.out wq hbq').2.2.2.2.2; rw [HLS'.out]))
    all_goals (
     clear hbp hbp' hbq hbq' x0 x1 x2 y1 y2 y3 y4 g0 g1 g2 cP HN
     go_wp2
     refine ⟨?_, ?_⟩
     ·exact ⟨⟨k + 1,by omega,by go_num,HX.out.1,HX.out.2.1,HX.out.2.2⟩⟩
     ·simp [intOf]; omega)
   ·obtain rfl : k = 3 := by omega
    obtain ⟨g0,_⟩ := hG1.cells
    clear hrel hR5 hG5 hbw5 hR1 hG1
    go_wp2
    go_ret
    exact ⟨by rw [HG.out]; rfl,hbel⟩
set_option maxRecDepth 100000 in
set_option maxHeartbeats 4000000 in
theorem settle_room (w : World) (V G lo : Nat) (v1 v2 v3 : Value) (P : Pol) (o key : ByteArray) (h : Seats w V G lo v1 v2 v3 P o) (hm : P.main.length < 4) :
  Calls Tryz.prog 99 #[.pointer (some ⟨V, 0,none⟩),.string key] w fun e w' => e = .returned (.tuple #[]) ∧ ∃ v2',Seats w' V G lo v1 v2' v3 ⟨P.win,P.main ++ [key],P.sk⟩ o ∧ Below G w w' := by
 have HS : Hid (Seats w V G lo v1 v2 v3 P o) := h
 obtain ⟨b0,b1,b2,b3,_⟩ := h.1.cells
 have hlo := h.lo
 have hO2 := h.1.2.2.1
 obtain ⟨a2,k2,rfl,_⟩ := hO2.strsAt
 have hm4 : ¬ ((P.main.length : Int) = 4) := by omega
 have hml : P.main.length ≤ 2000000 := by omega
 have HV : Hid (∀ w',w.grownBy w' (Value.slice a2 P.main.length k2).ownBlock → w'.cell? ⟨V, 1,none⟩ = some (.slice a2 P.main.length k2) ∧ w'.frozen? ⟨V, 1,none⟩ = false) := fun w' hg => ⟨(h.1.var2 seats_ty hg).1,(h.1.var2 seats_ty hg).2 1⟩
 clear h hm
 go_enter Tryz.func99,Tryz.ntmps99
 go_wp2_with (at_builtin; refine wpList_snocS rfl (.tmp 61) (.tmp 63) 27 rfl lo Tryz.underlying27 Tryz.infoSK _ P.main rfl hO2 key rfl hml hlo ?_; intro g cap w' ho' hg' hn'; obtain ⟨q0,q1⟩ := HV.out w' hg')
 have HF := HS.out.main hg' ho' (fun k e => by simp only [Value.ownBlock,Option.some.injEq] at e; subst e; exact hn')
 go_end0
 exact ⟨rfl,_,HF.1,HF.2⟩
set_option maxRecDepth 100000 in
set_option maxHeartbeats 4000000 in
theorem settle_full (w : World) (V G lo : Nat) (v1 v2 v3 : Value) (P : Pol) (o key m0 : ByteArray) (mr : List ByteArray) (h : Seats w V G lo v1 v2 v3 P o) (hm : P.main.length = 4) (he : P.main = m0 :: mr) (hs : P.sk.rows.length ≤ 1048576) (hk : key.size ≤ 1048576) (hk0 : m0.size ≤ 1048576) (ht : ∀ W,Below G w W → Tab W) :
  Calls Tryz.prog 99 #[.pointer (some ⟨V, 0,none⟩),.string key] w fun e w' => e = .returned (.tuple #[]) ∧ Below G w w' ∧
   ((guessS P.sk key ≤ guessS P.sk m0 ∧ Seats w' V G lo v1 v2 v3 P key) ∨ (guessS P.sk m0 < guessS P.sk key ∧ ∃ v2',Seats w' V G lo v1 v2' v3 ⟨P.win,mr ++ [key],P.sk⟩ m0)) := by
 have HS : Hid (Seats w V G lo v1 v2 v3 P o) := h
 obtain ⟨b0,b1,b2,b3,b4⟩ := h.1.cells
 have hlo := h.lo
 have hGl := h.2.2.1
 have hO2 := h.1.2.2.1
 obtain ⟨a2,k2,rfl,hL2⟩ := hO2.strsAt
 obtain ⟨a3,k3,rfl,hL3⟩ := h.1.2.2.2.2.at
 have hcm : ∃ g,a2 = some ⟨g, 0,none⟩ ∧ w.cell? ⟨g, 0,none⟩ = some (.string m0) := by
  obtain ⟨a',c',e',h'⟩ := hO2.shape
  simp only [Value.slice.injEq] at e'
  obtain ⟨g,e1,e2,_⟩ := h' 0 (by rw [strs_length]; omega)
  rw [← e'.1] at e1
  refine ⟨g,e1, ?_⟩
  rw [e2]
  simp [he,strs]
 obtain ⟨g2,rfl,hcm⟩ := hcm
 have hdel := fun W (hW : OwnV W lo 9 (.slice (some ⟨g2, 0,none⟩) 4 k2) (strs P.main)) => deleteFirst_any W lo _ P.main hW (by omega)
 have HDEL : Hid _ := hdel
 clear hdel
 rw [hm] at b1 hO2 HS
 obtain ⟨x,hx⟩ : ∃ x,guessS P.sk key = x := ⟨_,rfl⟩
 obtain ⟨y,hy⟩ : ∃ y,guessS P.sk m0 = y := ⟨_,rfl⟩
 have bG := fun d os => (below_regrown w d os).mono (show G ≤ w.heap.size by omega)
 have cK : ∀ d os,Calls Tryz.prog 104 #[.agg #[.slice a3 P.sk.rows.length k3,.int .i64 P.sk.added],.string key] (grow (redrawn w d) os) fun e w'' => e = .returned (.int .i64 x) ∧ ∃ p : Regrown,w'' = grow (redrawn w p.d) p.os := fun d os => Calls.regrown_of (by rw [← hx]; exact implSketchGuess_any (grow (redrawn w d) os) a3 k3 P.sk key (hL3.on (below_regrown w d os)) hs hk (ht _ (bG d os)))
 have cM : ∀ d os,Calls Tryz.prog 104 #[.agg #[.slice a3 P.sk.rows.length k3,.int .i64 P.sk.added],.string m0] (grow (redrawn w d) os) fun e w'' => e = .returned (.int .i64 y) ∧ ∃ p : Regrown,w'' = grow (redrawn w p.d) p.os := fun d os => Calls.regrown_of (by rw [← hy]; exact implSketchGuess_any (grow (redrawn w d) os) a3 k3 P.sk m0 (hL3.on (below_regrown w d os)) hs hk0 (ht _ (bG d os)))
 have kb2 := cell_regrown b2
 have kb3 := cell_regrown b3
 have HB : Hid (∀ d os,Below G w (grow (redrawn w d) os)) := bG
 have HT : Hid (P.main = m0 :: mr) := he
 have eg := out_eg
 simp only [List.getElem?_cons_zero] at b4
 unfold outF at b4
 clear h he hL2 hL3 hs hk hk0 ht hlo hGl bG b0
 have HXY : Hid (guessS P.sk key = x ∧ guessS P.sk m0 = y) := ⟨hx,hy⟩
 clear hx hy
 by_cases hg : x ≤ y
 ·go_enter Tryz.func99,Tryz.ntmps99
  go_wp2_with fail
  refine wp_region_quiet_below (by kernel_rfl) (by kernel_rfl) ?_
  repeat (first | go_big_quiet_step (first | with_reducible exact cK _ _ | with_reducible exact cM _ _) | quiet_step (first | with_reducible exact cK _ _ | with_reducible exact cM _ _))
  refine wpQuiet_nil ?_
  intro _ hw'
  obtain ⟨⟨dq,osq⟩,hw''⟩ := hw'
  subst hw''
  have S2 : Seats (grow (redrawn w dq) osq) V G lo v1 (.slice (some ⟨g2, 0,none⟩) 4 k2) (.slice a3 P.sk.rows.length k3) P o := Seats.on HS.out (below_regrown w dq osq)
  have B2 : Hid (Below G w (grow (redrawn w dq) osq)) := HB.out dq osq
  obtain ⟨w2,hw2⟩ : ∃ x,grow (redrawn w dq) osq = x := ⟨_,rfl⟩
  show Exit.then _ _ Exit.normal _ (grow (redrawn w dq) osq)
  rw [hw2] at S2 B2 ⊢
  clear hw2 cK cM kb2 kb3 b1 b2 b3 b4 hcm hO2
  obtain ⟨_,c1,_,_,c4⟩ := S2.1.cells
  simp only [List.getElem?_cons_zero] at c4
  unfold outF at c4
  have cO := out_any w2 G key o S2.2.1
  have HF : Hid (Seats (w2.setCell ⟨G, 0,none⟩ (.string key)) V G lo v1 (.slice (some ⟨g2, 0,none⟩) 4 k2) (.slice a3 P.sk.rows.length k3) P key ∧ Below G w (w2.setCell ⟨G, 0,none⟩ (.string key))) := ⟨S2.out key,B2.out.setCell (Nat.le_refl _) _⟩
  have HG : Hid (guessS P.sk key ≤ guessS P.sk m0) := by show _ ≤ _; rw [HXY.out.1,HXY.out.2]; exact hg
  have HL : Hid (P.main.length = 4) := hm
  clear S2 B2
  go_wp2_with (go_at_fn 67; refine cO.mono ?_; rintro e w3 ⟨rfl,rfl⟩)
  refine bodyPost_ret (results_none rfl _ _ _) rfl ⟨rfl,HF.out.2,.inl ⟨HG.out, ?_⟩⟩
  rw [HL.out]
  exact HF.out.1
 ·have hg' : ¬ (x ≤ y) := hg
  go_enter Tryz.func99,Tryz.ntmps99
  go_wp2_with fail
  refine wp_region_quiet_below (by kernel_rfl) (by kernel_rfl) ?_
  repeat (first | go_big_quiet_step (first | with_reducible exact cK _ _ | with_reducible exact cM _ _) | quiet_step (first | with_reducible exact cK _ _ | with_reducible exact cM _ _))
  refine wpQuiet_nil ?_
  intro _ hw'
  obtain ⟨⟨dq,osq⟩,hw''⟩ := hw'
  subst hw''
  have S2 : Seats (grow (redrawn w dq) osq) V G lo v1 (.slice (some ⟨g2, 0,none⟩) 4 k2) (.slice a3 P.sk.rows.length k3) P o := Seats.on HS.out (below_regrown w dq osq)
  have B2 : Hid (Below G w (grow (redrawn w dq) osq)) := HB.out dq osq
  obtain ⟨w2,hw2⟩ : ∃ x,grow (redrawn w dq) osq = x := ⟨_,rfl⟩
  show Exit.then _ _ Exit.normal _ (grow (redrawn w dq) osq)
  rw [hw2] at S2 B2 ⊢
  clear hw2 cK cM kb2 kb3 b1 b2 b3 b4 hcm hO2
  obtain ⟨_,c1,_,_,c4⟩ := S2.1.cells
  simp only [List.getElem?_cons_zero] at c4
  unfold outF at c4
  have cD := HDEL.out w2 S2.1.2.2.1
  rw [show P.main.tail = mr by rw [HT.out]; rfl] at cD
  have HG : Hid (guessS P.sk m0 < guessS P.sk key) := by show _ < _; rw [HXY.out.1,HXY.out.2]; omega
  have HS2 : Hid (Seats w2 V G lo v1 (.slice (some ⟨g2, 0,none⟩) 4 k2) (.slice a3 P.sk.rows.length k3) P o) := S2
  have hml : mr.length ≤ 2000000 := by
   have := congrArg List.length HT.out
   rw [hm,List.length_cons] at this
   omega
  clear S2 hm
  go_wp2_with fail
  refine cD.mono ?_
  rintro e w3 ⟨v3',rfl,ho3,hn3,hg3⟩
  obtain ⟨a5,k5,rfl,_⟩ := ho3.strsAt
  have S2 : Seats w2 V G lo v1 (.slice (some ⟨g2, 0,none⟩) 4 k2) (.slice a3 P.sk.rows.length k3) P o := HS2.out
  obtain ⟨q0,qf⟩ := S2.1.var2 seats_ty hg3
  have q1 := qf 1
  obtain ⟨S4,B4⟩ := S2.main hg3 ho3 (fun k e => .inl (by rw [← hn3]; exact e))
  have B4' : Hid (Below G w (w3.setCell ⟨V, 1,none⟩ (.slice a5 mr.length k5))) := B2.out.trans B4
  obtain ⟨w4,hw4⟩ : ∃ x,w3.setCell ⟨V, 1,none⟩ (.slice a5 mr.length k5) = x := ⟨_,rfl⟩
  have HW4 : Hid (w3.setCell ⟨V, 1,none⟩ (.slice a5 mr.length k5) = w4) := hw4
  rw [hw4] at S4 B4'
  obtain ⟨_,_,_,_,d4⟩ := S4.1.cells
  simp only [List.getElem?_cons_zero] at d4
  unfold outF at d4
  have cO := out_any w4 G m0 o S4.2.1
  have S5 := S4.out m0
  have B5 : Hid (Below G w (w4.setCell ⟨G, 0,none⟩ (.string m0))) := B4'.out.setCell (Nat.le_refl _) _
  obtain ⟨w5,hw5⟩ : ∃ x,w4.setCell ⟨G, 0,none⟩ (.string m0) = x := ⟨_,rfl⟩
  have HW5 : Hid (w4.setCell ⟨G, 0,none⟩ (.string m0) = w5) := hw5
  rw [hw5] at S5 B5 cO
  rw [← hw4] at d4
  obtain ⟨_,e1,_,_,_⟩ := S5.1.cells
  have HS5 : Hid (Seats w5 V G lo v1 (.slice a5 mr.length k5) (.slice a3 P.sk.rows.length k3) ⟨P.win,mr,P.sk⟩ m0) := S5
  have hO5 : OwnV w5 lo 9 (.slice a5 mr.length k5) (strs mr) := S5.1.2.2.1
  have hlo5 := S5.lo
  have HV : Hid (∀ w',w5.grownBy w' (Value.slice a5 mr.length k5).ownBlock → w'.cell? ⟨V, 1,none⟩ = some (.slice a5 mr.length k5) ∧ w'.frozen? ⟨V, 1,none⟩ = false) := fun w' hg => ⟨(S5.1.var2 seats_ty hg).1,(S5.1.var2 seats_ty hg).2 1⟩
  clear S2 S4 S5 B4 ho3 hn3 hg3 cD hw4 hw5 qf HS2 B2 B4'
  go_wp2_with (first
   | (go_at_fn 67; rw [HW4.out]; refine cO.mono ?_; rintro e w6 ⟨rfl,hw6⟩; rw [hw6])
   | (at_builtin; refine wpList_snocS rfl (.tmp 61) (.tmp 63) 27 rfl lo Tryz.underlying27 Tryz.infoSK _ mr rfl hO5 key rfl hml hlo5 ?_; intro g cap w7 ho7 hg7 hn7; obtain ⟨u0,u1⟩ := HV.out w7 hg7))
  have S5 : Seats w5 V G lo v1 (.slice a5 mr.length k5) (.slice a3 P.sk.rows.length k3) ⟨P.win,mr,P.sk⟩ m0 := HS5.out
  have HF := S5.main hg7 ho7 (fun k e => by simp only [Value.ownBlock,Option.some.injEq] at e; subst e; exact hn7)
  go_end0
  exact ⟨rfl,B5.out.trans HF.2,.inr ⟨HG.out,_,HF.1⟩⟩
theorem step_snocS {P : Program} {ops : Array Oper} {o : Oper} {a : Act} {K : Act → World → Prop} {Q : Exit → Act → World → Prop} {E : Prop} {wr : World} (hgd : o.guard = none) (s x : Operand) (t : TypeId)
  (ho : o.op = .call { callee := .builtin .append,args := #[s,x],argTypes := #[t,t] }) (base : Nat) (ht : P.underlying t = some (.slice 9))
  (hinfo : (P.info? 9).map (fun i => (i.zero,i.size,i.bytes)) = some (some (.string ⟨#[]⟩), 1, 16)) (v : Value) (L : List ByteArray) (hs : a.eval s = v) (hown : OwnV wr base 9 v (strs L))
  (y : ByteArray) (hx : a.eval x = .slice (some ⟨wr.heap.size, 0,none⟩) 1 1) (hlen : L.length ≤ 2000000) (hbase : base ≤ wr.heap.size)
  (h : ∀ g cap w',OwnV w' base 9 (.slice (some ⟨g, 0,none⟩) (L.length + 1) cap) (strs (L ++ [y])) → wr.grownBy w' v.ownBlock → (v.ownBlock = some g ∨ wr.heap.size ≤ g) → K (a.put o.dst (.slice (some ⟨g, 0,none⟩) (L.length + 1) cap)) w') :
  if Region.wanted o (yielded ops a.tmps) = true then Oper.wp P o a (wr.alloc (.cells #[.string y] 9)) K Q else E := by
 obtain ⟨i0,hi,hz0,hz1,hz2⟩ := info_parts hinfo
 have hO : (wr.alloc (.cells #[.string y] 9)).ownsRow base 9 1 v L.length (strs L) := by
  have h1 := OwnV.alloc hown (.cells #[.string y] 9)
  unfold OwnV at h1
  rw [strs_length] at h1
  exact h1
 refine step_append_lies _ hgd s x t ho base 9 i0 _ 1 16 ht hi hz0 hz1 hz2 rfl (by decide) v L.length (strs L) hs hO ⟨wr.heap.size, 0,none⟩ 1 1 [.string y] hx rfl (fun j u hj => ?_) (fun u hu => ?_) (by decide) (by unfold maxLen; omega) (by omega) (by simp; omega) (wr.heap.size + 1) (by simp) ?_
 ·match j,hj with
  | 0,hj => simp at hj; subst hj; simp [Addr.add]
 ·simp at hu; subst hu; rfl
 ·intro g cap w' h1 h2 h3 _
  refine h g cap w' ?_ (grown_alloc h2) ?_
  ·unfold OwnV
   rw [strs_append,List.length_append,strs_length]
   exact h1
  ·rcases h3 with h3 | h3
   ·exact .inl h3
   ·exact .inr (by omega)
def enterP (P : Pol) (key : ByteArray) : Pol × ByteArray := if P.win.length + 1 ≤ 2 then (⟨P.win ++ [key],P.main,P.sk⟩,noKey) else pushP (P.win ++ [key]).tail P.main P.sk (P.win.getD 0 noKey)
theorem settle_any (w : World) (V G lo : Nat) (v1 v2 v3 : Value) (P : Pol) (key : ByteArray) (h : Seats w V G lo v1 v2 v3 P noKey) (hm : P.main.length ≤ 4) (hs : P.sk.rows.length ≤ 1048576) (hk : key.size ≤ 1048576) (hz : ∀ z ∈ P.main,z.size ≤ 1048576) (ht : ∀ W,Below G w W → Tab W) :
  Calls Tryz.prog 99 #[.pointer (some ⟨V, 0,none⟩),.string key] w fun e w' => e = .returned (.tuple #[]) ∧ Below G w w' ∧ ∃ v1' v2' v3',Seats w' V G lo v1' v2' v3' (pushP P.win P.main P.sk key).1 (pushP P.win P.main P.sk key).2 := by
 by_cases h4 : P.main.length < 4
 ·refine (settle_room w V G lo v1 v2 v3 P noKey key h h4).mono ?_
  rintro e w' ⟨rfl,v2',hS,hB⟩
  refine ⟨rfl,hB,v1,v2',v3, ?_⟩
  unfold pushP
  rw [if_pos h4]
  exact hS
 ·obtain ⟨m0,mr,he⟩ : ∃ m0 mr,P.main = m0 :: mr := by
   cases hM : P.main with
   | nil => rw [hM] at h4; simp at h4
   | cons a r => exact ⟨a,r,rfl⟩
  refine (settle_full w V G lo v1 v2 v3 P noKey key m0 mr h (by omega) he hs hk (hz m0 (by rw [he]; exact List.mem_cons_self ..)) ht).mono ?_
  rintro e w' ⟨rfl,hB,hS⟩
  refine ⟨rfl,hB, ?_⟩
  unfold pushP
  rw [if_neg h4,show P.main.getD 0 noKey = m0 by rw [he]; rfl]
  rcases hS with ⟨hg,hS⟩ | ⟨hg,v2',hS⟩
  ·rw [if_neg (by omega)]
   exact ⟨v1,v2,v3,hS⟩
  ·rw [if_pos hg,show P.main.tail = mr by rw [he]; rfl]
   exact ⟨v1,v2',v3,hS⟩
set_option maxRecDepth 100000 in
set_option maxHeartbeats 4000000 in
theorem enter_any (w : World) (V G lo : Nat) (v1 v2 v3 : Value) (P : Pol) (key : ByteArray) (h : Seats w V G lo v1 v2 v3 P noKey) (hw : P.win.length ≤ 2) (hm : P.main.length ≤ 4) (hs : P.sk.rows.length ≤ 1048576) (hk : key.size ≤ 1048576) (hz : ∀ z ∈ P.win ++ P.main,z.size ≤ 1048576) (ht : ∀ W,Below G w W → Tab W) :
  Calls Tryz.prog 91 #[.pointer (some ⟨V, 0,none⟩),.string key] w fun e w' => e = .returned (.tuple #[]) ∧ Below G w w' ∧ ∃ v1' v2' v3',Seats w' V G lo v1' v2' v3' (enterP P key).1 (enterP P key).2 := by
 have HS : Hid (Seats w V G lo v1 v2 v3 P noKey) := h
 obtain ⟨b0,_,_,_,_⟩ := h.1.cells
 have hO1 := h.1.2.1
 obtain ⟨a1,k1,rfl,_⟩ := hO1.strsAt
 have HC : Hid (∀ wi,Calls Tryz.prog 34 #[.string key] wi fun e w' => e = .returned (.string key) ∧ Below wi.heap.size wi w') := fun wi => cloneS_any key wi (by omega)
 have hdr : Below w.heap.size w w.drew := ⟨rfl,rfl,rfl,Nat.le_refl _,fun _ _ => rfl⟩
 have hwl : P.win.length ≤ 2000000 := by omega
 have HON : Hid (∀ W,Below w.heap.size w W → Seats W V G lo (.slice a1 P.win.length k1) v2 v3 P noKey ∧ Below G w W) := fun W hW => ⟨h.on hW,hW.mono (by have := h.lo; have := h.2.2.1; omega)⟩
 have HX : Hid (P.win.length ≤ 2 ∧ P.main.length ≤ 4 ∧ P.sk.rows.length ≤ 1048576 ∧ (∀ z ∈ P.win ++ P.main,z.size ≤ 1048576) ∧ ∀ W,Below G w W → Tab W) := ⟨hw,hm,hs,hz,ht⟩
 clear h hw hm hs hz ht hO1
 go_enter Tryz.func91,Tryz.ntmps91
 go_wp2_with fail
 go_region_law (first
  | (go_simp; go_at_call 34; refine (HC.out _).mono ?_; rintro e w3 ⟨rfl,hb3⟩; obtain ⟨S3,B3⟩ := HON.out w3 (hdr.trans (hb3.mono hdr.size)); obtain ⟨c0,_,_,_,_⟩ := S3.1.cells; obtain ⟨c0',_,_,_,_⟩ := (S3.on (w' := w3.alloc (.cells #[.string key] 9)) ((Below.refl _ _).alloc (Nat.le_refl _) _)).1.cells)
  | (refine step_snocS rfl (.tmp 10) (.tmp 13) 27 rfl lo Tryz.underlying27 Tryz.infoSK _ P.win rfl S3.1.2.1 key rfl hwl S3.lo ?_; intro g cap w4 ho4 hg4 hn4; obtain ⟨q0,qf⟩ := S3.1.var1 seats_ty hg4; have q1 := qf 0))
 all_goals (
  obtain ⟨S5,B5⟩ := S3.win hg4 ho4 (fun k e => by simp only [Value.ownBlock,Option.some.injEq] at e; subst e; exact hn4)
  have HB5 : Hid (Below G w (w4.setCell ⟨V, 0,none⟩ (.slice (some ⟨g, 0,none⟩) (P.win.length + 1) cap))) := B3.trans B5
  obtain ⟨w5,hw5⟩ : ∃ x,w4.setCell ⟨V, 0,none⟩ (.slice (some ⟨g, 0,none⟩) (P.win.length + 1) cap) = x := ⟨_,rfl⟩
  rw [hw5] at S5 HB5 ⊢
  clear S3 B3 B5 hw5 c0 c0' q0 qf q1 hg4 ho4 hn4 hb3 hdr
  obtain ⟨n,hn⟩ : ∃ n,P.win.length + 1 = n := ⟨_,rfl⟩
  obtain ⟨l1,l2,l3,l4,l5⟩ := HX.out
  obtain ⟨d0,_,_,_,_⟩ := S5.1.cells
  rw [hn] at S5 d0 ⊢
  by_cases hn2 : n ≤ 2
  ·have hi : ¬ ((2 : Int) < (n : Int)) := by omega
   have HF : Hid (Seats w5 V G lo (.slice (some ⟨g, 0,none⟩) n cap) v2 v3 ⟨P.win ++ [key],P.main,P.sk⟩ noKey) := S5
   have HE : Hid (enterP P key = (⟨P.win ++ [key],P.main,P.sk⟩,noKey)) := by show _ = _; unfold enterP; rw [hn,if_pos hn2]
   clear S5 HX l1 l2 l3 l4 l5 HON HS b0 hn hwl
   go_wp2_with fail
   go_end0
   refine ⟨rfl,HB5.out,.slice (some ⟨g, 0,none⟩) n cap,v2,v3, ?_⟩
   rw [HE.out]
   exact HF.out
  ·have hi : ((2 : Int) < (n : Int)) := by omega
   obtain ⟨f,s,hfs⟩ : ∃ f s,P.win = [f,s] := by
    match hP : P.win with
    | [f,s] => exact ⟨f,s,rfl⟩
    | [] => rw [hP] at hn; simp at hn; omega
    | [_] => rw [hP] at hn; simp at hn; omega
    | _ :: _ :: _ :: _ => rw [hP] at l1; simp at l1
   have e1 : (P.win ++ [key]).tail = [s,key] := by rw [hfs]; rfl
   have e2 : P.win.getD 0 noKey = f := by rw [hfs]; rfl
   have hcf : w5.cell? ⟨g, 0,none⟩ = some (.string f) := by
    have hc := (S5.1.2.1.cell (j := 0) (by rw [strs_length]; simp)).1
    rw [hc]
    simp [hfs,strs]
   have cD := deleteFirst_any w5 lo _ (P.win ++ [key]) S5.1.2.1 (by simp)
   rw [e1] at cD
   have HE : Hid (enterP P key = pushP [s,key] P.main P.sk f) := by show _ = _; unfold enterP; rw [hn,if_neg hn2,e1,e2]
   have HS5 : Hid (Seats w5 V G lo (.slice (some ⟨g, 0,none⟩) n cap) v2 v3 ⟨P.win ++ [key],P.main,P.sk⟩ noKey) := S5
   have HFZ : Hid (f.size ≤ 1048576) := l4 f (by rw [hfs]; simp)
   clear S5 l1 l2 l3 l4 l5 HON HS b0 hn hwl hfs e1 e2
   go_wp2_with fail
   refine cD.mono ?_
   rintro e w6 ⟨v6,rfl,ho6,hn6,hg6⟩
   obtain ⟨a6,k6,rfl,_⟩ := ho6.strsAt
   have S5 : Seats w5 V G lo (.slice (some ⟨g, 0,none⟩) n cap) v2 v3 ⟨P.win ++ [key],P.main,P.sk⟩ noKey := HS5.out
   obtain ⟨u0,uf⟩ := S5.1.var1 seats_ty hg6
   have u1 := uf 0
   obtain ⟨S7,B7⟩ := S5.win hg6 ho6 (fun k e => .inl (by rw [← hn6]; exact e))
   have HB7 : Hid (Below G w (w6.setCell ⟨V, 0,none⟩ (.slice a6 [s,key].length k6))) := HB5.out.trans B7
   obtain ⟨w7,hw7⟩ : ∃ x,w6.setCell ⟨V, 0,none⟩ (.slice a6 [s,key].length k6) = x := ⟨_,rfl⟩
   have HW7 : Hid (w6.setCell ⟨V, 0,none⟩ (.slice a6 2 k6) = w7) := hw7
   rw [hw7] at S7 HB7
   obtain ⟨l1,l2,l3,l4,l5⟩ := HX.out
   have cS := settle_any w7 V G lo _ v2 v3 ⟨[s,key],P.main,P.sk⟩ f S7 l2 l3 HFZ.out (fun z hz => l4 z (List.mem_append_right _ hz)) (fun W hW => l5 W (HB7.out.trans hW))
   dsimp only at cS
   clear S5 S7 B7 hw7 ho6 hn6 hg6 uf l1 l2 l3 l4 l5 cD
   go_wp2_with fail
   rw [HW7.out]
   refine cS.mono ?_
   rintro e w8 ⟨rfl,hb8',v1',v2',v3',hS8⟩
   have hb8 := HB7.out.trans hb8'
   have HF : Hid _ := hS8
   clear hS8 cS hb8'
   go_wp2_with fail
   go_end0
   refine ⟨rfl,hb8,v1',v2',v3', ?_⟩
   rw [HE.out]
   exact HF.out)
theorem without_at {L : List ByteArray} {key : ByteArray} {k : Nat} (hn : L.Nodup) (hk : k < L.length) (h : L[k] = key) : without L key = L.take k ++ L.drop (k + 1) := by
 have e : L = L.take k ++ key :: L.drop (k + 1) := by
  rw [← h, ← List.drop_eq_getElem_cons hk,List.take_append_drop]
 rw [e] at hn
 rw [List.nodup_append,List.nodup_cons] at hn
 obtain ⟨_,⟨h2,_⟩,h3⟩ := hn
 have h1 : key ∉ L.take k := fun hm => h3 key hm key (List.mem_cons_self ..) rfl
 have e2 : without L key = without (L.take k ++ key :: L.drop (k + 1)) key := congrArg (fun l => without l key) e
 rw [e2]
 unfold without
 rw [List.filter_append,List.filter_cons]
 simp only [decide_true,Bool.not_true,Bool.false_eq_true,if_false]
 have f1 := without_none h1
 have f2 := without_none h2
 unfold without at f1 f2
 rw [f1,f2]
theorem Tryz.sizeStr : (Tryz.prog.info? 9).map (·.size) = some 1 := by kernel_rfl
theorem end_row {cur cs : List Value} {k n : Nat} {xs : List Value} {z : Value} (hx : cur.take n = xs) (hl : xs.length = n) (hc : n ≤ cur.length) (hk : k < n) (hcs : cs = xs.drop (k + 1)) : ((splice cur k cs).set (n - 1) z).take n = xs.take k ++ xs.drop (k + 1) ++ [z] := by
 have hcl : cs.length = n - (k + 1) := by rw [hcs,List.length_drop,hl]
 have e1 : splice cur k cs = (xs.take k ++ cs) ++ cur.drop (n - 1) := by
  unfold splice
  rw [← hx,List.take_take,Nat.min_eq_left (by omega),hcl,show k + (n - (k + 1)) = n - 1 by omega,List.append_assoc]
 have el : (xs.take k ++ cs).length = n - 1 := by rw [List.length_append,List.length_take,hcl,hl]; omega
 obtain ⟨y,hy⟩ : ∃ y,cur.drop (n - 1) = y :: cur.drop n := by
  refine ⟨cur[n - 1], ?_⟩
  rw [List.drop_eq_getElem_cons (by omega),show n - 1 + 1 = n by omega]
 rw [e1,List.set_append_right _ _ (by omega),el,Nat.sub_self,hy,List.set_cons_zero, ← hcs]
 rw [show (xs.take k ++ cs) ++ z :: cur.drop n = ((xs.take k ++ cs) ++ [z]) ++ cur.drop n by simp]
 rw [List.take_append_of_le_length (by rw [List.length_append,el]; simp; omega)]
 exact List.take_of_length_le (by rw [List.length_append,el]; simp; omega)
theorem heap_put' {w : World} {V : Nat} {cs : Array Value} {ty : TypeId} (h : w.heap[V]? = some (.cells cs ty (0, 0))) (i : Nat) (x : Value) : (w.setCell ⟨V,i,none⟩ x).heap[V]? = some (.cells (cs.setIfInBounds i x) ty (0, 0)) := by
 simp only [World.setCell,Array.getElem?_modify,h]
 simp
set_option maxRecDepth 100000 in
set_option maxHeartbeats 4000000 in
theorem toEnd_row (w : World) (base g c : Nat) (L : List ByteArray) (cur : List Value) (key : ByteArray) (hg : w.heap[g]? = some (.cells cur.toArray 9 (0, 0))) (hcur : cur.length = c) (htk : cur.take L.length = strs L) (hcap : c ≤ maxLen) (hbg : base ≤ g) (hnc : L.length ≤ c) (hm : L.length ≤ 1048576) (hnd : L.Nodup) :
  Calls Tryz.prog 90 #[.slice (some ⟨g, 0,none⟩) L.length c,.string key] w fun e w' => (inL L key = false ∧ e = .returned (.bool false) ∧ w' = w) ∨ (inL L key = true ∧ e = .returned (.bool true) ∧ OwnV w' base 9 (.slice (some ⟨g, 0,none⟩) L.length c) (strs (without L key ++ [key])) ∧ w.grownBy w' (some g)) := by
 have hgs := (Array.getElem?_eq_some_iff.1 hg).1
 have hL : LAt w (some ⟨g, 0,none⟩) L w.heap.size := fun j hj => by
  refine ⟨g, 0,rfl,hgs, ?_⟩
  rw [Nat.zero_add,cell_of_row w g j _ _ (0, 0) hg]
  have h1 : (cur.take L.length)[j]? = (strs L)[j]? := by rw [htk]
  rw [List.getElem?_take_of_lt hj,List.getElem?_eq_getElem (l := strs L) (by rw [strs_length]; exact hj),strs_at hj] at h1
  simpa using h1
 have c1 := indexS_any w (some ⟨g, 0,none⟩) c L key hL (by omega)
 go_enter Tryz.func90,Tryz.ntmps90
 go_wp2_with fail
 refine c1.mono ?_
 rintro e w' ⟨r,rfl,hw',h⟩
 rw [hw']
 clear c1 hw'
 rcases h with ⟨rfl,h⟩ | ⟨k,hk,rfl,h1,h2⟩
 ·have HI : Hid (inL L key = false) := h
  clear h
  go_wp2_with fail
  go_ret
  exact .inl ⟨HI.out,rfl,rfl⟩
 ·have HI : Hid (inL L key = true) := inL_iff.2 (by rw [← h1]; exact List.getElem_mem hk)
  have HWA : Hid (without L key = L.take k ++ L.drop (k + 1)) := without_at hnd hk h1
  have hck : w.cell? ⟨g,k,none⟩ = some (.string key) := by
   obtain ⟨g',off,e1,_,e2⟩ := hL k hk
   simp only [Option.some.injEq,Addr.mk.injEq,and_true] at e1
   rw [← e1.1, ← e1.2,Nat.zero_add] at e2
   rw [e2,h1]
  obtain ⟨D,hD⟩ : ∃ D,(strs L).drop (k + 1) = D := ⟨_,rfl⟩
  have hDl : D.length = L.length - (k + 1) := by rw [← hD,List.length_drop,strs_length]
  have hsrc0 : ∀ j v,D[j]? = some v → w.cell? ⟨g,k + 1 + j,none⟩ = some v := fun j v hv => by
   have hjl : j < D.length := (List.getElem?_eq_some_iff.1 hv).1
   rw [cell_of_row w g (k + 1 + j) _ _ (0, 0) hg]
   rw [← hD,List.getElem?_drop, ← htk,List.getElem?_take_of_lt (by omega)] at hv
   simpa using hv
  obtain ⟨A,hA,hsrc⟩ : ∃ A : Addr,(if c = k + 1 then some (⟨g, 0,none⟩ : Addr) else some ⟨g,k + 1,none⟩) = some A ∧ Hid (∀ j v,D[j]? = some v → w.drew.cell? (A.add j) = some v) := by
   by_cases h : c = k + 1
   ·refine ⟨⟨g, 0,none⟩,by simp [h],fun t u hu => ?_⟩
    have h0 : D.length = 0 := by rw [hDl]; omega
    rw [List.length_eq_zero_iff.1 h0] at hu
    simp at hu
   ·exact ⟨⟨g,k + 1,none⟩,by simp [h],fun j v hv => by rw [Addr.add_mid]; exact hsrc0 j v hv⟩
  have HDl : Hid (D.length = L.length - (k + 1)) := hDl
  have HD : Hid ((strs L).drop (k + 1) = D) := hD
  have s2 : Hid (∀ v ∈ D,v.oneCell' = true) := by
   intro v hv
   rw [← hD] at hv
   have hv' := List.mem_of_mem_drop hv
   simp only [strs,List.mem_map] at hv'
   obtain ⟨b,_,rfl⟩ := hv'
   rfl
  have HG : Hid (w.drew.heap[g]? = some (.cells cur.toArray 9 (0, 0)) ∧ cur.length = c ∧ cur.take L.length = strs L ∧ w.heap.size = w.drew.heap.size) := ⟨hg,hcur,htk,rfl⟩
  have hdb : Hid (Below g w w.drew) := ⟨rfl,rfl,rfl,Nat.le_refl _,fun _ _ => rfl⟩
  have hw1 : IntKind.i64.wrap ((k : Int) + 1) = (k : Int) + 1 := by rw [IntKind.wrap_i64]; omega
  have hw2 : IntKind.i64.wrap ((L.length : Int) - 1) = (L.length : Int) - 1 := by rw [IntKind.wrap_i64]; omega
  have hn0 : ¬ ((k : Int) < 0) := by omega
  have hi1 : (0 : Int) ≤ (k : Int) := by omega
  have hi2 : (k : Int) < (L.length : Int) := by omega
  have hi3 : (k : Int) ≤ (L.length : Int) := by omega
  have hi4 : (L.length : Int) ≤ (c : Int) := by omega
  have hi5 : (0 : Int) ≤ (k : Int) + 1 := by omega
  have hi6 : (k : Int) + 1 ≤ (L.length : Int) := by omega
  have htn : ((k : Int) + 1).toNat = k + 1 := by omega
  have hl1 : (0 : Int) ≤ (L.length : Int) - 1 := by omega
  have hl2 : (L.length : Int) - 1 < (L.length : Int) := by omega
  have hl3 : ((L.length : Int) - 1).toNat = L.length - 1 := by omega
  have hd1 : ¬ (c = k) := by omega
  have HK : Hid (k < L.length ∧ L.length ≤ c) := ⟨hk,hnc⟩
  clear h1 h2 hk hL hg hcur htk hgs hD hDl hsrc0 hnd
  go_wp2_with fail
  go_region_law (refine step_copy_spliceN rfl (.tmp 18) (.tmp 22) 27 27 rfl 9 1 Tryz.underlying27 Tryz.sizeStr (L.length - k) (c - k) (L.length - (k + 1)) (c - (k + 1)) g k A (by simp [Act.eval,Act.put]) (by simp [Act.eval,Act.put]) cur 9 HG.out.1 D (by rw [HDl.out,Nat.mul_one]; simp only [Nat.min_def]; split <;> omega) hsrc.out (by rw [HDl.out,HG.out.2.1]; have := HK.out; omega) s2.out g w hdb.out (Nat.le_refl _) ?_; rintro w4 h4 hb4)
  obtain ⟨hrow,hoth⟩ := h4.out
  obtain ⟨_,hcl,htk,_⟩ := HG.out
  have hk := HK.out
  have hsl : (splice cur k D).length = c := by rw [length_splice _ _ _ (by rw [HDl.out,hcl]; omega),hcl]
  have q0 : ∃ y,w4.cell? ⟨g,L.length - 1,none⟩ = some y := by
   refine ⟨(splice cur k D)[L.length - 1]'(by rw [hsl]; omega), ?_⟩
   rw [cell_of_row w4 g (L.length - 1) _ _ (0, 0) hrow]
   simp
  obtain ⟨y,q0⟩ := q0
  have q1 : w4.frozen? ⟨g,L.length - 1,none⟩ = false := by simp [World.frozen?,hrow]
  have HF : Hid (OwnV (w4.setCell ⟨g,L.length - 1,none⟩ (.string key)) base 9 (.slice (some ⟨g, 0,none⟩) L.length c) (strs (without L key ++ [key])) ∧ w.grownBy (w4.setCell ⟨g,L.length - 1,none⟩ (.string key)) (some g)) := by
   have hln : (without L key ++ [key]).length = L.length := by rw [HWA.out]; simp; omega
   refine ⟨?_,⟨hb4.os,hb4.tape,hb4.output,by simpa [World.setCell] using hb4.size,fun j hj hn => ?_⟩⟩
   ·unfold OwnV
    rw [strs_length,hln]
    refine ⟨by rw [strs_length,hln,Nat.mul_one],.inr ⟨g,c,_,rfl,hbg,heap_put' hrow (L.length - 1) (.string key),by omega,hcap, ?_, ?_⟩⟩
    ·simp [hsl]
    ·have e := end_row (z := .string key) htk (strs_length L) (by omega) hk.1 HD.out.symm
     rw [Nat.mul_one,HWA.out]
     simp only [Array.toList_setIfInBounds]
     rw [e]
     simp [strs]
   ·have hjg : j ≠ g := fun e => hn (by rw [e])
    rw [Below.heap_setCell _ _ _ _ (by exact hjg)]
    exact hoth j hjg
  clear hrow hoth h4 hcl htk hk hsl hb4 HD HDl HG hsrc s2 HWA hA
  go_wp2_with fail
  go_ret
  exact .inr ⟨HI.out,rfl,HF.out.1,HF.out.2⟩
theorem toEnd_any (w : World) (base : Nat) (v : Value) (L : List ByteArray) (key : ByteArray) (ho : OwnV w base 9 v (strs L)) (hm : L.length ≤ 1048576) (hnd : L.Nodup) :
  Calls Tryz.prog 90 #[v,.string key] w fun e w' => (inL L key = false ∧ e = .returned (.bool false) ∧ w' = w) ∨ (inL L key = true ∧ e = .returned (.bool true) ∧ OwnV w' base 9 v (strs (without L key ++ [key])) ∧ w.grownBy w' v.ownBlock) := by
 rcases ho.2 with ⟨rfl,h0⟩ | ⟨g,c,cur,rfl,h1,h2,h3,h4,h5,h6⟩
 ·rw [strs_length] at h0
  have hl : L = [] := List.length_eq_zero_iff.1 h0
  subst hl
  have c1 := indexS_any w none 0 [] key (fun j hj => by simp at hj) (by simp)
  go_enter Tryz.func90,Tryz.ntmps90
  go_wp2_with fail
  refine c1.mono ?_
  rintro e w' ⟨r,rfl,hw',h⟩
  rw [hw']
  clear c1 hw'
  rcases h with ⟨rfl,h⟩ | ⟨k0,hk0,_⟩
  ·go_wp2_with fail
   go_ret
   exact .inl ⟨rfl,rfl,rfl⟩
  ·simp at hk0
 ·rw [strs_length] at h3 h6 ⊢
  have h2' : w.heap[g]? = some (.cells cur.toList.toArray 9 (0, 0)) := by simpa using h2
  exact toEnd_row w base g c L cur.toList key h2' (by simpa using h5) (by rw [Nat.mul_one] at h6; exact h6) h4 h1 h3 hm hnd
end Go.Proofs.YtaahjcljanckaaaGreatDoor
