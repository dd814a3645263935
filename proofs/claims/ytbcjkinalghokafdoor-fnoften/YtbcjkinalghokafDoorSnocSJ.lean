/- Texts that stand in one: SnocS, SeatKit. -/
import Derived.Test.YtbcjkinalghokafDoorStrsJ
import Derived.Test.YtbcjkinalghokafDoorPolSizesJ
import Derived.Test.YtbcjkinalghokafDoorSkStepJ
import Derived.Test.YtbcjkinalghokafDoorShelf
import Derived.Test.YtbcjkinalghokafDoorPolHoldJ
import Derived.Test.YtbcjkinalghokafDoorSkPlainJ
import Derived.Shelf.Abstract
namespace Go.Proofs.YtbcjkinalghokafDoor
open Go.RowKit Go.Sort

theorem grown_alloc {w w' : World} {o : Obj} {row : Option Nat} (h : (w.alloc o).grownBy w' row) : w.grownBy w' row := by
  have h0 : w.grownBy (w.alloc o) row := grownBy_below ((Below.refl _ _).alloc (Nat.le_refl _) _)
  exact grownBy_trans h0 h
/-- 'append(v, y)'. -/
theorem wpList_snocS {P : Program} {ops : Array Oper} {rest : List Oper} {o : Oper} {a : Act} {Q : Exit → Act → World → Prop} {wr : World} (hgd : o.guard = none) (s x : Operand) (t : TypeId)
    (ho : o.op = .call { callee := .builtin .append, args := #[s, x], argTypes := #[t, t] }) (base : Nat) (ht : P.underlying t = some (.slice 9))
    (hinfo : (P.info? 9).map (fun i => (i.zero, i.size, i.bytes)) = some (some (.string ⟨#[]⟩), 1, 16)) (v : Value) (L : List ByteArray) (hs : a.eval s = v) (hown : OwnV wr base 9 v (strs L))
    (y : ByteArray) (hx : a.eval x = .slice (some ⟨wr.heap.size, 0, none⟩) 1 1) (hlen : L.length ≤ 2000000) (hbase : base ≤ wr.heap.size)
    (h : ∀ g cap w', OwnV w' base 9 (.slice (some ⟨g, 0, none⟩) (L.length + 1) cap) (strs (L ++ [y])) → wr.grownBy w' v.ownBlock → (v.ownBlock = some g ∨ wr.heap.size ≤ g) → wpList P ops Q rest (a.put o.dst (.slice (some ⟨g, 0, none⟩) (L.length + 1) cap)) w') :
    wpList P ops Q (o :: rest) a (wr.alloc (.cells #[.string y] 9)) := by
  obtain ⟨i0, hi, hz0, hz1, hz2⟩ := info_parts hinfo
  have hO : (wr.alloc (.cells #[.string y] 9)).ownsRow base 9 1 v L.length (strs L) := by
    have h1 := OwnV.alloc hown (.cells #[.string y] 9)
    unfold OwnV at h1
    rw [strs_length] at h1
    exact h1
  refine wpList_append_lies _ hgd s x t ho base 9 i0 _ 1 16 ht hi hz0 hz1 hz2 rfl (by decide) v L.length (strs L) hs hO ⟨wr.heap.size, 0, none⟩ 1 1 [.string y] hx rfl (fun j u hj => ?_) (fun u hu => ?_) (by decide) (by unfold maxLen; omega) (by omega) (by simp; omega) (wr.heap.size + 1) (by simp) ?_
  · match j, hj with
    | 0, hj => simp at hj; subst hj; simp [Addr.add]
  · simp at hu; subst hu; rfl
  · intro g cap w' h1 h2 h3 _
    refine h g cap w' ?_ (grown_alloc h2) ?_
    · unfold OwnV
      rw [strs_append, List.length_append, strs_length]
      exact h1
    · rcases h3 with h3 | h3
      · exact .inl h3
      · exact .inr (by omega)
theorem strsOf_strs (L : List ByteArray) : (Lib.strsOf (fun i => L.getD i noKey) L.length).map encStr = strs L := by
  apply List.ext_getElem
  · simp [Lib.strsOf, strs]
  · intro i h1 h2
    have hi : i < L.length := by simpa [strs] using h2
    simp [Lib.strsOf, strs, encStr, List.getD_eq_getElem?_getD, hi]
/-- The first of an own list goes. -/
theorem deleteFirst_any (w : World) (base : Nat) (v : Value) (L : List ByteArray) (ho : OwnV w base 9 v (strs L)) (hl : 0 < L.length) :
    Calls Tryd.prog 78 #[v, .int .i64 0, .int .i64 1] w fun e w' => ∃ v', e = .returned v' ∧ OwnV w' base 9 v' (strs L.tail) ∧ v'.ownBlock = v.ownBlock ∧ w.grownBy w' v.ownBlock := by
  rcases ho.2 with ⟨rfl, h0⟩ | ⟨g, c, cur, rfl, h1, h2, h3, h4, h5, h6⟩
  · rw [strs_length] at h0; omega
  · rw [strs_length] at h3 h6 ho ⊢
    have hc := Tryd.slices_Delete_string_cells g 0 L.length c 0 1 (fun i => L.getD i noKey) w h3 (by unfold maxLen at h4; omega) (by omega) (by omega)
      (fun i hi => by
        rw [Nat.zero_add, (ho.cell (j := i) (by rw [strs_length]; exact hi)).1, strs_at hi]
        simp [List.getD_eq_getElem?_getD, hi])
      (fun i hi => by rw [Nat.zero_add]; exact (ho.cell (j := i) (by rw [strs_length]; exact hi)).2.1)
    refine hc.mono ?_
    rintro e w' ⟨rfl, q, rfl⟩
    have hv : (((Lib.strsOf (fun i => L.getD i noKey) L.length).take 0 ++ (Lib.strsOf (fun i => L.getD i noKey) L.length).drop 1 ++ List.replicate (1 - 0) []).map encStr) = strs (L.drop 1) ++ [Value.string ⟨#[]⟩] := by
      rw [List.take_zero, List.nil_append, List.map_append, List.map_drop, strsOf_strs]
      simp [strs, encStr]
    rw [hv]
    have ho' : OwnV (w.drewN q) base 9 (.slice (some ⟨g, 0, none⟩) L.length c) (strs L) := ho
    obtain ⟨ys, e1, _, e3, _, e5, e6⟩ := OwnV.storedAll (strs (L.drop 1) ++ [Value.string ⟨#[]⟩]) 0 (w.drewN q) (strs L) ho' (by rw [strs_length])
    have hcut := e5.cut (by rw [e1, strs_length]) (L.length - 1) (by omega)
    have hgw : w.grownBy (w.drewN q) (some g) := ⟨rfl, rfl, rfl, Nat.le_refl _, fun _ _ _ => rfl⟩
    refine ⟨_, rfl, ?_, rfl, grownBy_trans hgw e6⟩
    rw [show L.length - (1 - 0) = L.length - 1 by omega]
    have ht : ys.take (L.length - 1) = strs L.tail := by
      apply List.ext_getElem?
      intro i
      by_cases hi : i < L.length - 1
      · rw [List.getElem?_take_of_lt hi]
        have := e3 i (by simp [strs]; omega) (by rw [strs_length]; omega)
        rw [Nat.zero_add] at this
        rw [this, List.getElem?_append_left (by simp [strs]; omega)]
        simp [strs]
      · rw [List.getElem?_eq_none (by rw [List.length_take]; omega), List.getElem?_eq_none (by simp [strs]; omega)]
    rw [ht] at hcut
    exact hcut
end Go.Proofs.YtbcjkinalghokafDoor

namespace Go.Proofs.YtbcjkinalghokafDoor
open Go.RowKit Go.Sort

def outF (G : Nat) : Value := .func (.func 29) #[] #[.pointer (some ⟨G, 0, none⟩)]
theorem out_eg : ∀ args w, (callFunc 29 args).run Tryd.prog w = .ok (.enter 29 args) w := enters_of Tryd.func29 (by kernel_rfl) rfl
theorem one_cell {w : World} {G : Nat} {x : Value} {t : TypeId} (h : w.heap[G]? = some (.cells #[x] t (0, 0))) : w.cell? ⟨G, 0, none⟩ = some x ∧ w.frozen? ⟨G, 0, none⟩ = false := by
  exact ⟨by rw [cell_of_row w G 0 _ _ (0, 0) h]; rfl, by simp [World.frozen?, h]⟩
theorem out_any (W : World) (G : Nat) (x y : ByteArray) (h : W.heap[G]? = some (.cells #[.string y] 9 (0, 0))) :
    Calls Tryd.prog 29 #[.string x, .pointer (some ⟨G, 0, none⟩)] W fun e w' => e = .returned (.tuple #[]) ∧ w' = W.setCell ⟨G, 0, none⟩ (.string x) := by
  obtain ⟨c0, f0⟩ := one_cell h
  go_enter Tryd.func29, Tryd.ntmps29
  go_wp2
  go_end0
  exact ⟨rfl, rfl⟩
/-- The seats in their variable, and the variable of who is out. -/
def Seats (w : World) (V G lo : Nat) (v1 v2 v3 : Value) (P : Pol) (out : ByteArray) : Prop :=
  PHold w V 52 [outF G] lo v1 v2 v3 P ∧ w.heap[G]? = some (.cells #[.string out] 9 (0, 0)) ∧ G < lo ∧ lo ≤ V
theorem seats_ty : tyOk 52 := by unfold tyOk; decide
theorem Seats.out {w : World} {V G lo : Nat} {v1 v2 v3 : Value} {P : Pol} {o : ByteArray} (h : Seats w V G lo v1 v2 v3 P o) (x : ByteArray) : Seats (w.setCell ⟨G, 0, none⟩ (.string x)) V G lo v1 v2 v3 P x := by
  obtain ⟨h1, h2, h3, h4⟩ := h
  refine ⟨h1.far h2 (.inr h3) (by omega) (fun k hk => Below.heap_setCell _ _ _ _ (by exact hk)) (by simp [World.setCell]), ?_, h3, h4⟩
  rw [heap_put h2]; simp
theorem Seats.on {w w' : World} {V G lo : Nat} {v1 v2 v3 : Value} {P : Pol} {o : ByteArray} (h : Seats w V G lo v1 v2 v3 P o) (hb : Below w.heap.size w w') : Seats w' V G lo v1 v2 v3 P o :=
  ⟨h.1.on hb, (hb.block G (Array.getElem?_eq_some_iff.1 h.2.1).1).trans h.2.1, h.2.2⟩
theorem Seats.lo {w : World} {V G lo : Nat} {v1 v2 v3 : Value} {P : Pol} {o : ByteArray} (h : Seats w V G lo v1 v2 v3 P o) : lo ≤ w.heap.size := by
  have := h.1.lt
  have := h.2.2.2
  omega
/-- What happens to one of its lists leaves the other variable. -/
theorem Seats.gone1 {w w' : World} {V G lo : Nat} {v1 v2 v3 : Value} {P : Pol} {o : ByteArray} (h : Seats w V G lo v1 v2 v3 P o) (hg : w.grownBy w' v1.ownBlock) (i : Nat) (x : Value) : (w'.setCell ⟨V, i, none⟩ x).heap[G]? = some (.cells #[.string o] 9 (0, 0)) := by
  have h3 := h.2.2.1
  have h4 := h.2.2.2
  rw [Below.heap_setCell _ _ _ _ (by show G ≠ V; omega), hg.block G (Array.getElem?_eq_some_iff.1 h.2.1).1 (fun e => by have := (h.1.2.1.lt G e.symm).1; omega)]
  exact h.2.1
theorem Seats.gone2 {w w' : World} {V G lo : Nat} {v1 v2 v3 : Value} {P : Pol} {o : ByteArray} (h : Seats w V G lo v1 v2 v3 P o) (hg : w.grownBy w' v2.ownBlock) (i : Nat) (x : Value) : (w'.setCell ⟨V, i, none⟩ x).heap[G]? = some (.cells #[.string o] 9 (0, 0)) := by
  have h3 := h.2.2.1
  have h4 := h.2.2.2
  rw [Below.heap_setCell _ _ _ _ (by show G ≠ V; omega), hg.block G (Array.getElem?_eq_some_iff.1 h.2.1).1 (fun e => by have := (h.1.2.2.1.lt G e.symm).1; omega)]
  exact h.2.1
theorem Seats.win {w w' : World} {V G lo : Nat} {v1 v2 v3 v1' : Value} {P : Pol} {o : ByteArray} {W' : List ByteArray} (h : Seats w V G lo v1 v2 v3 P o) (hg : w.grownBy w' v1.ownBlock) (ho : OwnV w' lo 9 v1' (strs W')) (hn : ∀ k, v1'.ownBlock = some k → v1.ownBlock = some k ∨ w.heap.size ≤ k) :
    Seats (w'.setCell ⟨V, 0, none⟩ v1') V G lo v1' v2 v3 ⟨W', P.main, P.sk⟩ o ∧ Below G w (w'.setCell ⟨V, 0, none⟩ v1') := by
  have h3 := h.2.2.1
  have h4 := h.2.2.2
  have h5 := h.lo
  refine ⟨⟨h.1.setWin seats_ty hg ho hn, h.gone1 hg 0 _, h.2.2⟩, ?_⟩
  exact ((Below.refl G w).grown hg (by omega) (fun k e => by have := (h.1.2.1.lt k e).1; omega)).setCell (by show G ≤ V; omega) _
theorem Seats.main {w w' : World} {V G lo : Nat} {v1 v2 v3 v2' : Value} {P : Pol} {o : ByteArray} {W' : List ByteArray} (h : Seats w V G lo v1 v2 v3 P o) (hg : w.grownBy w' v2.ownBlock) (ho : OwnV w' lo 9 v2' (strs W')) (hn : ∀ k, v2'.ownBlock = some k → v2.ownBlock = some k ∨ w.heap.size ≤ k) :
    Seats (w'.setCell ⟨V, 1, none⟩ v2') V G lo v1 v2' v3 ⟨P.win, W', P.sk⟩ o ∧ Below G w (w'.setCell ⟨V, 1, none⟩ v2') := by
  have h3 := h.2.2.1
  have h4 := h.2.2.2
  have h5 := h.lo
  refine ⟨⟨h.1.setMain seats_ty hg ho hn, h.gone2 hg 1 _, h.2.2⟩, ?_⟩
  exact ((Below.refl G w).grown hg (by omega) (fun k e => by have := (h.1.2.2.1.lt k e).1; omega)).setCell (by show G ≤ V; omega) _
end Go.Proofs.YtbcjkinalghokafDoor
