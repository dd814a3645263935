/- Texts that stand in one: AnswerDraw, ChunkKit. -/
import Derived.Test.YtnnaphfeeobelaeGreatDoorHeadAny
import Derived.Deep.RegionLaw
import Derived.Test.YtnnaphfeeobelaeGreatDoorBaseJ
import Derived.Lib.AppendStr
import Derived.Lib.Strings
namespace Go.Proofs.YtnnaphfeeobelaeGreatDoor
open Go.RowKit Go.Sort
set_option maxRecDepth 100000 in
set_option maxHeartbeats 8000000 in
theorem drawAnswer_any (w : World) (ca : Option Addr) (n cap : Nat) (hcode : CodeAt w ca n w.heap.size) (hn : n ≤ 1048576) :
    Calls Tryz.prog 12 #[.slice ca n cap] w fun e w' => ∃ (line : ByteArray) (a : Option Addr) (c : Nat) (L : List (ByteArray × ByteArray)) (t : ByteArray), e = .returned (.tuple #[.agg #[.string line, .slice a L.length c], .string t]) ∧ HdSz line L ∧ t.size ≤ 401 ∧ DAt w' a L w'.heap.size ∧ Below w.heap.size w w' := by
  obtain ⟨w1, hw1⟩ : ∃ x, w.alloc (.cells #[.string ⟨#[]⟩, .slice none 0 0] 32) = x := ⟨_, rfl⟩
  have hb1 : Below w.heap.size w w1 := by rw [← hw1]; exact (Below.refl _ _).alloc (Nat.le_refl _) _
  have hR1 : HBx w1 w.heap.size 32 (.string ⟨#[]⟩) (.slice none 0 0) := by rw [← hw1]; exact HBx.new _ _ _ _
  have hc1 : CodeAt w1 ca n w1.heap.size := by
    intro j hj
    obtain ⟨b, off, z, h1, h2, h3, h4⟩ := hcode j hj
    exact ⟨b, off, z, h1, Nat.lt_of_lt_of_le h2 hb1.size, (hb1.cell (p := ⟨b, off + j, none⟩) h2).trans h3, h4⟩
  have c1 := new_any w1 ca n cap hc1 hn
  have HW : Hid (w.alloc (.cells #[.string ⟨#[]⟩, .slice none 0 0] 32) = w1) := hw1
  clear hcode hw1 hc1
  go_enter Tryz.func12, Tryz.ntmps12
  go_wp2_with fail
  rw [HW.out]
  refine c1.mono ?_
  rintro e w2 ⟨p, rfl, hp1, hp2, hc2, hcd2, hb2⟩
  have hR2 := hR1.on hb2
  have hb12 := hb1.trans (hb2.mono hb1.size)
  have hlt1 := hR1.lt
  have c2 := below_any w2 p ca n cap 30 hc2 hcd2 hn (by omega) (by omega)
  clear c1 hb1 hR1 HW
  go_wp2_with fail
  refine c2.mono ?_
  rintro e w3 ⟨k, hk, _, rfl, hl3⟩
  have hk2 := hk (by omega)
  have c3 := once_any w3 p ca n cap 10 hl3.1 hl3.2.1 hn (by omega) (by omega)
  clear c2 hk
  go_wp2_with fail
  refine c3.mono ?_
  rintro e w4 ⟨b, rfl, hl4⟩
  have hl24 := hl3.trans hl4
  clear c3 hl3 hl4
  cases b with
  | false =>
    have c5 := l09Any_any w4 p ca n cap hl24.1 hl24.2.1 hn
    go_wp2_with fail
    refine c5.mono ?_
    rintro e w6 ⟨line, v, L, rfl, hsm, ho6, hl6⟩
    have hl26 := hl24.trans hl6
    have hs6 := hl26.2.2.size
    have c6 := long_any w6 (k : Int) 98 (by omega) (by omega) (by omega) (by omega)
    clear c5
    go_wp2_with fail
    refine c6.mono ?_
    rintro e w7 ⟨z, hz, rfl, hb7⟩
    have hlt := hR2.lt
    have hR6 : HBx w6 w.heap.size 32 (.string ⟨#[]⟩) (.slice none 0 0) := hR2.kept (hl26.2.2.block _ hlt (fun e => by cases e; omega))
    have hR7 := hR6.on hb7
    have hb6 : Below w.heap.size w w6 := below_of_left hb12 (by omega) hl26
    have hb7w : Below w.heap.size w w7 := hb6.trans (hb7.mono hb6.size)
    have ho7 := ho6.below hb7 (Nat.le_refl _)
    obtain ⟨a, c, rfl, _⟩ := ho6.at
    obtain ⟨r0, r1⟩ := hR7.cells
    have f0 := hR7.thaw 0
    have f1 := hR7.thaw 1
    have HP : Hid (SmD line L ∧ z.size ≤ 401) := ⟨hsm, by omega⟩
    have HB7 : Hid (HBx w7 w.heap.size 32 (.string ⟨#[]⟩) (.slice none 0 0) ∧ OwnD w7 w4.heap.size 29 (.slice a L.length c) L ∧ Below w.heap.size w w7) := ⟨hR7, ho7, hb7w⟩
    clear c6 ho6 ho7 hl6 hl26 hR6 hR7 hb6 hb7 hb7w hz hsm hR2 hb12
    go_wp2_with fail
    obtain ⟨hR, ho, hb⟩ := HB7.out
    obtain ⟨q0, q1⟩ := (hR.put (.string line) (.slice a L.length c)).cells
    refine bodyPost_ret (v := .tuple #[.agg #[.string line, .slice a L.length c], .string z]) (by simp [results, Tryz.results12, go_sem, q0, q1]) rfl ?_
    have hO := ho.kept (w' := (w7.setCell ⟨w.heap.size, 0, none⟩ (.string line)).setCell ⟨w.heap.size, 1, none⟩ (.slice a L.length c)) fun k hk => put2_other _ _ _ _ k (hR.neD (by decide) ho k hk)
    obtain ⟨a9, c9, e9, hD9⟩ := hO.at
    injection e9 with e1 _ _
    rw [← e1] at hD9
    have hB := (hb.setCell (p := ⟨w.heap.size, 0, none⟩) (Nat.le_refl _) (.string line)).setCell (p := ⟨w.heap.size, 1, none⟩) (Nat.le_refl _) (.slice a L.length c)
    exact ⟨line, _, _, L, z, rfl, HP.out.1.sz, HP.out.2, hD9, hB⟩
  | true =>
    have c4 := below_any w4 p ca n cap 2 hl24.1 hl24.2.1 hn (by omega) (by omega)
    go_wp2_with fail
    refine c4.mono ?_
    rintro e w5 ⟨k2, hk3, _, rfl, hl5⟩
    have hk4 := hk3 (by omega)
    have hl25 := hl24.trans hl5
    clear c4 hk3
    have c5 := l09Any_any w5 p ca n cap hl25.1 hl25.2.1 hn
    go_wp2_with fail
    refine c5.mono ?_
    rintro e w6 ⟨line, v, L, rfl, hsm, ho6, hl6⟩
    have hl26 := hl25.trans hl6
    have hs6 := hl26.2.2.size
    have c6 := long_any w6 (400 + (k2 : Int)) 98 (by omega) (by omega) (by omega) (by omega)
    clear c5
    go_wp2_with fail
    refine c6.mono ?_
    rintro e w7 ⟨z, hz, rfl, hb7⟩
    have hlt := hR2.lt
    have hR6 : HBx w6 w.heap.size 32 (.string ⟨#[]⟩) (.slice none 0 0) := hR2.kept (hl26.2.2.block _ hlt (fun e => by cases e; omega))
    have hR7 := hR6.on hb7
    have hb6 : Below w.heap.size w w6 := below_of_left hb12 (by omega) hl26
    have hb7w : Below w.heap.size w w7 := hb6.trans (hb7.mono hb6.size)
    have ho7 := ho6.below hb7 (Nat.le_refl _)
    obtain ⟨a, c, rfl, _⟩ := ho6.at
    obtain ⟨r0, r1⟩ := hR7.cells
    have f0 := hR7.thaw 0
    have f1 := hR7.thaw 1
    have HP : Hid (SmD line L ∧ z.size ≤ 401) := ⟨hsm, by omega⟩
    have HB7 : Hid (HBx w7 w.heap.size 32 (.string ⟨#[]⟩) (.slice none 0 0) ∧ OwnD w7 w5.heap.size 29 (.slice a L.length c) L ∧ Below w.heap.size w w7) := ⟨hR7, ho7, hb7w⟩
    clear c6 ho6 ho7 hl6 hl26 hR6 hR7 hb6 hb7 hb7w hz hsm hR2 hb12
    go_wp2_with fail
    obtain ⟨hR, ho, hb⟩ := HB7.out
    obtain ⟨q0, q1⟩ := (hR.put (.string line) (.slice a L.length c)).cells
    refine bodyPost_ret (v := .tuple #[.agg #[.string line, .slice a L.length c], .string z]) (by simp [results, Tryz.results12, go_sem, q0, q1]) rfl ?_
    have hO := ho.kept (w' := (w7.setCell ⟨w.heap.size, 0, none⟩ (.string line)).setCell ⟨w.heap.size, 1, none⟩ (.slice a L.length c)) fun k hk => put2_other _ _ _ _ k (hR.neD (by decide) ho k hk)
    obtain ⟨a9, c9, e9, hD9⟩ := hO.at
    injection e9 with e1 _ _
    rw [← e1] at hD9
    have hB := (hb.setCell (p := ⟨w.heap.size, 0, none⟩) (Nat.le_refl _) (.string line)).setCell (p := ⟨w.heap.size, 1, none⟩) (Nat.le_refl _) (.slice a L.length c)
    exact ⟨line, _, _, L, z, rfl, HP.out.1.sz, HP.out.2, hD9, hB⟩
end Go.Proofs.YtnnaphfeeobelaeGreatDoor

namespace Go.Proofs.YtnnaphfeeobelaeGreatDoor
open Go.RowKit
/-- A reader of parts in a variable. -/
def CBx (w : World) (T : Nat) (t : ByteArray) (k : Int) (bv : Value) : Prop := w.heap[T]? = some (.cells #[.string t, .int .i64 k, bv] 131 (0, 0))
theorem CBx.lt {w : World} {T : Nat} {v : Value} {t : ByteArray} {k : Int} (h : CBx w T t k v) : T < w.heap.size := (Array.getElem?_eq_some_iff.1 h).1
theorem CBx.new (w : World) (t : ByteArray) (k : Int) (v : Value) : CBx (w.alloc (.cells #[.string t, .int .i64 k, v] 131)) w.heap.size t k v := heap_alloc_new w _
theorem CBx.on {w w' : World} {T : Nat} {v : Value} {t : ByteArray} {k : Int} (h : CBx w T t k v) (hb : Below w.heap.size w w') : CBx w' T t k v := (hb.block T h.lt).trans h
theorem CBx.cells {w : World} {T : Nat} {v : Value} {t : ByteArray} {k : Int} (h : CBx w T t k v) : w.cell? ⟨T, 0, none⟩ = some (.string t) ∧ w.cell? ⟨T, 1, none⟩ = some (.int .i64 k) ∧ w.cell? ⟨T, 2, none⟩ = some v := by
  unfold CBx at h
  exact ⟨by simp [World.cell?, h], by simp [World.cell?, h], by simp [World.cell?, h]⟩
theorem CBx.thaw {w : World} {T : Nat} {v : Value} {t : ByteArray} {k : Int} (h : CBx w T t k v) (i : Nat) : w.frozen? ⟨T, i, none⟩ = false := by unfold CBx at h; simp [World.frozen?, h]
theorem CBx.setAt {w : World} {T : Nat} {v : Value} {t : ByteArray} {k : Int} (h : CBx w T t k v) (k' : Int) : CBx (w.setCell ⟨T, 1, none⟩ (.int .i64 k')) T t k' v := by
  unfold CBx at *
  simp only [World.setCell, Array.getElem?_modify, h]
  simp
theorem CBx.setBody {w : World} {T : Nat} {v : Value} {t : ByteArray} {k : Int} (h : CBx w T t k v) (v' : Value) : CBx (w.setCell ⟨T, 2, none⟩ v') T t k v' := by
  unfold CBx at *
  simp only [World.setCell, Array.getElem?_modify, h]
  simp
theorem OwnB.kept {w w' : World} {base : Nat} {e : TypeId} {v : Value} {l : List UInt8} (h : OwnB w base e v l) (hk : ∀ k, v.ownBlock = some k → w'.heap[k]? = w.heap[k]?) : OwnB w' base e v l := by
  refine ⟨h.1, ?_⟩
  rcases h.2 with hn | ⟨g, cap, cur, rfl, hb, hg, rest⟩
  · exact .inl hn
  · exact .inr ⟨g, cap, cur, rfl, hb, by rw [hk g rfl]; exact hg, rest⟩
structure Rc (w0 : World) (T : Nat) (t : ByteArray) (k : Nat) (v : Value) (B : List UInt8) (w : World) : Prop where
  bel : Below w0.heap.size w0 w
  hT : w0.heap.size ≤ T
  box : CBx w T t (k : Int) v
  own : OwnB w w0.heap.size 5 v B
theorem CBx.neB {w : World} {T : Nat} {v : Value} {t : ByteArray} {k : Int} (h : CBx w T t k v) {base : Nat} {u : Value} {B : List UInt8} (ho : OwnB w base 5 u B) : ∀ j, u.ownBlock = some j → j ≠ T := by
  rintro j hj rfl
  rcases ho.2 with ⟨rfl, _⟩ | ⟨g, cap, cur, rfl, _, hg, _⟩
  · simp [Value.ownBlock] at hj
  · simp [Value.ownBlock] at hj
    subst hj
    have := h.symm.trans hg
    simp only [Option.some.injEq, Obj.cells.injEq] at this
    exact absurd this.2.1 (by decide)
theorem Rc.next {w0 : World} {T : Nat} {v : Value} {B : List UInt8} {t : ByteArray} {k : Nat} {w w' : World} (h : Rc w0 T t k v B w) (hb : Below w.heap.size w w') : Rc w0 T t k v B w' :=
  ⟨h.bel.trans (hb.mono h.bel.size), h.hT, h.box.on hb, h.own.kept fun j hj => hb.block j (World.ownsRow.lt h.own j hj).2⟩
theorem setC_grown {w : World} (T i : Nat) (u : Value) : w.grownBy (w.setCell ⟨T, i, none⟩ u) (some T) :=
  ⟨rfl, rfl, rfl, by simp [World.setCell], fun j _ hne => Below.heap_setCell _ _ _ _ (fun e => hne (by simp only at e; rw [e]))⟩
theorem Rc.setAt {w0 : World} {T : Nat} {v : Value} {B : List UInt8} {t : ByteArray} {k : Nat} {w : World} (h : Rc w0 T t k v B w) (k' : Nat) : Rc w0 T t k' v B (w.setCell ⟨T, 1, none⟩ (.int .i64 (k' : Int))) := by
  have hg : w.grownBy (w.setCell ⟨T, 1, none⟩ (.int .i64 (k' : Int))) (some T) := setC_grown T 1 _
  refine ⟨h.bel.trans ⟨hg.os, hg.tape, hg.output, hg.size, fun j hj => hg.block j (Nat.lt_of_lt_of_le hj h.bel.size) (fun e => by have := h.hT; cases e; omega)⟩, h.hT, h.box.setAt _, h.own.kept fun j hj => hg.block j (World.ownsRow.lt h.own j hj).2 (fun e => h.box.neB h.own j hj (by cases e; rfl))⟩
/-- The bytes have grown, and are stored back. -/
theorem Rc.gather {w0 : World} {T : Nat} {v u : Value} {B M : List UInt8} {t : ByteArray} {k : Nat} {w W w2 : World} (h : Rc w0 T t k v B w) (hW : Below w.heap.size w W) (hg : W.grownBy w2 v.ownBlock) (ho : OwnB w2 w0.heap.size 5 u M) :
    CBx w2 T t (k : Int) v ∧ Rc w0 T t k u M (w2.setCell ⟨T, 2, none⟩ u) := by
  have h1 := h.next hW
  have bT : CBx w2 T t (k : Int) v := (hg.block T h1.box.lt (fun e => h1.box.neB h1.own T e.symm rfl)).trans h1.box
  have bel : Below w0.heap.size w0 w2 := h1.bel.trans ⟨hg.os, hg.tape, hg.output, hg.size, fun j hj => hg.block j (Nat.lt_of_lt_of_le hj h1.bel.size) (fun e => by have := (World.ownsRow.lt h1.own j e.symm).1; omega)⟩
  refine ⟨bT, bel.trans ⟨rfl, rfl, rfl, by simp [World.setCell], fun j hj => Below.heap_setCell _ _ _ _ (by have := h.hT; simp only; omega)⟩, h.hT, bT.setBody u, ho.kept fun j hj => Below.heap_setCell _ _ _ _ (bT.neB ho j hj)⟩
theorem OwnB.shape {w : World} {base : Nat} {e : TypeId} {v : Value} {l : List UInt8} (h : OwnB w base e v l) : ∃ a c, v = .slice a l.length c := by
  rcases h.2 with ⟨rfl, hn⟩ | ⟨g, cap, cur, rfl, _⟩
  · exact ⟨none, 0, by rw [hn]⟩
  · exact ⟨_, _, rfl⟩
theorem strCells_bts (s : ByteArray) : Lib.strCells s = bts s.data.toList := rfl
/-- 'append(v, s...)' of a text onto bytes that are owned, at a step of a statement that leaves its order open. -/
theorem step_text {P : Program} {ops : Array Oper} {o : Oper} {a : Act} {K : Act → World → Prop} {Q : Exit → Act → World → Prop} {E : Prop} {w : World} (hgd : o.guard = none) (sl x : Operand) (t u : TypeId)
    (ho : o.op = .call { callee := .builtin .append, args := #[sl, x], argTypes := #[t, u] }) (base : Nat) (e : TypeId) (ht : P.underlying t = some (.slice e)) (hu : P.underlying u = some .string)
    (hinfo : (P.info? e).map (fun i => (i.zero, i.size, i.bytes)) = some (some (.int .u8 0), 1, 1)) (v : Value) (l : List UInt8) (hs : a.eval sl = v) (hown : OwnB w base e v l)
    (s : ByteArray) (hx : a.eval x = .string s) (hlen : l.length + s.size < 140737488355326) (hbase : base ≤ w.heap.size)
    (h : ∀ ad c w', OwnB w' base e (.slice ad (l.length + s.size) c) (l ++ s.data.toList) → w.grownBy w' v.ownBlock → K (a.put o.dst (.slice ad (l.length + s.size) c)) w') :
    if Region.wanted o (yielded ops a.tmps) = true then Oper.wp P o a w K Q else E := by
  obtain ⟨i0, hi, hz0, hz1, hz2⟩ := info_parts hinfo
  have hw : Region.wanted o (yielded ops a.tmps) = true := by simp [Region.wanted, hgd]
  rw [if_pos hw]
  obtain ⟨v', w', hr, h2, h3, h4⟩ := Lib.run_append_own_string (P := P) w base t u o.type e i0 ht hu hi hz0 hz1 hz2 v l.length (bts l) hown s (by unfold maxLen; omega) (by omega) hbase
  unfold Oper.wp execOp
  simp only [ho, resolve, invoke, builtin, Sem.run_bind, Sem.run_pure, Result.andThen_ok, List.map_toArray, List.map_cons, List.map_nil, hs, hx, hr]
  have h5 : OwnB w' base e v' (l ++ s.data.toList) := by
    unfold OwnB
    rw [bts_append, List.length_append, ← Lib.size_eq]
    rw [strCells_bts] at h2
    exact h2
  obtain ⟨ad, c, rfl⟩ := h5.shape
  rw [List.length_append, ← Lib.size_eq] at h5 ⊢
  exact h ad c w' h5 h3
/-- A fault of a body. -/
def flt (c : Int) : Value := .iface 81 (.agg #[.int .i64 c])
end Go.Proofs.YtnnaphfeeobelaeGreatDoor
