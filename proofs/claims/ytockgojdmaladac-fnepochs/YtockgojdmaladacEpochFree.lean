/- Nodes that are free, gathered. Plain, no program. -/
import Derived.Test.YtockgojdmaladacEpochMore
import Derived.Deep.AppendLies
namespace Go.Proofs.Ytockgojdmaladac
open Go.RowKit

theorem OwnV.empty (w : World) (e : TypeId) : OwnV (w.alloc (.cells #[] e)) w.heap.size e (.slice (some ⟨w.heap.size, 0, none⟩) 0 0) [] := ⟨by simp, .inr ⟨w.heap.size, 0, #[], rfl, Nat.le_refl _, heap_alloc_new _ _, Nat.le_refl _, by simp [maxLen], by simp, by simp⟩⟩
theorem OwnP.empty (w : World) (e : TypeId) : OwnP (w.alloc (.cells #[] e)) w.heap.size e (.slice (some ⟨w.heap.size, 0, none⟩) 0 0) [] := ⟨by simp [prl], .inr ⟨w.heap.size, 0, #[], rfl, Nat.le_refl _, heap_alloc_new _ _, Nat.le_refl _, by simp [maxLen], by simp, by simp [prl]⟩⟩
theorem ints_snoc (l : List Int) (x : Int) : ints (l ++ [x]) = ints l ++ [.int .i64 x] := by simp [ints]
/-- 'append(v, x)' of one number onto numbers that are owned. -/
theorem wpList_snocI {P : Program} {ops : Array Oper} {rest : List Oper} {o : Oper} {a : Act} {Q : Exit → Act → World → Prop} {wr : World} (hgd : o.guard = none) (s x : Operand) (t : TypeId)
    (ho : o.op = .call { callee := .builtin .append, args := #[s, x], argTypes := #[t, t] }) (base : Nat) (ht : P.underlying t = some (.slice 3))
    (hinfo : (P.info? 3).map (fun i => (i.zero, i.size, i.bytes)) = some (some (.int .i64 0), 1, 8)) (v : Value) (L : List Int) (hs : a.eval s = v) (hown : OwnV wr base 3 v (ints L))
    (f : Int) (S : Nat) (hx : a.eval x = .slice (some ⟨S, 0, none⟩) 1 1) (hS : wr.heap.size = S) (hlen : L.length < 10000000) (hbase : base ≤ wr.heap.size)
    (h : ∀ v' w', OwnV w' base 3 v' (ints (L ++ [f])) → (wr.alloc (.cells #[.int .i64 f] 3)).grownBy w' v.ownBlock → wpList P ops Q rest (a.put o.dst v') w') :
    wpList P ops Q (o :: rest) a (wr.alloc (.cells #[.int .i64 f] 3)) := by
  subst hS
  obtain ⟨i0, hi, hz0, hz1, hz2⟩ := info_parts hinfo
  have hown' : wr.ownsRow base 3 1 v L.length (ints L) := by unfold OwnV at hown; rwa [ints_length] at hown
  refine wpList_append_own _ hgd s x t ho base 3 i0 _ 1 8 ht hi hz0 hz1 hz2 rfl (by decide) v L.length (ints L) hs (World.ownsRow.alloc hown' _) ⟨wr.heap.size, 0, none⟩ 1 1 [.int .i64 f] hx rfl (fun j u hu => World.news_of_block (heap_alloc_new wr _) j u (by simpa using hu)) ?_ (by unfold maxLen; omega) (by omega) (by simp; omega) ?_
  · intro u hu
    simp at hu
    subst hu
    rfl
  · intro v' w' h1 h2 _
    refine h v' w' ?_ h2
    unfold OwnV
    rw [ints_length, ints_snoc, List.length_append, List.length_singleton]
    exact h1
/-- 'append(v, f)' of one pair onto pairs that are owned, at a step of a statement that leaves its order open; f lies in the block B. -/
theorem step_snocG {P : Program} {ops : Array Oper} {o : Oper} {a : Act} {K : Act → World → Prop} {Q : Exit → Act → World → Prop} {E : Prop} {w : World} (hgd : o.guard = none) (s x : Operand) (t : TypeId)
    (ho : o.op = .call { callee := .builtin .append, args := #[s, x], argTypes := #[t, t] }) (base : Nat) (e : TypeId) (ht : P.underlying t = some (.slice e))
    (hinfo : (P.info? e).map (fun i => (i.zero, i.size, i.bytes)) = some (some (.agg #[.int .i64 0, .int .i64 0]), 2, 16)) (v : Value) (L : List (Int × Int)) (hs : a.eval s = v) (hown : OwnP w base e v L)
    (B : Nat) (f : Int × Int) (fr : Nat × Nat) (hx : a.eval x = .slice (some ⟨B, 0, none⟩) 1 1) (hB : w.heap[B]? = some (.cells #[.int .i64 f.1, .int .i64 f.2] e fr)) (hlen : L.length < 10000000) (hbase : base ≤ w.heap.size)
    (h : ∀ g cap w', OwnP w' base e (.slice (some ⟨g, 0, none⟩) (L.length + 1) cap) (L ++ [f]) → w.grownBy w' v.ownBlock → K (a.put o.dst (.slice (some ⟨g, 0, none⟩) (L.length + 1) cap)) w') :
    if Region.wanted o (yielded ops a.tmps) = true then Oper.wp P o a w K Q else E := by
  obtain ⟨i0, hi, hz0, hz1, hz2⟩ := info_parts hinfo
  refine step_append_lies w hgd s x t ho base e i0 _ 2 16 ht hi hz0 hz1 hz2 rfl (by decide) v L.length (prl L) hs hown ⟨B, 0, none⟩ 1 1 (prl [f]) hx rfl (fun j u hu => World.news_of_block hB j u (by simpa [prl, prCells] using hu)) ?_ (by decide) (by unfold maxLen; omega) (by omega) hbase w.heap.size rfl ?_
  · intro u hu
    simp [prl, prCells] at hu
    rcases hu with rfl | rfl <;> rfl
  · intro g cap w' h1 h2 _ _
    refine h g cap w' ?_ h2
    unfold OwnP
    rw [show prl (L ++ [f]) = prl L ++ prl [f] by simp [prl], List.length_append, List.length_singleton]
    exact h1

/-- What FreeNodes has at hand: the answer in its variable T, nodes that are free in vf; rows of its own from the block B on. -/
structure FrInv (w2 : World) (B T : Nat) (now pinS vf : Value) (G : List (Int × Int)) (F : List Int) (wr : World) : Prop where
  le : B ≤ T
  below : Below B w2 wr
  box : ∃ a c, EBox wr T now pinS (.slice a G.length c) ∧ OwnP wr B 101 (.slice a G.length c) G
  fr : ∃ a c, vf = .slice a F.length c ∧ OwnV wr B 3 (.slice a F.length c) (ints F)
theorem FrInv.lt {w2 : World} {B T : Nat} {now pinS vf : Value} {G : List (Int × Int)} {F : List Int} {wr : World} (h : FrInv w2 B T now pinS vf G F wr) : T < wr.heap.size := by
  obtain ⟨a, c, hb, _⟩ := h.box
  exact hb.lt
theorem FrInv.on {w2 : World} {B T : Nat} {now pinS vf : Value} {G : List (Int × Int)} {F : List Int} {wr w' : World} (h : FrInv w2 B T now pinS vf G F wr) (hb : Below wr.heap.size wr w') : FrInv w2 B T now pinS vf G F w' := by
  have hT := h.lt
  obtain ⟨h0, h1, ⟨a, c, h2, h3⟩, ⟨b, d, h4, h5⟩⟩ := h
  exact ⟨h0, h1.trans (hb.mono (by omega)), ⟨a, c, h2.on hb, h3.below hb (Nat.le_refl _)⟩, ⟨b, d, h4, h5.below hb (Nat.le_refl _)⟩⟩
/-- One more is free. -/
theorem FrInv.free {w2 : World} {B T : Nat} {now pinS vf vf' : Value} {G : List (Int × Int)} {F : List Int} {wr w' : World} {x : Int} (h : FrInv w2 B T now pinS vf G F wr) (hg : wr.grownBy w' vf.ownBlock) (ho : OwnV w' B 3 vf' (ints (F ++ [x]))) : FrInv w2 B T now pinS vf' G (F ++ [x]) w' := by
  have hT := h.lt
  obtain ⟨h0, h1, ⟨a, c, h2, h3⟩, ⟨b, d, rfl, h5⟩⟩ := h
  obtain ⟨a', c', hv, _⟩ := ho.ints
  refine ⟨h0, ?_, ⟨a, c, h2.grownV h5 hg, h3.grown hg (fun k hk e => ownVP_ne h5 h3 k e hk)⟩, ⟨a', c', hv, by rw [← hv]; exact ho⟩⟩
  exact h1.grown hg (by omega) (fun k hk => (h5.lt k hk).1)
/-- One more stays. -/
theorem FrInv.stay {w2 : World} {B T : Nat} {now pinS vf : Value} {G : List (Int × Int)} {F : List Int} {wr w' : World} {x : Int × Int} {a : Option Addr} {c : Nat} {a' : Option Addr} {c' : Nat} (h : FrInv w2 B T now pinS vf G F wr) (hb : EBox wr T now pinS (.slice a G.length c)) (hG : OwnP wr B 101 (.slice a G.length c) G) (hg : wr.grownBy w' (Value.slice a G.length c).ownBlock) (ho : OwnP w' B 101 (.slice a' (G.length + 1) c') (G ++ [x])) :
    EBox w' T now pinS (.slice a G.length c) ∧ FrInv w2 B T now pinS vf (G ++ [x]) F (w'.setCell ⟨T, 2, none⟩ (.slice a' (G.length + 1) c')) := by
  have hT := h.lt
  obtain ⟨h0, h1, _, ⟨b, d, rfl, h5⟩⟩ := h
  have hb' : EBox w' T now pinS (.slice a G.length c) := hb.grownP hG hg
  have hl : (G ++ [x]).length = G.length + 1 := by simp
  refine ⟨hb', h0, ?_, ⟨a', c', ?_, ?_⟩, ⟨b, d, rfl, ?_⟩⟩
  · exact (h1.grown hg (by omega) (fun k hk => (hG.lt k hk).1)).setCell h0 _
  · rw [hl]; exact hb'.set2 _
  · rw [hl]; exact ho.far hb' 2 _
  · exact (h5.grown hg (fun k hk e => ownVP_ne h5 hG k hk e)).far hb' 2 _
def freeF (now : Int) (L : List (Int × Int)) : List Int := (L.filter (isFree now)).map (·.1)
def stayG (now : Int) (L : List (Int × Int)) : List (Int × Int) := L.filter (fun g => !isFree now g)
theorem freeF_len (now : Int) (L : List (Int × Int)) : (freeF now L).length ≤ L.length := by simp [freeF]; exact List.length_filter_le _ _
theorem stayG_len (now : Int) (L : List (Int × Int)) : (stayG now L).length ≤ L.length := List.length_filter_le _ _
theorem free_yes {now : Int} {L : List (Int × Int)} {k : Nat} (hk : k < L.length) (h : L[k].2 ≤ now - 2) : freeF now (L.take (k + 1)) = freeF now (L.take k) ++ [L[k].1] ∧ stayG now (L.take (k + 1)) = stayG now (L.take k) := by
  have e : isFree now L[k] = true := decide_eq_true h
  constructor
  · unfold freeF
    rw [List.take_succ_eq_append_getElem hk, List.filter_append]
    simp [e]
  · unfold stayG
    rw [List.take_succ_eq_append_getElem hk, List.filter_append]
    simp [e]
theorem free_no {now : Int} {L : List (Int × Int)} {k : Nat} (hk : k < L.length) (h : ¬ L[k].2 ≤ now - 2) : freeF now (L.take (k + 1)) = freeF now (L.take k) ∧ stayG now (L.take (k + 1)) = stayG now (L.take k) ++ [L[k]] := by
  have e : isFree now L[k] = false := decide_eq_false h
  constructor
  · unfold freeF
    rw [List.take_succ_eq_append_getElem hk, List.filter_append]
    simp [e]
  · unfold stayG
    rw [List.take_succ_eq_append_getElem hk, List.filter_append]
    simp [e]
end Go.Proofs.Ytockgojdmaladac
