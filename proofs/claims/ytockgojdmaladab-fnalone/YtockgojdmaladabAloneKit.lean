/- What the law on a task alone has at hand. -/
import Derived.Test.YtockgojdmaladabAlonePairs
import Derived.Test.YtockgojdmaladabBig
import Derived.Test.YtockgojdmaladabKeysSpec
import Derived.Deep.DeepCutAuto
import Derived.Deep.RegionHeld3
import Derived.Deep.RegionLaw
import Derived.BigQuiet
namespace Go.Proofs.Ytockgojdmaladab
open Go.RowKit Go.Sort

/-- What stands in the law: the pairs, the numbers, the list. -/
structure Al (w0 : World) (n1 : Nat) (pa : Option Addr) (L : List (Int × Int)) (g : Nat) (x0 x1 x2 : Int) (v : Value) (l : List Int) (wi : World) : Prop where
  below : Below w0.heap.size w0 wi
  pairs : PAt wi pa L n1
  z0 : wi.cell? ⟨g, 0, none⟩ = some (.int .i64 x0)
  z1 : wi.cell? ⟨g, 1, none⟩ = some (.int .i64 x1)
  z2 : wi.cell? ⟨g, 2, none⟩ = some (.int .i64 x2)
  gb : g < n1
  nb : n1 ≤ wi.heap.size
  n0 : w0.heap.size ≤ n1
  own : OwnV wi w0.heap.size 3 v (ints l)
theorem Al.next {w0 : World} {n1 : Nat} {pa : Option Addr} {L : List (Int × Int)} {g : Nat} {x0 x1 x2 : Int} {v : Value} {l : List Int} {wi wj : World} (h : Al w0 n1 pa L g x0 x1 x2 v l wi) (hb : Below wi.heap.size wi wj) : Al w0 n1 pa L g x0 x1 x2 v l wj :=
  ⟨h.below.trans (hb.mono h.below.size), h.pairs.below hb h.nb, (hb.cell (p := ⟨g, 0, none⟩) (Nat.lt_of_lt_of_le h.gb h.nb)).trans h.z0, (hb.cell (p := ⟨g, 1, none⟩) (Nat.lt_of_lt_of_le h.gb h.nb)).trans h.z1, (hb.cell (p := ⟨g, 2, none⟩) (Nat.lt_of_lt_of_le h.gb h.nb)).trans h.z2, h.gb, Nat.le_trans h.nb hb.size, h.n0, h.own.below hb (Nat.le_refl _)⟩
/-- The list is another. -/
theorem Al.turn {w0 : World} {n1 : Nat} {pa : Option Addr} {L : List (Int × Int)} {g : Nat} {x0 x1 x2 : Int} {v v' : Value} {l l' : List Int} {wi wj : World} (h : Al w0 n1 pa L g x0 x1 x2 v l wi) (hb : Below wi.heap.size wi wj) (ho : OwnV wj wi.heap.size 3 v' (ints l')) : Al w0 n1 pa L g x0 x1 x2 v' l' wj :=
  have hn := h.next hb
  ⟨hn.below, hn.pairs, hn.z0, hn.z1, hn.z2, hn.gb, hn.nb, hn.n0, ho.mono h.below.size⟩
theorem ne_tbox {w : World} {R b : Nat} {t : Tk} {v : Value} {xs : List Int} (h : TBox w R t) (ho : OwnV w b 3 v (ints xs)) : ∀ k, v.ownBlock = some k → k ≠ R := by
  rintro k hk rfl
  rcases ho.2 with ⟨rfl, _⟩ | ⟨g, cap, cur, rfl, _, hg, _⟩
  · simp [Value.ownBlock] at hk
  · simp [Value.ownBlock] at hk
    subst hk
    have := h.symm.trans hg
    simp at this
/-- A task is stored beside it. -/
theorem Al.put {w0 : World} {n1 : Nat} {pa : Option Addr} {L : List (Int × Int)} {g : Nat} {x0 x1 x2 : Int} {v : Value} {l : List Int} {wi : World} {T : Nat} {t : Tk} (h : Al w0 n1 pa L g x0 x1 x2 v l wi) (hT : TBox wi T t) (hn : n1 ≤ T) (s : Tk) : Al w0 n1 pa L g x0 x1 x2 v l (((((((((((wi.setCell ⟨T, 0, none⟩ (.int .i64 s.kind)).setCell ⟨T, 1, none⟩ (.int .i64 s.key)).setCell ⟨T, 2, none⟩ (.int .i64 s.val)).setCell ⟨T, 3, none⟩ (.int .i64 s.node)).setCell ⟨T, 4, none⟩ (.int .i64 s.pc)).setCell ⟨T, 5, none⟩ (.int .i64 s.prev)).setCell ⟨T, 6, none⟩ (.int .i64 s.cur)).setCell ⟨T, 7, none⟩ (.int .i64 s.next)).setCell ⟨T, 8, none⟩ (.int .i64 s.mark)).setCell ⟨T, 9, none⟩ (.bool s.done)).setCell ⟨T, 10, none⟩ (.int .i64 s.ans)) ∧ TBox (((((((((((wi.setCell ⟨T, 0, none⟩ (.int .i64 s.kind)).setCell ⟨T, 1, none⟩ (.int .i64 s.key)).setCell ⟨T, 2, none⟩ (.int .i64 s.val)).setCell ⟨T, 3, none⟩ (.int .i64 s.node)).setCell ⟨T, 4, none⟩ (.int .i64 s.pc)).setCell ⟨T, 5, none⟩ (.int .i64 s.prev)).setCell ⟨T, 6, none⟩ (.int .i64 s.cur)).setCell ⟨T, 7, none⟩ (.int .i64 s.next)).setCell ⟨T, 8, none⟩ (.int .i64 s.mark)).setCell ⟨T, 9, none⟩ (.bool s.done)).setCell ⟨T, 10, none⟩ (.int .i64 s.ans)) T s := by
  have hb : Below n1 wi (put11 wi T s) := put11_below (Below.refl _ _) hn s
  have := And.intro (⟨h.below.trans (hb.mono h.n0), h.pairs.below hb (Nat.le_refl _), (hb.cell (p := ⟨g, 0, none⟩) h.gb).trans h.z0, (hb.cell (p := ⟨g, 1, none⟩) h.gb).trans h.z1, (hb.cell (p := ⟨g, 2, none⟩) h.gb).trans h.z2, h.gb, Nat.le_trans h.nb hb.size, h.n0, h.own.kept (fun k hk => put11_other wi T s (ne_tbox hT h.own k hk))⟩ : Al w0 n1 pa L g x0 x1 x2 v l (put11 wi T s)) (put11_box hT s)
  unfold put11 at this
  exact this
/-- A task in a new variable, behind two cells that stay. -/
theorem kept_put {w0 wl : World} {R : Nat} (s : Tk) (h : Below w0.heap.size w0 wl) (hR : w0.heap.size ≤ R) : Below w0.heap.size w0 (((((((((((wl.setCell ⟨R, 0, none⟩ (.int .i64 s.kind)).setCell ⟨R, 1, none⟩ (.int .i64 s.key)).setCell ⟨R, 2, none⟩ (.int .i64 s.val)).setCell ⟨R, 3, none⟩ (.int .i64 s.node)).setCell ⟨R, 4, none⟩ (.int .i64 s.pc)).setCell ⟨R, 5, none⟩ (.int .i64 s.prev)).setCell ⟨R, 6, none⟩ (.int .i64 s.cur)).setCell ⟨R, 7, none⟩ (.int .i64 s.next)).setCell ⟨R, 8, none⟩ (.int .i64 s.mark)).setCell ⟨R, 9, none⟩ (.bool s.done)).setCell ⟨R, 10, none⟩ (.int .i64 s.ans)) := by
  have := put11_below h hR s
  unfold put11 at this
  exact this
theorem box_put {wl : World} {R : Nat} {t : Tk} (s : Tk) (h : TBox wl R t) : TBox (((((((((((wl.setCell ⟨R, 0, none⟩ (.int .i64 s.kind)).setCell ⟨R, 1, none⟩ (.int .i64 s.key)).setCell ⟨R, 2, none⟩ (.int .i64 s.val)).setCell ⟨R, 3, none⟩ (.int .i64 s.node)).setCell ⟨R, 4, none⟩ (.int .i64 s.pc)).setCell ⟨R, 5, none⟩ (.int .i64 s.prev)).setCell ⟨R, 6, none⟩ (.int .i64 s.cur)).setCell ⟨R, 7, none⟩ (.int .i64 s.next)).setCell ⟨R, 8, none⟩ (.int .i64 s.mark)).setCell ⟨R, 9, none⟩ (.bool s.done)).setCell ⟨R, 10, none⟩ (.int .i64 s.ans)) R s := by
  have := put11_box h s
  unfold put11 at this
  exact this
theorem OwnP.put11 {wl : World} {n7 R : Nat} {e : TypeId} {x : Value} {D : List (Int × Int)} (s : Tk) (h : OwnP wl n7 e x D) (hR : R < n7) : OwnP (((((((((((wl.setCell ⟨R, 0, none⟩ (.int .i64 s.kind)).setCell ⟨R, 1, none⟩ (.int .i64 s.key)).setCell ⟨R, 2, none⟩ (.int .i64 s.val)).setCell ⟨R, 3, none⟩ (.int .i64 s.node)).setCell ⟨R, 4, none⟩ (.int .i64 s.pc)).setCell ⟨R, 5, none⟩ (.int .i64 s.prev)).setCell ⟨R, 6, none⟩ (.int .i64 s.cur)).setCell ⟨R, 7, none⟩ (.int .i64 s.next)).setCell ⟨R, 8, none⟩ (.int .i64 s.mark)).setCell ⟨R, 9, none⟩ (.bool s.done)).setCell ⟨R, 10, none⟩ (.int .i64 s.ans)) n7 e x D := by
  have := h.kept (w' := Go.Proofs.Ytockgojdmaladab.put11 wl R s) (fun k hk => put11_other wl R s (Nat.ne_of_gt (Nat.lt_of_lt_of_le hR (h.lt k hk).1)))
  unfold Go.Proofs.Ytockgojdmaladab.put11 at this
  exact this
theorem okC_Bd {l : List Int} (h : l.all nOkC = true) : Bd l := by
  intro z hz
  have h2 := List.all_eq_true.1 h z hz
  unfold nOkC at h2
  have := of_decide_eq_true h2
  omega
theorem runT_done {k : Nat} {l : List Int} {t : Tk} (h : t.done = true) : runT k l t = (l, t) := by
  cases k
  · rfl
  · simp [runT, h]
theorem runT_step {k : Nat} {l : List Int} {t : Tk} (h : t.done = false) : runT (k + 1) l t = runT k (stepL l t).1 (stepL l t).2 := by simp [runT, h]

end Go.Proofs.Ytockgojdmaladab
