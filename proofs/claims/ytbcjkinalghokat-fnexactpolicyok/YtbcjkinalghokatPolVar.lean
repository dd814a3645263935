/- Policies in a law's variables. Plain, no program. -/
import Derived.Test.YtbcjkinalghokatPolMark2
namespace Go.Proofs.Ytbcjkinalghokat
open Go.RowKit Go.Sort

/-- A policy in a variable T of a law: its lists and rows from lo on, below T. -/
structure PV (w : World) (lo T : Nat) (aw am ak : Option Addr) (cw cm ck : Nat) (P : Pol) : Prop where
  le : lo ≤ T
  box : PBox w T (.slice aw P.win.length cw) (.slice am P.main.length cm) (.slice ak P.sk.rows.length ck) (.int .i64 P.sk.added)
  own : POwn w lo T (.agg #[.slice aw P.win.length cw, .slice am P.main.length cm, .slice ak P.sk.rows.length ck, .int .i64 P.sk.added]) P
theorem PV.new {w : World} {lo : Nat} {aw am ak : Option Addr} {cw cm ck : Nat} {P : Pol} (h : POwn w lo w.heap.size (.agg #[.slice aw P.win.length cw, .slice am P.main.length cm, .slice ak P.sk.rows.length ck, .int .i64 P.sk.added]) P) (hlo : lo ≤ w.heap.size) :
    PV (w.alloc (.cells #[.slice aw P.win.length cw, .slice am P.main.length cm, .slice ak P.sk.rows.length ck, .int .i64 P.sk.added] 27)) lo w.heap.size aw am ak cw cm ck P :=
  ⟨hlo, PBox.new _ _ _ _ _, h.below ((Below.refl _ _).alloc (Nat.le_refl _) _) (Nat.le_refl _)⟩
theorem PV.on {w w' : World} {lo T : Nat} {aw am ak : Option Addr} {cw cm ck : Nat} {P : Pol} (h : PV w lo T aw am ak cw cm ck P) (hb : Below w.heap.size w w') : PV w' lo T aw am ak cw cm ck P := ⟨h.le, h.box.on hb, h.own.below hb (Nat.le_refl _)⟩
theorem POwn.lies {w : World} {lo hi : Nat} {aw am ak : Option Addr} {cw cm ck : Nat} {P : Pol} (h : POwn w lo hi (.agg #[.slice aw P.win.length cw, .slice am P.main.length cm, .slice ak P.sk.rows.length ck, .int .i64 P.sk.added]) P) : PolAt w aw am ak P w.heap.size := by
  obtain ⟨a1, c1, a2, c2, a3, c3, e, hA⟩ := h.at
  simp only [Value.agg.injEq, Array.mk.injEq, List.cons.injEq, and_true, Value.slice.injEq, true_and] at e
  obtain ⟨⟨rfl, rfl⟩, ⟨rfl, rfl⟩, rfl, rfl⟩ := e
  exact hA
theorem PV.at {w : World} {lo T : Nat} {aw am ak : Option Addr} {cw cm ck : Nat} {P : Pol} (h : PV w lo T aw am ak cw cm ck P) : PolAt w aw am ak P w.heap.size := h.own.lies
/-- Another variable's lists and rows are others. -/
theorem PV.tch {S : Nat → Prop} {w w' : World} {lo T : Nat} {aw am ak : Option Addr} {cw cm ck : Nat} {P : Pol} (h : PV w lo T aw am ak cw cm ck P) (ht : Tch S w w') (hn : ∀ k, S k → k < lo ∨ T < k) : PV w' lo T aw am ak cw cm ck P := by
  have hlo := h.le
  exact ⟨h.le, h.box.kept (ht.2 T h.box.lt (fun e => by have := hn T e; omega)), h.own.tch ht fun k hk => by have := hn k hk; omega⟩
/-- A policy in a variable that is marked from 1 on. -/
structure PM (w : World) (lo T : Nat) (aw am ak : Option Addr) (cw cm ck : Nat) (P : Pol) : Prop where
  le : lo ≤ T
  box : PBox w T (.slice aw P.win.length cw) (.slice am P.main.length cm) (.slice ak P.sk.rows.length ck) (.int .i64 P.sk.added)
  own : PMk w lo T (.slice aw P.win.length cw) (.slice am P.main.length cm) (.slice ak P.sk.rows.length ck) P 1
theorem PM.on {w w' : World} {lo T : Nat} {aw am ak : Option Addr} {cw cm ck : Nat} {P : Pol} (h : PM w lo T aw am ak cw cm ck P) (hb : Below w.heap.size w w') : PM w' lo T aw am ak cw cm ck P := ⟨h.le, h.box.on hb, h.own.below hb (Nat.le_refl _)⟩
end Go.Proofs.Ytbcjkinalghokat
