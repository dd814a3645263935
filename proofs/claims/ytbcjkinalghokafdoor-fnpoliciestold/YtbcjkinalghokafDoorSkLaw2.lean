/- What a law does with sketches: it copies them, compares them, marks them. -/
import Derived.Test.YtbcjkinalghokafDoorSkLaw
namespace Go.Proofs.YtbcjkinalghokafDoor
open Go.RowKit Go.Sort

/-- A sketch in a variable T of a law: rows from lo on, below T. -/
structure SV (w : World) (lo T : Nat) (a : Option Addr) (c : Nat) (S : Sk) : Prop where
  le : lo ≤ T
  box : SkBox w T (.slice a S.rows.length c) (.int .i64 S.added)
  own : OwnSS w lo T (.slice a S.rows.length c) S.rows
theorem SV.new {w : World} {lo : Nat} {a : Option Addr} {c : Nat} {S : Sk} (h : SkOwn w lo w.heap.size (.agg #[.slice a S.rows.length c, .int .i64 S.added]) S) (hlo : lo ≤ w.heap.size) :
    SV (w.alloc (.cells #[.slice a S.rows.length c, .int .i64 S.added] 27)) lo w.heap.size a c S := by
  obtain ⟨v1, e, h1⟩ := h
  simp only [Value.agg.injEq, Array.mk.injEq, List.cons.injEq, and_true] at e
  subst e
  exact ⟨hlo, SkBox.new _ _ _, h1.below ((Below.refl _ _).alloc (Nat.le_refl _) _) (Nat.le_refl _)⟩
theorem SV.on {w w' : World} {lo T : Nat} {a : Option Addr} {c : Nat} {S : Sk} (h : SV w lo T a c S) (hb : Below w.heap.size w w') : SV w' lo T a c S := ⟨h.le, h.box.on hb, h.own.below hb (Nat.le_refl _)⟩
theorem SV.at {w : World} {lo T : Nat} {a : Option Addr} {c : Nat} {S : Sk} (h : SV w lo T a c S) : SSAt w a S.rows w.heap.size := by
  obtain ⟨p, q, hv, hA⟩ := h.own.at
  simp only [Value.slice.injEq, true_and] at hv
  obtain ⟨rfl, rfl⟩ := hv
  exact hA
/-- Another variable's rows are others. -/
theorem SV.tch {P : Nat → Prop} {w w' : World} {lo T : Nat} {a : Option Addr} {c : Nat} {S : Sk} (h : SV w lo T a c S) (ht : Tch P w w') (hn : ∀ k, P k → k < lo ∨ T < k) : SV w' lo T a c S := by
  have hlo := h.le
  exact ⟨h.le, h.box.kept (ht.2 T h.box.lt (fun e => by have := hn T e; omega)), h.own.tch ht fun k hk => by have := hn k hk; omega⟩

def SkSz (S : Sk) : Prop := S.rows.length + tot S.rows S.rows.length ≤ 1048576

end Go.Proofs.YtbcjkinalghokafDoor
