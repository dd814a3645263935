/- A sketch in a variable, its rows owned. Plain, no program. -/
import Derived.Test.YtifjjfjadcpmaaeDoorSkSize
namespace Go.Proofs.YtifjjfjadcpmaaeDoor
open Go.RowKit

theorem okK_sz {S : Sk} (h : okK S = true) : SkSz S := by
  obtain ⟨a, b, c, e, ha, hb, hc, _, _⟩ := okK_parts h
  unfold SkSz tot
  rw [e]
  simp [rowOk_len ha, rowOk_len hb, rowOk_len hc]
theorem bytes_ne {z key : ByteArray} (h : ¬ z = key) : (z.toList == key.toList) = false := by
  rw [ByteArray.toList_eq, ByteArray.toList_eq, beq_eq_false_iff_ne]
  intro e
  exact h (ByteArray.ext (Array.toList_inj.1 e))
/-- A sketch in a variable, its rows owned. -/
structure SB (w : World) (lo T : Nat) (a : Option Addr) (c : Nat) (S : Sk) : Prop where
  box : SkBox w T (.slice a S.rows.length c) (.int .i64 S.added)
  own : OwnSS w lo w.heap.size (.slice a S.rows.length c) S.rows
theorem SB.on {w w' : World} {lo T : Nat} {a : Option Addr} {c : Nat} {S : Sk} (h : SB w lo T a c S) (hb : Below w.heap.size w w') : SB w' lo T a c S := ⟨h.box.on hb, (h.own.below hb (Nat.le_refl _)).up⟩
theorem SB.at {w : World} {lo T : Nat} {a : Option Addr} {c : Nat} {S : Sk} (h : SB w lo T a c S) : SSAt w a S.rows w.heap.size := by
  obtain ⟨p, q, hv, hA⟩ := h.own.at
  simp only [Value.slice.injEq, true_and] at hv
  obtain ⟨rfl, rfl⟩ := hv
  exact hA
/-- Another sketch is stored into the variable. -/
theorem SB.put {w w2 : World} {lo T : Nat} {a a2 : Option Addr} {c c2 : Nat} {S S2 : Sk} (h : SB w lo T a c S) (hb : Below w.heap.size w w2) (ho : SkOwn w2 w.heap.size w2.heap.size (.agg #[.slice a2 S2.rows.length c2, .int .i64 S2.added]) S2) (hlo : lo ≤ w.heap.size) :
    w2.cell? ⟨T, 0, none⟩ = some (.slice a S.rows.length c) ∧ w2.cell? ⟨T, 1, none⟩ = some (.int .i64 S.added) ∧ w2.frozen? ⟨T, 0, none⟩ = false ∧ w2.frozen? ⟨T, 1, none⟩ = false ∧ SB ((w2.setCell ⟨T, 0, none⟩ (.slice a2 S2.rows.length c2)).setCell ⟨T, 1, none⟩ (.int .i64 S2.added)) lo T a2 c2 S2 := by
  have hB := h.box.on hb
  obtain ⟨v1, e, h1⟩ := ho
  simp only [Value.agg.injEq, Array.mk.injEq, List.cons.injEq, and_true] at e
  subst e
  exact ⟨hB.cells.1, hB.cells.2, hB.thaw 0, hB.thaw 1, hB.put _ _, by simpa using ((h1.put2 hB _ _).mono hlo (Nat.le_refl _))⟩

end Go.Proofs.YtifjjfjadcpmaaeDoor
