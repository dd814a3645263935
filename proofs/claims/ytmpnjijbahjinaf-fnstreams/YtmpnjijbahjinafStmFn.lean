/- What laws on drawn streams share. -/
import Derived.Test.YtmpnjijbahjinafStmDraw
import Derived.Test.YtmpnjijbahjinafDrawTurn
import Derived.Test.YtmpnjijbahjinafBig
namespace Go.Proofs.Ytmpnjijbahjinaf
open Go.RowKit Go.Sort

theorem CodeAt.onM {w w' : World} {ca : Option Addr} {n : Nat} (h : CodeAt w ca n w.heap.size) (hb : Below w.heap.size w w') : CodeAt w' ca n w'.heap.size := by
  intro j hj
  obtain ⟨b, off, z, h1, h2, h3, h4⟩ := h j hj
  exact ⟨b, off, z, h1, Nat.lt_of_lt_of_le h2 hb.size, (hb.cell h2).trans h3, h4⟩
theorem StV.first {w : World} {B lo N : Nat} {a : Option Addr} {c : Nat} {S : Stm} (h : MOwn w lo (.agg #[.int .i64 S.st, .string S.text, .slice a S.rd.length c]) S) (hz : MBox w N (.int .i64 0) (.string ⟨#[]⟩) (.slice none 0 0)) (hB : B ≤ lo) (hN : B ≤ N) : StV (((w.setCell ⟨N, 0, none⟩ (.int .i64 S.st)).setCell ⟨N, 1, none⟩ (.string S.text)).setCell ⟨N, 2, none⟩ (.slice a S.rd.length c)) B N a c S :=
  ⟨hN, hz.put _ _ _, ((h.put3 hz _ _ _).mono hB).partR⟩
theorem StV.last {w : World} {B lo : Nat} {a : Option Addr} {c : Nat} {S : Stm} (h : MOwn w lo (.agg #[.int .i64 S.st, .string S.text, .slice a S.rd.length c]) S) (hB : B ≤ lo) (hN : B ≤ w.heap.size) : StV (w.alloc (.cells #[.int .i64 S.st, .string S.text, .slice a S.rd.length c] 26)) B w.heap.size a c S := StV.new (h.mono hB) hN
theorem StV.far {w w' : World} {B T : Nat} {a : Option Addr} {c : Nat} {S : Stm} (h : StV w B T a c S) {lo : Nat} (hb : Below lo w w') (hT : T < lo) (ho : ∀ k, (Value.slice a S.rd.length c).ownBlock = some k → k < lo) : StV w' B T a c S := ⟨h.le, h.box.kept (hb.block T hT), h.own.kept fun k hk => hb.block k (ho k hk)⟩
end Go.Proofs.Ytmpnjijbahjinaf
