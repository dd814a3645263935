/- A policy put together of its parts. Plain. -/
import Derived.Test.YtbcjkinalghokatPolKit
namespace Go.Proofs.Ytbcjkinalghokat
open Go.RowKit
/-- A policy put together: lists and rows that were made one behind the other, in any order. -/
theorem POwn.mk3 {w : World} {lo B1 B2 B3 : Nat} {v1 v2 v3 : Value} {P : Pol} (h1 : OwnV w B1 9 v1 (strs P.win)) (h2 : OwnV w B2 9 v2 (strs P.main)) (h3 : OwnSS w B3 w.heap.size v3 P.sk.rows) (l1 : lo ≤ B1) (l2 : lo ≤ B2) (l3 : lo ≤ B3) (hn : ∀ k, v1.ownBlock = some k → v2.ownBlock ≠ some k) :
    POwn w lo w.heap.size (.agg #[v1, v2, v3, .int .i64 P.sk.added]) P :=
  ⟨v1, v2, v3, rfl, h1.mono l1, h2.mono l2, fun k hk => ⟨(h1.lt k hk).2, hn k hk⟩, fun k hk => (h2.lt k hk).2, h3.mono l3 (Nat.le_refl _)⟩
end Go.Proofs.Ytbcjkinalghokat
