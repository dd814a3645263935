/- Texts of a policy that a law takes. Plain. -/
import Derived.Test.YtbcjkinalghokatPolLaw
namespace Go.Proofs.Ytbcjkinalghokat
open Go.RowKit
theorem PolSz.texts {P : Pol} (h : PolSz P) : ∀ z ∈ P.win ++ P.main, z.size ≤ 1048576 := fun z hz => by
  unfold PolSz wgtP at h
  rcases List.mem_append.1 hz with hz | hz
  · have := wgtL_mem hz
    omega
  · have := wgtL_mem hz
    omega
end Go.Proofs.Ytbcjkinalghokat
