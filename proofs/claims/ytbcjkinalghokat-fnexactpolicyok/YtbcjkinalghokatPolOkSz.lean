/- PolicyOk of the other text, for policies that a law takes. -/
import Derived.Test.YtbcjkinalghokatPolOkSpec
import Derived.Test.YtbcjkinalghokatPolSzText
namespace Go.Proofs.Ytbcjkinalghokat
open Go.RowKit Go.Sort

theorem specPolicyOk_sz (w : World) (aw am ak : Option Addr) (cw cm ck : Nat) (P : Pol) (hA : PolAt w aw am ak P w.heap.size) (hsz : PolSz P) :
    Calls Try.prog 13 #[.agg #[.slice aw P.win.length cw, .slice am P.main.length cm, .slice ak P.sk.rows.length ck, .int .i64 P.sk.added]] w fun e w' => e = .returned (.bool (okP P)) ∧ Below w.heap.size w w' := by
  obtain ⟨l1, l2, l3⟩ := hsz.parts
  exact specPolicyOk_any w aw am ak cw cm ck P hA l1 l2 (by unfold SkSz at l3; omega) (fun z hz => by have := hsz.texts z hz; omega)
end Go.Proofs.Ytbcjkinalghokat
