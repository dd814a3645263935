/- PolicyHas of the other text, for policies that a law takes. -/
import Derived.Test.YtbcjkinalghokatPolSpec
import Derived.Test.YtbcjkinalghokatPolLaw
namespace Go.Proofs.Ytbcjkinalghokat
open Go.RowKit Go.Sort

theorem specPolicyHas_sz (w : World) (aw am ak : Option Addr) (cw cm ck : Nat) (P : Pol) (key : ByteArray) (hA : PolAt w aw am ak P w.heap.size) (hsz : PolSz P) (_hk : key.size ≤ 1048576) :
    Calls Try.prog 16 #[.agg #[.slice aw P.win.length cw, .slice am P.main.length cm, .slice ak P.sk.rows.length ck, .int .i64 P.sk.added], .string key] w fun e w' => e = .returned (.bool (hasP P key)) ∧ Below w.heap.size w w' := by
  obtain ⟨l1, l2, l3⟩ := hsz.parts
  exact specPolicyHas_any w aw am ak cw cm ck P key hA (by omega) (by omega)
end Go.Proofs.Ytbcjkinalghokat
