/- The walks over sealed texts: the program's own text. -/
import Derived.Test.YtlmclblndjeljamDoorSealPlain
import Derived.Test.YtlmclblndjeljamDoorSumImpl
import Derived.Test.YtlmclblndjeljamDoorShelf
import Derived.Deep.RegionHeld3
import Derived.Deep.RegionLaw
import Derived.Lib.QuietBelow
import Derived.BigQuiet
namespace Go.Proofs.YtlmclblndjeljamDoor
open Go.RowKit Go.Sort

theorem implSumOf_s (s : ByteArray) (w : World) (hs : s.size ≤ 1048580) (ht : Tab w) :
    Calls Tryd.prog 21 #[.string s] w fun e w' => e = .returned (.int .u32 (sumOf s : Nat)) ∧ w = w' := implSumOf_any s w hs ht


theorem cloneOf_any (s : ByteArray) (w : World) (hs : s.size ≤ 281474976710656) :
    Calls Tryd.prog 23 #[.string s] w fun e w' => e = .returned (.string s) ∧ Below w.heap.size w w' := by
  go_enter Tryd.func23, Tryd.ntmps23
  go_wp2_with (go_at_call 25; refine (Tryd.stringslite_Clone s _ hs).mono ?_; rintro e w' ⟨rfl, hb⟩)
  go_ret
  exact ⟨rfl, hb⟩

end Go.Proofs.YtlmclblndjeljamDoor
