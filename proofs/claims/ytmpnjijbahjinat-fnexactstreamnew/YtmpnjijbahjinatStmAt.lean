/- The other text's l14At: where a reader is. -/
import Derived.Test.YtmpnjijbahjinatStmBase
namespace Go.Proofs.Ytmpnjijbahjinat
open Go.RowKit Go.Sort

theorem atM_hit (l : List (Int × Int)) (id : Int) (k : Nat) (hk : k < l.length) (h : l[k].1 = id) (hb : ∀ j (hj : j < l.length), j < k → ¬ l[j].1 = id) : atM l id = k := by
  have : l.findIdx? (fun r => decide (r.1 = id)) = some k := by
    rw [List.findIdx?_eq_some_iff_getElem]
    exact ⟨hk, by simpa using h, fun j hj => by simpa using hb j (by omega) hj⟩
  unfold atM
  rw [this]
theorem atM_miss (l : List (Int × Int)) (id : Int) (hb : ∀ j (hj : j < l.length), ¬ l[j].1 = id) : atM l id = -1 := by
  have : l.findIdx? (fun r => decide (r.1 = id)) = none := by
    rw [List.findIdx?_eq_none_iff]
    intro r hr
    obtain ⟨j, hj, rfl⟩ := List.getElem_of_mem hr
    simpa using hb j hj
  unfold atM
  rw [this]
end Go.Proofs.Ytmpnjijbahjinat
