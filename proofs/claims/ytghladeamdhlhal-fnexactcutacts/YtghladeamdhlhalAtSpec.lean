/- Which file has a name: the other text. -/
import Derived.Test.YtghladeamdhlhalFilesLaw
import Derived.Test.YtghladeamdhlhalAtPlain
namespace Go.Proofs.Ytghladeamdhlhal
open Go.RowKit Go.Sort

set_option maxHeartbeats 1000000 in
theorem l03At_any (w : World) (a : Option Addr) (cap : Nat) (L : List Fil) (nm : ByteArray) (hL : FAt w a L w.heap.size) (hm : L.length ≤ 1048576) :
    Calls Try.prog 35 #[.agg #[.slice a L.length cap], .string nm] w fun e w' => e = .returned (.int .i64 (posV (pos L nm))) ∧ Below w.heap.size w w' := by
  have hb0 := (Below.refl w.heap.size w).alloc (Nat.le_refl _) (.cells #[.slice a L.length cap] 31)
  go_enter Try.func35, Try.ntmps35
  go_wp2
  go_loopw [5] (fun i wr => Box (∃ (k : Nat), k ≤ L.length ∧ i = .int .i64 k ∧ NoneTo L nm k ∧ wr = w.alloc (.cells #[.slice a L.length cap] 31)))
    (fun i _ => L.length - (intOf i).toNat)
  case atStart => exact ⟨⟨0, by omega, rfl, NoneTo.zero _ _, rfl⟩⟩
  case round =>
    obtain ⟨k, hk, rfl, hno, rfl⟩ := hrel.out
    by_cases hlt : k < L.length
    · obtain ⟨g, off, rfl, hg, hc0, hc1, hc2⟩ := (hL.below hb0 (Nat.le_refl _)) k hlt
      obtain ⟨f, hf⟩ : ∃ f, L[k] = f := ⟨_, rfl⟩
      rw [hf] at hc0 hc1 hc2
      have hi1 : (0 : Int) ≤ (k : Int) := by omega
      have hi2 : (k : Int) < (L.length : Int) := by omega
      have HF : Hid (L[k] = f) := hf
      have HN : Hid (NoneTo L nm k) := hno
      clear hrel hL hno hf
      cases he : (f.nm.toList == nm.toList) with
      | true =>
        have hp : pos L nm = some k := pos_some HN.out hlt HF.out he
        go_wp2
        go_ret
        exact ⟨by rw [hp]; rfl, hb0⟩
      | false =>
        go_wp2
        go_roundw
        case rel =>
          try ((repeat apply Exists.intro); refine ⟨?_, rfl⟩)
          exact ⟨⟨k + 1, by omega, by go_num, HN.out.succ hlt HF.out he, by first | rfl | trivial⟩⟩
        case measure => simp [intOf]; omega
    · go_wp2
      go_ret
      have hke : k = L.length := by omega
      subst hke
      exact ⟨by rw [pos_none hno]; rfl, hb0⟩

end Go.Proofs.Ytghladeamdhlhal
