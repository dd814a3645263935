/- A text of one byte, many times: the law's own function. -/
import Derived.Test.YtnnaphfeeobelaeDoorBase
import Derived.Test.YtnnaphfeeobelaeDoorLinePlain
import Derived.Lib.Strings
namespace Go.Proofs.YtnnaphfeeobelaeDoor
open Go.RowKit
set_option maxRecDepth 100000 in
set_option maxHeartbeats 4000000 in
theorem row_any (w : World) (m : Nat) (x : UInt8) (hm : m ≤ 1000) :
    Calls Tryd.prog 19 #[.int .i64 (m : Int), .string ⟨#[x]⟩] w fun e w' => e = .returned (.string ⟨(List.replicate m x).toArray⟩) ∧ w' = w := by
  go_enter Tryd.func19, Tryd.ntmps19
  go_wp2
  go_loopw [5, 6] (fun s i wr => Box (∃ (k : Nat) (S : ByteArray), k ≤ m ∧ i = .int .i64 k ∧ s = .string S ∧ Hid (S.data.toList = List.replicate k x) ∧ wr = w))
    (fun _ i _ => m - (intOf i).toNat)
  case atStart => exact ⟨⟨0, _, by omega, rfl, rfl, rfl, rfl⟩⟩
  case round =>
    obtain ⟨k, S, hk, rfl, rfl, HS, hwr⟩ := hrel.out
    clear hrel
    rw [hwr]
    clear hwr
    have hSz : S.size = k := by rw [Lib.size_eq, HS.out, List.length_replicate]
    by_cases hlt : k < m
    · have hc := fun w => run_string_add_sum (P := Tryd.prog) (w := w) S ⟨#[x]⟩ (by show _ + 1 ≤ _; omega)
      have HN : Hid ((S ++ ⟨#[x]⟩).data.toList = List.replicate (k + 1) x) := by
        show _ = _
        rw [List.replicate_succ']
        simp [HS.out]
      generalize S ++ ⟨#[x]⟩ = S2 at hc HN
      clear hSz
      go_wp2
      go_roundw
      case rel =>
        try ((repeat apply Exists.intro); refine ⟨?_, rfl⟩)
        exact ⟨⟨k + 1, S2, by omega, by go_num, rfl, HN, by first | rfl | trivial⟩⟩
      case measure => simp [intOf]; omega
    · have HE : Hid (S = ⟨(List.replicate m x).toArray⟩) := by
        show _ = _
        have : k = m := by omega
        rw [mk_ext S HS.out, this]
      clear hSz
      go_wp2
      go_ret
      exact ⟨by rw [← HE.out]; rfl, rfl⟩
end Go.Proofs.YtnnaphfeeobelaeDoor
