/- The mark that a law lays into a text. -/
import Derived.Test.YtepfblabdibggabDoorDecPlain
import Derived.Test.YtepfblabdibggabDoorBase
import Derived.Test.YtepfblabdibggabDoorRowed
import Derived.Lib.QuietBelow
import Derived.BigQuiet
namespace Go.Proofs.YtepfblabdibggabDoor
open Go.RowKit Go.Sort

theorem mark_cons (c : UInt8) (l : List UInt8) : (⟨[c].toArray⟩ : ByteArray) ++ (⟨l.toArray⟩ : ByteArray) = ⟨(c :: l).toArray⟩ := by rw [ByteArray.mk_append_mk]; rfl
theorem mark_down {f k : Nat} (h : k < 10 ^ (f + 1)) : k / 10 < 10 ^ f := by rw [Nat.pow_succ] at h; omega

/-- The mark of the number k. -/
def mkT (k : Nat) : ByteArray := ⟨(109 :: digF 20 k []).toArray⟩

set_option maxHeartbeats 1000000 in
theorem markText_any (m : Nat) (w : World) (h0 : 0 < m) (hm : m ≤ 9223372036854775807) :
    Calls Tryd.prog 31 #[.int .i64 m] w fun e w' => e = .returned (.string (mkT m)) ∧ Below w.heap.size w w' := by
  go_enter Tryd.func31, Tryd.ntmps31
  go_wp2
  go_loopw [0, 3] (fun n v wr => Box (∃ (f k : Nat) (l : List UInt8), n = .int .i64 k ∧ v = .string ⟨l.toArray⟩ ∧ k ≤ 9223372036854775807 ∧ k < 10 ^ f ∧ l.length + f ≤ 20 ∧ Hid (digF f k l = digF 20 m []) ∧ Below w.heap.size w wr))
    (fun n _ _ => (intOf n).toNat)
  case atStart => exact ⟨⟨20, m, [], rfl, rfl, hm, by omega, by simp, rfl, Below.refl _ _⟩⟩
  case round =>
    obtain ⟨f, k, l, rfl, rfl, hk, hkf, hlf, hl, hbel⟩ := hrel.out
    have hsz := hbel.size
    by_cases hlt : 0 < k
    · obtain ⟨d, hd, HD⟩ : ∃ d : Nat, d < 10 ∧ (k : Int) % 10 = (d : Int) := ⟨k % 10, by omega, by omega⟩
      have hcv := fun w => one_text_of (P := Tryd.prog) w 86 9 5 (fig d) (48 + (d : Int)) (by rw [fig_lo hd]; simp) Tryd.underlying86 Tryd.underlying5 Tryd.underlying9
      go_wp2
      go_roundw
      case rel =>
        try ((repeat apply Exists.intro); refine ⟨?_, rfl⟩)
        match f, hkf, hlf, hl with
        | 0, hkf, _, _ => simp at hkf; omega
        | f + 1, hkf, hlf, hl =>
          exact ⟨⟨f, k / 10, fig d :: l, by go_num, congrArg Value.string (mark_cons _ _), by omega, mark_down hkf, by simp; omega, by
            have := hl.out
            rw [digF_on (by omega), show k % 10 = d by omega] at this
            exact this, hbel.alloc hsz _⟩⟩
      case measure => simp [intOf]; omega
    · go_wp2
      go_ret
      have hk0 : k = 0 := by omega
      exact ⟨by
        have h1 := hl.out
        rw [hk0, digF_zero] at h1
        rw [show (⟨#[109]⟩ : ByteArray) ++ ⟨l.toArray⟩ = ⟨(109 :: l).toArray⟩ from mark_cons _ _, h1]
        rfl, hbel⟩
end Go.Proofs.YtepfblabdibggabDoor
