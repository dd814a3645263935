/- Which file has a name: the program's. -/
import Derived.Test.YtepfblabdibggabDoorFilesLaw
import Derived.Test.YtepfblabdibggabDoorDiskPlainJ
import Derived.Test.YtepfblabdibggabDoorShelf
namespace Go.Proofs.YtepfblabdibggabDoor
open Go.RowKit Go.Sort

theorem clone_any (s : ByteArray) (w : World) (h : s.size ≤ 1048576) :
    Calls Tryd.prog 67 #[.string s] w fun e w' => e = .returned (.string s) ∧ Below w.heap.size w w' := by
  go_enter Tryd.func67, Tryd.ntmps67
  go_wp2_with fail
  refine (Tryd.stringslite_Clone s w (by omega)).mono ?_
  rintro e w1 ⟨rfl, hb⟩
  go_wp2
  go_ret
  exact ⟨rfl, hb⟩

set_option maxHeartbeats 1000000 in
theorem implFileAt_any (w : World) (a : Option Addr) (cap : Nat) (L : List Fil) (nm : ByteArray) (hL : FAt w a L w.heap.size) (hm : L.length + wgt L ≤ 1048576) :
    Calls Tryd.prog 40 #[.agg #[.slice a L.length cap], .string nm] w fun e w' => e = .returned (.tuple #[.string (fileAt L nm).1, .bool (fileAt L nm).2]) ∧ Below w.heap.size w w' := by
  have hb0 := (Below.refl w.heap.size w).alloc (Nat.le_refl _) (.cells #[.slice a L.length cap] 41)
  go_enter Tryd.func40, Tryd.ntmps40
  go_wp2
  go_loopw [11] (fun i wr => Box (∃ (k : Nat), k ≤ L.length ∧ i = .int .i64 k ∧ NoneTo L nm k ∧ Below w.heap.size w wr))
    (fun i _ => L.length - (intOf i).toNat)
  case atStart => exact ⟨⟨0, by omega, rfl, NoneTo.zero _ _, hb0⟩⟩
  case round =>
    obtain ⟨k, hk, rfl, hno, hbel⟩ := hrel.out
    by_cases hlt : k < L.length
    · obtain ⟨g, off, rfl, hg, hc0, hc1, hc2⟩ := (hL.below hbel (Nat.le_refl _)) k hlt
      have hw := wgt_mem hlt
      obtain ⟨f, hf⟩ : ∃ f, L[k] = f := ⟨_, rfl⟩
      rw [hf] at hc0 hc1 hc2 hw
      have hi1 : (0 : Int) ≤ (k : Int) := by omega
      have hi2 : (k : Int) < (L.length : Int) := by omega
      have HF : Hid (L[k] = f) := hf
      have HN : Hid (NoneTo L nm k) := hno
      have hbx : Below w.heap.size w (wr.alloc (.cells #[.string f.nm, .string f.tx, .int .i64 f.kp] 90)) := hbel.alloc hbel.size _
      have cC := clone_any f.tx (wr.alloc (.cells #[.string f.nm, .string f.tx, .int .i64 f.kp] 90)) (by omega)
      clear hrel hL hno hf hw
      cases he : (f.nm.toList == nm.toList) with
      | true =>
        have hp : Hid (fileAt L nm = (f.tx, true)) := fileAt_some HN.out hlt HF.out he
        go_wp2_with fail
        refine cC.mono ?_
        rintro e w1 ⟨rfl, hb1⟩
        go_wp2
        go_ret2
        exact ⟨by rw [hp.out]; rfl, hbx.trans (hb1.mono hbx.size)⟩
      | false =>
        go_wp2
        go_roundw
        case rel =>
          try ((repeat apply Exists.intro); refine ⟨?_, rfl⟩)
          exact ⟨⟨k + 1, by omega, by go_num, HN.out.succ hlt HF.out he, hbx⟩⟩
        case measure => simp [intOf]; omega
    · go_wp2
      go_ret2
      have hke : k = L.length := by omega
      subst hke
      exact ⟨by rw [fileAt_none hno]; rfl, hbel⟩
end Go.Proofs.YtepfblabdibggabDoor
