/- Which file has a name: the other text. -/
import Derived.Test.YtepfblabdibggabDoorFilesLaw
import Derived.Test.YtepfblabdibggabDoorDiskPlainJ
namespace Go.Proofs.YtepfblabdibggabDoor
open Go.RowKit Go.Sort

set_option maxHeartbeats 1000000 in
theorem l03At_any (w : World) (a : Option Addr) (cap : Nat) (L : List Fil) (nm : ByteArray) (hL : FAt w a L w.heap.size) (hm : L.length ≤ 1048576) :
    Calls Tryd.prog 62 #[.agg #[.slice a L.length cap], .string nm] w fun e w' => e = .returned (.int .i64 (posV (pos L nm))) ∧ Below w.heap.size w w' := by
  have hb0 := (Below.refl w.heap.size w).alloc (Nat.le_refl _) (.cells #[.slice a L.length cap] 41)
  go_enter Tryd.func62, Tryd.ntmps62
  go_wp2
  go_loopw [5] (fun i wr => Box (∃ (k : Nat), k ≤ L.length ∧ i = .int .i64 k ∧ NoneTo L nm k ∧ wr = w.alloc (.cells #[.slice a L.length cap] 41)))
    (fun i _ => L.length - (intOf i).toNat)
  case atStart => exact ⟨⟨0, by omega, rfl, NoneTo.zero _ _, rfl⟩⟩
  case round =>
    obtain ⟨k, hk, rfl, hno, rfl⟩ := hrel.out
    by_cases hlt : k < L.length
    · obtain ⟨g, off, rfl, hg, hc0, hc1, hc2⟩ := (hL.below hb0 (Nat.le_refl _)) k hlt
      obtain ⟨f, hf⟩ : ∃ f, L[k] = f := ⟨_, rfl⟩
      rw [hf] at hc0 hc1 hc2
      have hi1 : (0 : Int) ≤ (k : Int) := by omega
      have hi2 : (k : Int) < (L.length : Int) := by omega
      have HF : Hid (L[k] = f) := hf
      have HN : Hid (NoneTo L nm k) := hno
      clear hrel hL hno hf
      cases he : (f.nm.toList == nm.toList) with
      | true =>
        have hp : pos L nm = some k := pos_some HN.out hlt HF.out he
        go_wp2
        go_ret
        exact ⟨by rw [hp]; rfl, hb0⟩
      | false =>
        go_wp2
        go_roundw
        case rel =>
          try ((repeat apply Exists.intro); refine ⟨?_, rfl⟩)
          exact ⟨⟨k + 1, by omega, by go_num, HN.out.succ hlt HF.out he, by first | rfl | trivial⟩⟩
        case measure => simp [intOf]; omega
    · go_wp2
      go_ret
      have hke : k = L.length := by omega
      subst hke
      exact ⟨by rw [pos_none hno]; rfl, hb0⟩

set_option maxHeartbeats 1000000 in
theorem specFileAt_any (w : World) (a : Option Addr) (cap : Nat) (L : List Fil) (nm : ByteArray) (hL : FAt w a L w.heap.size) (hm : L.length ≤ 1048576) :
    Calls Tryd.prog 34 #[.agg #[.slice a L.length cap], .string nm] w fun e w' => e = .returned (.tuple #[.string (fileAt L nm).1, .bool (fileAt L nm).2]) ∧ Below w.heap.size w w' := by
  obtain ⟨wb, hwb⟩ : ∃ wb, w.alloc (.cells #[.slice a L.length cap] 41) = wb := ⟨_, rfl⟩
  have hb : Below w.heap.size w wb := by rw [← hwb]; exact (Below.refl _ _).alloc (Nat.le_refl _) _
  have hbs : w.heap.size < wb.heap.size := by rw [← hwb]; simp
  have hbox : wb.cell? ⟨w.heap.size, 0, none⟩ = some (.slice a L.length cap) := by rw [← hwb]; simp
  have hLb : FAt wb a L wb.heap.size := (hL.below hb (Nat.le_refl _)).mono hb.size
  have c0 := l03At_any wb a cap L nm hLb hm
  have HW : Hid (w.alloc (.cells #[.slice a L.length cap] 41) = wb) := hwb
  clear hL hwb
  go_enter Tryd.func34, Tryd.ntmps34
  go_wp2_with fail
  rw [HW.out]
  refine c0.mono ?_
  rintro e w1 ⟨rfl, hb1⟩
  have q1 := (hb1.cell (p := ⟨w.heap.size, 0, none⟩) hbs).trans hbox
  have hw1 : Below w.heap.size w w1 := hb.trans (hb1.mono hb.size)
  clear c0 hbox
  cases hp : pos L nm with
  | none =>
    have hv := pos_not hp
    simp only [posV]
    go_wp2
    go_ret2
    exact ⟨by rw [hv]; rfl, hw1⟩
  | some k =>
    obtain ⟨hk, _, hv⟩ := pos_at hp
    obtain ⟨g, off, rfl, hg, hc0, hc1, hc2⟩ := (hLb.below hb1 (Nat.le_refl _)) k hk
    obtain ⟨f, hf⟩ : ∃ f, L[k] = f := ⟨_, rfl⟩
    rw [hf] at hc1 hv
    have HV : Hid (fileAt L nm = (f.tx, true)) := hv
    have hi1 : (0 : Int) ≤ (k : Int) := by omega
    have hi2 : (k : Int) < (L.length : Int) := by omega
    clear hv hp hc0 hc2 hLb hf
    simp only [posV]
    go_wp2
    go_ret2
    exact ⟨by rw [HV.out]; rfl, hw1⟩
end Go.Proofs.YtepfblabdibggabDoor
