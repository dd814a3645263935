/- Texts that stand in one: FrameImpl, KeepActsImpl. -/
import Derived.Test.YtepfblabdibggabDoorSealPlainJ
import Derived.Test.YtepfblabdibggabDoorVarImplJ
import Derived.Test.YtepfblabdibggabDoorSumImpl
import Derived.Test.YtepfblabdibggabDoorEntActsJ
import Derived.Test.YtepfblabdibggabDoorEntText
namespace Go.Proofs.YtepfblabdibggabDoor
open Go.RowKit

set_option maxHeartbeats 1000000 in
theorem implFrame_in (s : ByteArray) (w : World) (h1 : 1 ≤ s.size) (h2 : s.size ≤ 9000) (ht : Tab w) :
    Calls Tryd.prog 58 #[.string s] w fun e w' => e = .returned (.tuple #[.string (frAll s), .bool true]) ∧ Below w.heap.size w w' := by
  have hne := not_empty h1
  have hm : s.size ≤ 1000000000 := by omega
  have c0 := implVarText_in s.size w hm
  have c1 : ∀ w', Below w.heap.size w w' → Calls Tryd.prog 77 #[.string s] w' fun e w'' => e = .returned (.int .u32 (sumOf s : Nat)) ∧ w' = w'' := fun w' hb => implSumOf_any s w' (by omega) (ht.below hb (Nat.le_refl _))
  have c2 := fun w => bytes_any (sumOf s) w (sumOf_lt s)
  have hl := four_length (sumOf s)
  have hv := varF_length 8 s.size
  unfold frAll
  generalize sumOf s = n at c1 c2 hl ⊢
  generalize four n = l at c2 hl ⊢
  generalize varF 8 s.size = v at c0 hv ⊢
  go_enter Tryd.func58, Tryd.ntmps58
  go_wp2_with (first | (go_at_call 76; refine c0.mono ?_; rintro e w' ⟨rfl, hb⟩) | (go_at_call 77; refine (c1 _ hb).mono ?_; rintro e w' ⟨rfl, rfl⟩) | (go_at_call 78; refine (c2 _).mono ?_; rintro e w2 ⟨rfl, hb2⟩))
  go_ret2
  exact ⟨rfl, hb.trans (hb2.mono hb.size)⟩

set_option maxHeartbeats 1000000 in
theorem implFrame_any (s : ByteArray) (w : World) (hs : s.size ≤ 1048576) (ht : Tab w) :
    Calls Tryd.prog 58 #[.string s] w fun e w' => e = .returned (.tuple #[.string (frText s), .bool (frOk s)]) ∧ Below w.heap.size w w' := by
  by_cases h1 : 1 ≤ s.size
  · by_cases h2 : s.size ≤ 9000
    · rw [frOk_in h1 h2, frText_in h1 h2]
      exact implFrame_in s w h1 h2 ht
    · rw [frOk_out (by omega), frText_out (by omega)]
      have hne := not_empty h1
      go_enter Tryd.func58, Tryd.ntmps58
      go_wp2
      go_ret2
      exact ⟨rfl, Below.refl _ _⟩
  · rw [frOk_out (by omega), frText_out (by omega), size_zero (s := s) (by omega)]
    go_enter Tryd.func58, Tryd.ntmps58
    go_wp2
    go_ret2
    exact ⟨rfl, Below.refl _ _⟩
end Go.Proofs.YtepfblabdibggabDoor

namespace Go.Proofs.YtepfblabdibggabDoor
open Go.RowKit
set_option maxRecDepth 100000 in
set_option maxHeartbeats 2000000 in
theorem entryFrame_any (w : World) (E : En) (hok : enOk E = true) (ht : Tab w) :
    Calls Tryd.prog 29 #[.agg #[.string E.key, .int .i64 E.st, .int .i64 E.lf, .string E.bd]] w fun e w' => e = .returned (.string (enFr E)) ∧ Below w.heap.size w w' := by
  obtain ⟨wb, hwb⟩ : ∃ wb, w.alloc (.cells #[.string E.key, .int .i64 E.st, .int .i64 E.lf, .string E.bd] 28) = wb := ⟨_, rfl⟩
  have hb : Below w.heap.size w wb := by rw [← hwb]; exact (Below.refl _ _).alloc (Nat.le_refl _) _
  obtain ⟨A, hA⟩ : ∃ A, w.heap.size = A := ⟨_, rfl⟩
  have hx : EnB wb A 28 E := by rw [← hwb, ← hA]; exact EnB.new w _ E
  have c0 := implEntText_any wb E hok
  obtain ⟨s1, s2⟩ := enAll_size hok
  have HF : Hid (∀ wi, Below w.heap.size w wi → Calls Tryd.prog 58 #[.string (enAll E)] wi fun e w' => e = .returned (.tuple #[.string (enFr E), .bool true]) ∧ Below wi.heap.size wi w') := fun wi hi => implFrame_in (enAll E) wi s1 (by omega) (ht.below hi (Nat.le_refl _))
  obtain ⟨b0, b1, b2, b3⟩ := hx.cells
  have HX : Hid (Below w.heap.size w wb ∧ w.heap.size ≤ wb.heap.size) := ⟨hb, hb.size⟩
  clear hx hb s1 s2
  generalize enAll E = t at c0 HF
  go_enter Tryd.func29, Tryd.ntmps29
  go_wp2_with fail
  refine c0.mono ?_
  rintro e w1 ⟨rfl, hb1⟩
  have HB1 : Hid (Below w.heap.size w w1) := HX.out.1.trans (hb1.mono HX.out.2)
  clear c0 hb1
  go_wp2_with fail
  refine (HF.out _ HB1.out).mono ?_
  rintro e w2 ⟨rfl, hb2⟩
  have HB2 : Hid (Below w.heap.size w w2) := HB1.out.trans (hb2.mono HB1.out.size)
  clear hb2 HB1
  go_wp2_with fail
  go_ret
  exact ⟨rfl, HB2.out⟩
set_option maxRecDepth 100000 in
set_option maxHeartbeats 2000000 in
theorem implKeepActs_any (w : World) (E : En) (hk : E.key.size ≤ 1099511627776) (hbd : E.bd.size ≤ 1099511627776) (ht : Tab w) :
    Calls Tryd.prog 9 #[.agg #[.string E.key, .int .i64 E.st, .int .i64 E.lf, .string E.bd]] w fun e w' => ∃ v, e = .returned (.tuple #[v, .bool (enOk E)]) ∧ OwnA w' w.heap.size 57 v (keepL E) ∧ Below w.heap.size w w' := by
  obtain ⟨wb, hwb⟩ : ∃ wb, w.alloc (.cells #[.string E.key, .int .i64 E.st, .int .i64 E.lf, .string E.bd] 28) = wb := ⟨_, rfl⟩
  have hb : Below w.heap.size w wb := by rw [← hwb]; exact (Below.refl _ _).alloc (Nat.le_refl _) _
  obtain ⟨A, hA⟩ : ∃ A, w.heap.size = A := ⟨_, rfl⟩
  have hx : EnB wb A 28 E := by rw [← hwb, ← hA]; exact EnB.new w _ E
  have c0 := implEntryOk_any wb E.key E.bd E.st E.lf hk hbd
  have HF : Hid (enOk E = true → ∀ wi, Below w.heap.size w wi → Calls Tryd.prog 29 #[.agg #[.string E.key, .int .i64 E.st, .int .i64 E.lf, .string E.bd]] wi fun e w' => e = .returned (.string (enFr E)) ∧ Below wi.heap.size wi w') := fun h wi hi => entryFrame_any wi E h (ht.below hi (Nat.le_refl _))
  obtain ⟨b0, b1, b2, b3⟩ := hx.cells
  have HX : Hid (EnB wb A 28 E ∧ Below w.heap.size w wb ∧ w.heap.size ≤ wb.heap.size) := ⟨hx, hb, hb.size⟩
  clear hx hb ht hk hbd
  cases hok : enOk E
  case false =>
    rw [keepL_out hok]
    have hok' : enOk ⟨E.key, E.st, E.lf, E.bd⟩ = false := hok
    rw [hok'] at c0
    clear hok hok'
    go_enter Tryd.func9, Tryd.ntmps9
    go_wp2_with fail
    refine c0.mono ?_
    rintro e w1 ⟨rfl, hb1⟩
    have HB1 : Hid (Below w.heap.size w w1) := HX.out.2.1.trans (hb1.mono HX.out.2.2)
    clear c0 hb1
    go_wp2_with fail
    go_ret2
    exact ⟨_, rfl, ownA_nil _ _ _, HB1.out⟩
  case true =>
    have hok' : enOk ⟨E.key, E.st, E.lf, E.bd⟩ = true := hok
    have c1 := HF.out hok
    rw [keepL_in hok]
    rw [hok'] at c0
    clear hok hok' HF
    unfold keepA
    generalize enFr E = t at c1 ⊢
    go_enter Tryd.func9, Tryd.ntmps9
    go_wp2_with fail
    refine c0.mono ?_
    rintro e w1 ⟨rfl, hb1⟩
    have HB1 : Hid (Below w.heap.size w w1) := HX.out.2.1.trans (hb1.mono HX.out.2.2)
    obtain ⟨b0, b1, b2, b3⟩ := (HX.out.1.on hb1).cells
    clear c0 hb1
    go_wp2_with fail
    refine (c1 _ HB1.out).mono ?_
    rintro e w2 ⟨rfl, hb2⟩
    have HB2 : Hid (Below w.heap.size w w2) := HB1.out.trans (hb2.mono HB1.out.size)
    clear c1 hb2 HB1
    go_wp2_with fail
    go_ret2
    exact ⟨_, rfl, (ownA_new w2 _ [⟨1, nKept, t, ⟨#[]⟩⟩, ⟨2, nKept, ⟨#[]⟩, ⟨#[]⟩⟩] _ rfl (by simp [maxLen])).mono HB2.out.size, HB2.out.alloc HB2.out.size _⟩
end Go.Proofs.YtepfblabdibggabDoor
