/- What is done to keep an entry: the other text's walk. -/
import Derived.Test.YtepfblabdibggabDoorEntActs
import Derived.Test.YtepfblabdibggabDoorEntText
import Derived.Test.YtepfblabdibggabDoorFrameSpec
namespace Go.Proofs.YtepfblabdibggabDoor
open Go.RowKit
set_option maxRecDepth 100000 in
set_option maxHeartbeats 2000000 in
theorem specKeepActs_any (w : World) (E : En) (hk : E.key.size ≤ 1099511627776) (hbd : E.bd.size ≤ 1099511627776) :
    Calls Tryd.prog 7 #[.agg #[.string E.key, .int .i64 E.st, .int .i64 E.lf, .string E.bd]] w fun e w' => ∃ v, e = .returned (.tuple #[v, .bool (enOk E)]) ∧ OwnA w' w.heap.size 57 v (keepL E) ∧ Below w.heap.size w w' := by
  obtain ⟨wb, hwb⟩ : ∃ wb, w.alloc (.cells #[.string E.key, .int .i64 E.st, .int .i64 E.lf, .string E.bd] 28) = wb := ⟨_, rfl⟩
  have hb : Below w.heap.size w wb := by rw [← hwb]; exact (Below.refl _ _).alloc (Nat.le_refl _) _
  obtain ⟨A, hA⟩ : ∃ A, w.heap.size = A := ⟨_, rfl⟩
  have hx : EnB wb A 28 E := by rw [← hwb, ← hA]; exact EnB.new w _ E
  have c0 := specEntryText_any wb E.key E.bd E.st E.lf hk hbd
  have HS : Hid (enOk E = true → 1 ≤ (enAll E).size ∧ (enAll E).size ≤ 457) := enAll_size
  obtain ⟨b0, b1, b2, b3⟩ := hx.cells
  have HX : Hid (Below w.heap.size w wb ∧ w.heap.size ≤ wb.heap.size) := ⟨hb, hb.size⟩
  clear hx hb hk hbd
  cases hok : enOk E
  case false =>
    rw [keepL_out hok]
    have hok' : enOk ⟨E.key, E.st, E.lf, E.bd⟩ = false := hok
    rw [enText_out hok', hok'] at c0
    clear hok hok'
    have c1 := fun w => specFrame_any ⟨#[]⟩ w
    rw [show frOk ⟨#[]⟩ = false from frOk_out (by simp [ByteArray.size]), show frText ⟨#[]⟩ = ⟨#[]⟩ from frText_out (by simp [ByteArray.size])] at c1
    go_enter Tryd.func7, Tryd.ntmps7
    go_wp2_with fail
    refine c0.mono ?_
    rintro e w1 ⟨rfl, hb1⟩
    have HB1 : Hid (Below w.heap.size w w1) := HX.out.1.trans (hb1.mono HX.out.2)
    clear c0 hb1
    go_wp2_with fail
    refine (c1 _).mono ?_
    rintro e w2 ⟨rfl, hb2⟩
    have HB2 : Hid (Below w.heap.size w w2) := HB1.out.trans (hb2.mono HB1.out.size)
    clear c1 hb2 HB1
    go_wp2_with fail
    go_ret2
    exact ⟨_, rfl, (ownA_new w2 _ [] _ rfl (by simp [maxLen])).mono HB2.out.size, HB2.out.alloc HB2.out.size _⟩
  case true =>
    have hok' : enOk ⟨E.key, E.st, E.lf, E.bd⟩ = true := hok
    rw [keepL_in hok]
    rw [enText_in hok', hok'] at c0
    have HS' : Hid (1 ≤ (enAll E).size ∧ (enAll E).size ≤ 457) := HS.out hok
    clear hok hok' HS
    have c1 := fun w => specFrame_in (enAll E) w HS'.out.1 (by have := HS'.out.2; omega)
    unfold keepA
    have hfr : frAll (enAll E) = enFr E := rfl
    rw [hfr] at c1
    have hee : (⟨E.key, E.st, E.lf, E.bd⟩ : En) = E := rfl
    rw [hee] at c0
    generalize enAll E = x at c0 c1
    generalize enFr E = t at c1 ⊢
    go_enter Tryd.func7, Tryd.ntmps7
    go_wp2_with fail
    refine c0.mono ?_
    rintro e w1 ⟨rfl, hb1⟩
    have HB1 : Hid (Below w.heap.size w w1) := HX.out.1.trans (hb1.mono HX.out.2)
    clear c0 hb1
    go_wp2_with fail
    refine (c1 _).mono ?_
    rintro e w2 ⟨rfl, hb2⟩
    have HB2 : Hid (Below w.heap.size w w2) := HB1.out.trans (hb2.mono HB1.out.size)
    clear c1 hb2 HB1
    go_wp2_with fail
    go_ret2
    exact ⟨_, rfl, (ownA_new w2 _ [⟨1, nKept, t, ⟨#[]⟩⟩, ⟨2, nKept, ⟨#[]⟩, ⟨#[]⟩⟩] _ rfl (by simp [maxLen])).mono HB2.out.size, HB2.out.alloc HB2.out.size _⟩
end Go.Proofs.YtepfblabdibggabDoor
