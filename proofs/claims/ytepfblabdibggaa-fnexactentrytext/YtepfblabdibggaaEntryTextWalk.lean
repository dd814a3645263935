/- Exact EntryText, walked. -/
import Derived.Test.YtepfblabdibggaaEnLaw
import Derived.Test.YtepfblabdibggaaEntText
namespace Go.Proofs.Ytepfblabdibggaa
open Go.RowKit
set_option maxRecDepth 100000 in
set_option maxHeartbeats 4000000 in
theorem entryText_walk (E : En) (w : World) (hS : E.Sized) :
    Calls Try.prog 6 #[.agg #[.string E.key, .int .i64 E.st, .int .i64 E.lf, .string E.bd]] w fun e w' => e = .returned (.bool true) ∧ Below w.heap.size w w' := by
  obtain ⟨k, s, l, b⟩ := E
  obtain ⟨⟨hn, ht⟩, _, _⟩ := hS
  dsimp only at hn ht ⊢
  obtain ⟨A, hA⟩ : ∃ A, w.heap.size = A := ⟨_, rfl⟩
  obtain ⟨wb, hwb⟩ : ∃ wb, w.alloc (.cells #[.string k, .int .i64 s, .int .i64 l, .string b] 36) = wb := ⟨_, rfl⟩
  have hb : Below w.heap.size w wb := by rw [← hwb]; exact (Below.refl _ _).alloc (Nat.le_refl _) _
  have hx : EnB wb A 36 ⟨k, s, l, b⟩ := by rw [← hwb, ← hA]; exact EnB.new w _ ⟨k, s, l, b⟩
  have HX : Hid (∀ wi : World, Below wb.heap.size wb wi → wi.cell? ⟨A, 0, none⟩ = some (.string k) ∧ wi.cell? ⟨A, 1, none⟩ = some (.int .i64 s) ∧ wi.cell? ⟨A, 2, none⟩ = some (.int .i64 l) ∧ wi.cell? ⟨A, 3, none⟩ = some (.string b)) := fun wi hi => (hx.on hi).cells
  have HB : Hid (Below A w wb ∧ A ≤ wb.heap.size) := ⟨by rw [← hA]; exact hb, Nat.le_of_lt hx.lt⟩
  have HW : Hid (Below wb.heap.size wb wb) := Below.refl _ _
  have c0 := szEntry_any wb k b s l 1048576 (by omega) (by omega) hn ht
  obtain ⟨b0, b1, b2, b3⟩ := HX.out wb HW.out
  clear hb hx hn ht
  go_enter Try.func6, Try.ntmps6
  go_wp2_with fail
  refine c0.mono ?_
  rintro e w1 ⟨r, rfl, hr, hb⟩
  have HW : Hid (Below wb.heap.size wb w1) := HW.out.trans (hb.mono HW.out.size)
  obtain ⟨b0, b1, b2, b3⟩ := HX.out w1 HW.out
  clear hb c0
  rcases hr with rfl | ⟨hr0, hr1⟩
  · go_wp2_with fail
    go_ret
    exact ⟨rfl, by rw [hA]; exact HB.out.1.trans (HW.out.mono HB.out.2)⟩
  have CS : Hid (∀ wi, Calls Try.prog 22 #[.agg #[.string k, .int .i64 s, .int .i64 l, .string b]] wi fun e w' => e = .returned (.tuple #[.string (enText ⟨k, s, l, b⟩), .bool (enOk ⟨k, s, l, b⟩)]) ∧ Below wi.heap.size wi w') := fun wi => specEntryText_any wi k b s l (by omega) (by omega)
  have CI : Hid (∀ wi, Calls Try.prog 10 #[.agg #[.string k, .int .i64 s, .int .i64 l, .string b]] wi fun e w' => e = .returned (.tuple #[.string (enText ⟨k, s, l, b⟩), .bool (enOk ⟨k, s, l, b⟩)]) ∧ Below wi.heap.size wi w') := fun wi => implEntryText_any wi k b s l (by omega) (by omega)
  clear hr1
  generalize enOk ⟨k, s, l, b⟩ = t at CS CI
  generalize enText ⟨k, s, l, b⟩ = T at CS CI
  have htt : (t != t) = false := by simp
  go_wp2_with fail
  refine (toEntry_any _ k b s l).mono ?_
  rintro e w2 ⟨rfl, hb⟩
  have HW : Hid (Below wb.heap.size wb w2) := HW.out.trans (hb.mono HW.out.size)
  clear hb b0 b1 b2 b3
  go_wp2_with fail
  refine (CS.out _).mono ?_
  rintro e w3 ⟨rfl, hb⟩
  have HW : Hid (Below wb.heap.size wb w3) := HW.out.trans (hb.mono HW.out.size)
  obtain ⟨b0, b1, b2, b3⟩ := HX.out w3 HW.out
  clear hb
  go_wp2_with fail
  refine (toEntry_any _ k b s l).mono ?_
  rintro e w4 ⟨rfl, hb⟩
  have HW : Hid (Below wb.heap.size wb w4) := HW.out.trans (hb.mono HW.out.size)
  clear hb b0 b1 b2 b3
  go_wp2_with fail
  refine (CI.out _).mono ?_
  rintro e w5 ⟨rfl, hb⟩
  have HW : Hid (Below wb.heap.size wb w5) := HW.out.trans (hb.mono HW.out.size)
  clear hb
  go_wp2_with fail
  go_ret
  exact ⟨rfl, by rw [hA]; exact HB.out.1.trans (HW.out.mono HB.out.2)⟩
end Go.Proofs.Ytepfblabdibggaa
