/- The walk of the law on AllKept. -/
import Derived.Test.YtghladeamdhlhalKeptSpec
import Derived.Test.YtghladeamdhlhalKeptImpl
import Derived.Test.YtghladeamdhlhalLawKit
namespace Go.Proofs.Ytghladeamdhlhal
open Go.RowKit Go.Sort

set_option maxHeartbeats 2000000 in
theorem allKept_walk (a : Option Addr) (cap : Nat) (L : List Fil) (w : World) (hL : FAt w a L w.heap.size) (hs : Sized L) (hm : L.length ≤ maxLen) :
    Calls Try.prog 7 #[.agg #[.slice a L.length cap]] w fun e w' => e = .returned (.bool true) ∧ Below w.heap.size w w' := by
  obtain ⟨wb, hwb⟩ : ∃ wb, w.alloc (.cells #[.slice a L.length cap] 24) = wb := ⟨_, rfl⟩
  have hb : Below w.heap.size w wb := by rw [← hwb]; exact (Below.refl _ _).alloc (Nat.le_refl _) _
  have hbs : w.heap.size < wb.heap.size := by rw [← hwb]; simp
  have hbox : wb.cell? ⟨w.heap.size, 0, none⟩ = some (.slice a L.length cap) := by rw [← hwb]; simp
  have hLb : FAt wb a L wb.heap.size := FAt.on hL hb
  have HB : Hid (∀ wi, Below wb.heap.size wb wi → wi.cell? ⟨w.heap.size, 0, none⟩ = some (.slice a L.length cap) ∧ FAt wi a L wi.heap.size ∧ Below w.heap.size w wi) := fun wi hi => ⟨(hi.cell hbs).trans hbox, FAt.on hLb hi, bthen hb hi⟩
  have c0 := szDisk_any wb a cap L 1048576 (by omega) (by omega) hLb hs hm
  have HW : Hid (w.alloc (.cells #[.slice a L.length cap] 24) = wb) := hwb
  clear hL hs hb hwb
  go_enter Try.func7, Try.ntmps7
  go_wp2_with fail
  rw [HW.out]
  refine c0.mono ?_
  rintro e w1 ⟨r, rfl, hr, hb1⟩
  obtain ⟨q1, hL1, hw1⟩ := HB.out w1 hb1
  clear c0
  rcases hr with rfl | ⟨hr0, hr1⟩
  · go_wp2
    go_ret
    exact ⟨rfl, hw1⟩
  · have hlen : L.length ≤ 1048576 := by omega
    clear hr1
    go_wp2_with fail
    refine (toDisk_any w1 a cap L hL1 hlen).mono ?_
    rintro e w2 ⟨v2, rfl, ho2, hb2⟩
    have hB2 := bthen hb1 hb2
    obtain ⟨a2, cap2, rfl, hA2⟩ := ho2.at
    obtain ⟨q2, hL2, hw2⟩ := HB.out w2 hB2
    go_wp2_with fail
    refine (specAllKept_any w2 a2 cap2 L hA2 hlen).mono ?_
    rintro e w3 ⟨rfl, hb3⟩
    have hB3 := bthen hB2 hb3
    obtain ⟨q3, hL3, hw3⟩ := HB.out w3 hB3
    go_wp2_with fail
    refine (toDisk_any w3 a cap L hL3 hlen).mono ?_
    rintro e w4 ⟨v4, rfl, ho4, hb4⟩
    have hB4 := bthen hB3 hb4
    obtain ⟨a4, cap4, rfl, hA4⟩ := ho4.at
    obtain ⟨w5, hw5⟩ : ∃ w5, w4.alloc (.cells #[.slice a4 L.length cap4] 31) = w5 := ⟨_, rfl⟩
    have hb5 : Below w4.heap.size w4 w5 := by rw [← hw5]; exact (Below.refl _ _).alloc (Nat.le_refl _) _
    have hx5 : w5.cell? ⟨w4.heap.size, 0, none⟩ = some (.slice a4 L.length cap4) := by rw [← hw5]; simp
    have hxs : w4.heap.size < w5.heap.size := by rw [← hw5]; simp
    have ho5 := ho4.below hb5 (Nat.le_refl _)
    have HW5 : Hid (w4.alloc (.cells #[.slice a4 L.length cap4] 31) = w5) := hw5
    clear hw5
    have hB5 := bthen hB4 hb5
    go_wp2_with fail
    rw [HW5.out]
    refine (implAllKept_any w5 a4 cap4 L (FAt.on hA4 hb5) hlen).mono ?_
    rintro e w6 ⟨rfl, hb6⟩
    have hB6 := bthen hB5 hb6
    obtain ⟨q6, hL6, hw6⟩ := HB.out w6 hB6
    have x6 := (hb6.cell (p := ⟨w4.heap.size, 0, none⟩) hxs).trans hx5
    have ho6 := ho5.below hb6 (Nat.le_refl _)
    have hS0 : Below w6.heap.size w6 w6.drew ∧ w6.drew.cell? ⟨w4.heap.size, 0, none⟩ = some (.slice a4 L.length cap4) ∧ w6.drew.cell? ⟨w.heap.size, 0, none⟩ = some (.slice a L.length cap) := ⟨⟨rfl, rfl, rfl, Nat.le_refl _, fun _ _ => rfl⟩, x6, q6⟩
    have hp1 : w4.heap.size < w6.heap.size := Nat.lt_of_lt_of_le hxs hb6.size
    have hp2 : w.heap.size < w6.heap.size := Nat.lt_of_lt_of_le hbs hB6.size
    cases hok : aK L with
    | true =>
      go_wp2
      go_region_held3 (fun w' => Below w6.heap.size w6 w' ∧ w'.cell? ⟨w4.heap.size, 0, none⟩ = some (.slice a4 L.length cap4) ∧ w'.cell? ⟨w.heap.size, 0, none⟩ = some (.slice a L.length cap)) (first | exact hS0 | (refine kept2 (by assumption) hp1 hp2 ?_; assumption))
        (first
          | (go_at_call 11; refine (toDisk_any _ a cap L (FAt.on hL6 (And.left (by assumption))) hlen).mono ?_; rintro e w7 ⟨v7, rfl, ho7, hb7⟩; obtain ⟨a7, cap7, rfl, hA7⟩ := ho7.at)
          | (go_at_call 14; refine (eqDisk_same _ _ _ _ _ L (ho6.below (And.left (by assumption)) (Nat.le_refl _)) ho7 hlen).mono ?_; rintro e w8 ⟨rfl, hb8⟩))
      go_wp2
      go_ret
      exact ⟨rfl, bthen hw6 (And.left (by assumption))⟩
    | false =>
      go_wp2
      go_region_held3 (fun w' => Below w6.heap.size w6 w' ∧ w'.cell? ⟨w4.heap.size, 0, none⟩ = some (.slice a4 L.length cap4) ∧ w'.cell? ⟨w.heap.size, 0, none⟩ = some (.slice a L.length cap)) (first | exact hS0 | (refine kept2 (by assumption) hp1 hp2 ?_; assumption))
        (first
          | (go_at_call 11; refine (toDisk_any _ a cap L (FAt.on hL6 (And.left (by assumption))) hlen).mono ?_; rintro e w7 ⟨v7, rfl, ho7, hb7⟩; obtain ⟨a7, cap7, rfl, hA7⟩ := ho7.at)
          | (go_at_call 14; refine (eqDisk_same _ _ _ _ _ L (ho6.below (And.left (by assumption)) (Nat.le_refl _)) ho7 hlen).mono ?_; rintro e w8 ⟨rfl, hb8⟩))
      go_wp2
      go_ret
      exact ⟨rfl, bthen hw6 (And.left (by assumption))⟩
end Go.Proofs.Ytghladeamdhlhal
