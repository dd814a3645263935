/- How long: the program. -/
import Derived.Test.YtnnaphfeeobeladDoorCtBox
namespace Go.Proofs.YtnnaphfeeobeladDoor
open Go.RowKit Go.Sort
set_option maxRecDepth 100000 in
set_option maxHeartbeats 4000000 in
theorem implLifetime_any (w : World) (c : Ct) :
    Calls Tryd.prog 33 #[.agg #[.bool c.ns, .bool c.nc, .int .i64 c.ma, .int .i64 c.sh]] w fun e w' => e = .returned (.int .i64 (lifeC c)) ∧ Below w.heap.size w w' := by
  obtain ⟨wb, hwb⟩ : ∃ wb, w.alloc (.cells #[.bool c.ns, .bool c.nc, .int .i64 c.ma, .int .i64 c.sh] 47) = wb := ⟨_, rfl⟩
  have hb : Below w.heap.size w wb := by rw [← hwb]; exact (Below.refl _ _).alloc (Nat.le_refl _) _
  have hX : CtB wb w.heap.size c := by rw [← hwb]; exact heap_alloc_new w _
  obtain ⟨b0, b1, b2, b3⟩ := hX.cells
  have HB : Hid (Below w.heap.size w wb) := hb
  obtain ⟨n, hn⟩ : ∃ n, lifeC c = n := ⟨_, rfl⟩
  rw [hn]
  have HN : Hid (lifeC c = n) := hn
  clear hb hX hn
  by_cases h1 : c.ns = true ∨ c.nc = true
  · have HR : Hid (n = 0) := by show _ = _; rw [← HN.out]; unfold lifeC; rw [if_pos h1]
    cases e0 : c.ns with
    | true =>
      rw [e0] at b0 hwb
      clear h1 HN
      go_enter Tryd.func33, Tryd.ntmps33
      go_wp2
      go_ret
      exact ⟨by rw [HR.out]; rfl, HB.out⟩
    | false =>
      have e1 : c.nc = true := by rcases h1 with h | h; (rw [e0] at h; cases h); exact h
      rw [e0] at b0 hwb
      rw [e1] at b1 hwb
      rw [e1]
      clear h1 HN
      go_enter Tryd.func33, Tryd.ntmps33
      go_wp2
      go_ret
      exact ⟨by rw [HR.out]; rfl, HB.out⟩
  · have e0 : c.ns = false := by cases h : c.ns; rfl; exact absurd (.inl h) h1
    have e1 : c.nc = false := by cases h : c.nc; rfl; exact absurd (.inr h) h1
    rw [e0] at b0 hwb
    rw [e1] at b1 hwb
    rw [e0, e1]
    obtain ⟨x, hx⟩ : ∃ x, c.ma = x := ⟨_, rfl⟩
    obtain ⟨y, hy⟩ : ∃ y, c.sh = y := ⟨_, rfl⟩
    have HL : Hid (n = if 0 ≤ y then y else if 0 ≤ x then x else 0) := by show _ = _; rw [← HN.out]; unfold lifeC; rw [if_neg h1, hx, hy]
    rw [hx] at b2 hwb
    rw [hy] at b3 hwb
    rw [hx, hy]
    clear h1 HN e0 e1 hx hy
    by_cases h2 : 0 ≤ y
    · have HR : Hid (n = y) := by show _ = _; rw [HL.out, if_pos h2]
      have h2i : (decide (y ≥ 0)) = true := decide_eq_true h2
      clear HL
      go_enter Tryd.func33, Tryd.ntmps33
      go_wp2
      go_ret
      exact ⟨by rw [HR.out]; rfl, HB.out⟩
    · by_cases h3 : 0 ≤ x
      · have HR : Hid (n = x) := by show _ = _; rw [HL.out, if_neg h2, if_pos h3]
        have hm : max x 0 = x := by omega
        clear HL
        go_enter Tryd.func33, Tryd.ntmps33
        go_wp2
        go_ret
        exact ⟨by rw [HR.out]; rfl, HB.out⟩
      · have HR : Hid (n = 0) := by show _ = _; rw [HL.out, if_neg h2, if_neg h3]
        have hm : max x 0 = 0 := by omega
        clear HL
        go_enter Tryd.func33, Tryd.ntmps33
        go_wp2
        go_ret
        exact ⟨by rw [HR.out]; rfl, HB.out⟩
end Go.Proofs.YtnnaphfeeobeladDoor
