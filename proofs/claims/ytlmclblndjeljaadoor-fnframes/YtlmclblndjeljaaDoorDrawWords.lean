/- The draws of the chapter on words. -/
import Derived.Test.YtlmclblndjeljaaDoorDraws
namespace Go.Proofs.YtlmclblndjeljaaDoor
open Go.RowKit

def pickL : List Int := [-1, 0, 127, 128, 16383, 16384, 1000000000, 1000000001, 9223372036854775807, -9223372036854775808]
theorem pickL_bd : ∀ z ∈ pickL, -9223372036854775808 ≤ z ∧ z ≤ 9223372036854775807 := by decide

set_option maxHeartbeats 1000000 in
set_option maxRecDepth 100000 in
theorem number_any (w : World) (p : Nat) (ca : Option Addr) (n cap : Nat) (hc : Cur w p ca n cap) (hcode : CodeAt w ca n p) (hn : n ≤ 1048576) (hp : p < w.heap.size) :
    Calls Tryd.prog 26 #[.pointer (some ⟨p, 0, none⟩)] w fun e w' => ∃ z : Int, -9223372036854775808 ≤ z ∧ z ≤ 9223372036854775807 ∧ e = .returned (.int .i64 z) ∧ Left w w' p ca n cap := by
  have c1 := below_any w p ca n cap 4 hc hcode hn (by omega) (by omega)
  clear hc hcode
  go_enter Tryd.func26, Tryd.ntmps26
  go_wp2_with fail
  refine c1.mono ?_
  rintro e w1 ⟨x, _, _, rfl, hl⟩
  have c2 := fun m (h1 : -9223372036854775808 ≤ m) (h2 : m ≤ 9223372036854775807) => below_any w1 p ca n cap m hl.1 hl.2.1 hn h1 h2
  have hsz := hl.2.2.size
  have hp1 : p < w1.heap.size := by omega
  rcases (show x = 0 ∨ x = 1 ∨ 2 ≤ x by omega) with rfl | rfl | hx
  · have c3 := pickInt_any (w1.alloc (.cells (ints pickL).toArray 3)) p ca n cap w1.heap.size (.slice (some ⟨w1.heap.size, 0, none⟩) 10 10) pickL (hl.1.alloc hp1 _) (hl.2.1.alloc _) hn
      (World.ownsRow_lit (base := w1.heap.size) (e := 3) (size := 1) w1 (ints pickL).toArray 10 (Nat.le_refl _) (by simp [maxLen]) (by rfl)) hp1 (by decide) (by decide)
    have H3 : Hid (Left w w1 p ca n cap) := hl
    go_wp2_with fail
    refine c3.mono ?_
    rintro e w2 ⟨z, hz, rfl, hl2⟩
    have hb := pickL_bd z hz
    go_wp2
    go_ret
    exact ⟨z, hb.1, hb.2, rfl, ⟨hl2.1, hl2.2.1, grownBy_trans H3.out.2.2 (grownBy_trans (World.grownBy_alloc _ _ _) hl2.2.2)⟩⟩
  · have H3 : Hid (Left w w1 p ca n cap) := hl
    go_wp2_with fail
    refine (c2 1000000000 (by omega) (by omega)).mono ?_
    rintro e w2 ⟨y, hy, _, rfl, hl2⟩
    have := hy (by omega)
    go_wp2
    go_ret
    exact ⟨y, by omega, by omega, rfl, H3.out.trans hl2⟩
  · have H3 : Hid (Left w w1 p ca n cap) := hl
    have e0 : ((x : Int) == 0) = false := by simp; omega
    have e1 : ((x : Int) == 1) = false := by simp; omega
    go_wp2_with fail
    refine (c2 400 (by omega) (by omega)).mono ?_
    rintro e w2 ⟨y, hy, _, rfl, hl2⟩
    have := hy (by omega)
    go_wp2
    go_ret
    exact ⟨y, by omega, by omega, rfl, H3.out.trans hl2⟩

set_option maxHeartbeats 1000000 in
theorem drawVarText_any (w : World) (ca : Option Addr) (n cap : Nat) (hcode : CodeAt w ca n w.heap.size) (hn : n ≤ 1048576) :
    Calls Tryd.prog 7 #[.slice ca n cap] w fun e w' => ∃ z : Int, -9223372036854775808 ≤ z ∧ z ≤ 9223372036854775807 ∧ e = .returned (.int .i64 z) ∧ Below w.heap.size w w' := by
  have c1 := new_any w ca n cap hcode hn
  clear hcode
  go_enter Tryd.func7, Tryd.ntmps7
  go_wp2_with fail
  refine c1.mono ?_
  rintro e w1 ⟨p, rfl, hp1, hp2, hcur, hcd, hb1⟩
  have c2 := number_any w1 p ca n cap hcur hcd hn hp1
  clear hcur hcd
  go_wp2_with fail
  refine c2.mono ?_
  rintro e w2 ⟨z, hz1, hz2, rfl, hl⟩
  go_wp2
  go_ret
  exact ⟨z, hz1, hz2, rfl, below_of_left hb1 hp2 hl⟩

set_option maxHeartbeats 1000000 in
theorem drawHex_any (w : World) (ca : Option Addr) (n cap : Nat) (hcode : CodeAt w ca n w.heap.size) (hn : n ≤ 1048576) :
    Calls Tryd.prog 12 #[.slice ca n cap] w fun e w' => ∃ s : ByteArray, s.size ≤ 1048576 ∧ e = .returned (.string s) ∧ Below w.heap.size w w' := by
  have c1 := new_any w ca n cap hcode hn
  clear hcode
  go_enter Tryd.func12, Tryd.ntmps12
  go_wp2_with fail
  refine c1.mono ?_
  rintro e w1 ⟨p, rfl, hp1, hp2, hcur, hcd, hb1⟩
  have c2 := once_any w1 p ca n cap 60 hcur hcd hn (by omega) (by omega)
  go_wp2_with fail
  refine c2.mono ?_
  rintro e w2 ⟨b, rfl, hl2⟩
  have hb2 := below_of_left hb1 hp2 hl2
  cases b with
  | true =>
    have c3 := below_any w2 p ca n cap 2 hl2.1 hl2.2.1 hn (by omega) (by omega)
    clear hcur hcd c1 c2 hl2
    go_wp2_with fail
    refine c3.mono ?_
    rintro e w3 ⟨x, hx, _, rfl, hl3⟩
    have hx2 := hx (by omega)
    have c4 := long_any w3 (20000 + (x : Int)) 200 (by omega) (by omega) (by omega) (by omega)
    have hb3 := Below.grown hb2 hl3.2.2 hb2.size (fun k hk => by simp at hk; omega)
    go_wp2_with fail
    refine c4.mono ?_
    rintro e w4 ⟨s, hs, rfl, hb4⟩
    go_wp2
    go_ret
    exact ⟨s, by omega, rfl, hb3.trans (hb4.mono hb3.size)⟩
  | false =>
    have c3 := below_any w2 p ca n cap 30 hl2.1 hl2.2.1 hn (by omega) (by omega)
    clear hcur hcd c1 c2 hl2
    go_wp2_with fail
    refine c3.mono ?_
    rintro e w3 ⟨x, hx, _, rfl, hl3⟩
    have hx2 := hx (by omega)
    have c4 := text_any w3 p ca n cap (x : Int) hl3.1 hl3.2.1 hn (by omega) (by omega)
    have hb3 := Below.grown hb2 hl3.2.2 hb2.size (fun k hk => by simp at hk; omega)
    go_wp2_with fail
    refine c4.mono ?_
    rintro e w4 ⟨s, hs, rfl, hl4⟩
    have hb4 := Below.grown hb3 hl4.2.2 hb3.size (fun k hk => by simp at hk; omega)
    go_wp2
    go_ret
    exact ⟨s, by omega, rfl, hb4⟩
end Go.Proofs.YtlmclblndjeljaaDoor
