/- The law on InSomeOrder, walked. -/
import Derived.Test.YtogfkbkfcelgcaoOrderImpl
import Derived.Test.YtogfkbkfcelgcaoOrderSpec
import Derived.Test.YtogfkbkfcelgcaoCallsLaw
namespace Go.Proofs.Ytogfkbkfcelgcao
open Go.RowKit Go.Sort

theorem OwnK.capped {w : World} {base : Nat} {e : TypeId} {a : Option Addr} {n cap : Nat} {L : List Cl} (h : OwnK w base e (.slice a n cap) L) : L.length ≤ cap := by
  rcases h.2 with ⟨e, h0⟩ | ⟨g', cp, cur, e, _, _, h1, _⟩
  · simp only [Value.slice.injEq] at e; omega
  · simp only [Value.slice.injEq] at e; omega
set_option maxHeartbeats 2000000 in
theorem someOrder_walk (a : Option Addr) (cap : Nat) (L : List Cl) (w : World) (hL : KAt w a L w.heap.size) (hm : L.length ≤ maxLen) :
    Calls Try.prog 4 #[.slice a L.length cap] w fun e w' => e = .returned (.bool true) ∧ Below w.heap.size w w' := by
  have c0 := szCallS_any w a cap L.length 1048576 (by omega) (by omega) hm
  go_enter Try.func4, Try.ntmps4
  go_wp2_with fail
  refine c0.mono ?_
  rintro e w' ⟨r, rfl, hr, rfl⟩
  clear c0
  rcases hr with rfl | ⟨hr0, hr1⟩
  · go_wp2_with fail
    go_ret
    exact ⟨rfl, Below.refl _ _⟩
  · have HM : Hid (L.length ≤ 1048576) := by show _ ≤ _; omega
    have hr2 : ¬ (r < 0) := by omega
    have c1 := toCallS_any w' a cap L hL HM.out
    clear hr1 hr0 hm
    go_wp2_with fail
    refine c1.mono ?_
    rintro e w1 ⟨v1, rfl, ho1, hb1⟩
    obtain ⟨a1, k1, rfl, hK1⟩ := ho1.at
    have c2 := specOrder_any w1 a1 k1 L hK1 HM.out
    have hL1 := hL.on hb1
    clear c1 ho1
    go_wp2_with fail
    refine c2.mono ?_
    rintro e w2 ⟨rfl, hb2⟩
    have hL2 := hL1.on hb2
    have HB2 : Hid (Below w'.heap.size w' w2) := hb1.trans (hb2.mono hb1.size)
    have c3 := toCallS_any w2 a cap L hL2 HM.out
    clear c2 hK1 hL1 hb1 hb2
    go_wp2_with fail
    refine c3.mono ?_
    rintro e w3 ⟨v3, rfl, ho3, hb3⟩
    have hc3 : ∃ a k, v3 = .slice a L.length k ∧ KAt w3 a L w3.heap.size ∧ L.length ≤ k := by
      have h0 := ho3
      obtain ⟨a3, k3, rfl, hK3⟩ := ho3.at
      exact ⟨a3, k3, rfl, hK3, h0.capped⟩
    obtain ⟨a3, k3, rfl, hK3, hk3⟩ := hc3
    have hL3 := hL2.on hb3
    have HB3 : Hid (Below w'.heap.size w' w3) := HB2.out.trans (hb3.mono HB2.out.size)
    have c4 := implOrder_any w3 a3 k3 L hK3 hk3 HM.out
    clear c3 ho3 hL2 hb3 HB2
    go_wp2_with fail
    refine c4.mono ?_
    rintro e w4 ⟨rfl, hb4⟩
    have hL4 := hL3.on hb4
    have hK4 := hK3.on hb4
    have HB4 : Hid (Below w'.heap.size w' w4) := HB3.out.trans (hb4.mono HB3.out.size)
    have c5 := toCallS_any w4 a cap L hL4 HM.out
    obtain ⟨b, hb⟩ : ∃ b, orderL L = b := ⟨_, rfl⟩
    rw [hb]
    clear c4 hL3 hK3 hb4 HB3 hk3 hb
    have hbb : (b != b) = false := by simp
    go_wp2_with fail
    refine c5.mono ?_
    rintro e w5 ⟨v5, rfl, ho5, hb5⟩
    obtain ⟨a5, k5, rfl, hK5⟩ := ho5.at
    have c6 := eqCallS_same w5 a3 a5 k3 k5 L (hK4.on hb5) hK5 (by have := HM.out; omega)
    have HB5 : Hid (Below w'.heap.size w' w5) := HB4.out.trans (hb5.mono HB4.out.size)
    clear c5 ho5 hK4 hK5 hb5 hL4 HB4
    go_wp2_with fail
    refine c6.mono ?_
    rintro e w6 ⟨rfl, hb6⟩
    clear c6
    go_wp2_with fail
    go_ret
    exact ⟨rfl, HB5.out.trans (hb6.mono HB5.out.size)⟩
end Go.Proofs.Ytogfkbkfcelgcao
