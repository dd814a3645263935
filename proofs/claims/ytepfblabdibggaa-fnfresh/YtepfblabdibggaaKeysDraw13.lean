/- Keys are drawn: none is empty. Out of KeysDraw12. -/
import Derived.Test.YtepfblabdibggaaKeysDraw12
namespace Go.Proofs.Ytepfblabdibggaa
open Go.RowKit Go.Sort

def key2 (z : ByteArray) : Prop := 1 ≤ z.size ∧ z.size ≤ 2
theorem keyL12_two : ∀ z ∈ keyL12, key2 z := by
  have h : ∀ z ∈ keyL12, 1 ≤ z.size ∧ z.size ≤ 2 := by decide
  exact h
set_option maxHeartbeats 1000000 in
theorem l12Key2_any (w : World) (p : Nat) (ca : Option Addr) (n cap : Nat) (hc : Cur w p ca n cap) (hcode : CodeAt w ca n p) (hn : n ≤ 1048576) (hp : p < w.heap.size) :
    Calls Try.prog 51 #[.pointer (some ⟨p, 0, none⟩)] w fun e w' => ∃ z : ByteArray, key2 z ∧ e = .returned (.string z) ∧ Left w w' p ca n cap := by
  have c3 := pick_any (w.alloc (.cells (strs keyL12).toArray 9)) p ca n cap w.heap.size (.slice (some ⟨w.heap.size, 0, none⟩) 8 8) keyL12 (hc.alloc hp _) (hcode.alloc _) hn
      (World.ownsRow_lit (base := w.heap.size) (e := 9) (size := 1) w (strs keyL12).toArray 8 (Nat.le_refl _) (by simp [maxLen]) (by rfl)) hp (by decide) (by decide)
  clear hc hcode
  go_enter Try.func51, Try.ntmps51
  go_wp2_with fail
  refine c3.mono ?_
  rintro e w2 ⟨z, hz, rfl, hl2⟩
  have HZ : Hid (key2 z) := keyL12_two z hz
  clear hz
  go_wp2
  go_ret
  exact ⟨z, HZ.out, rfl, ⟨hl2.1, hl2.2.1, grownBy_trans (World.grownBy_alloc _ _ _) hl2.2.2⟩⟩
def keysT (P : List ByteArray) : Prop := ∀ p ∈ P, key2 p
end Go.Proofs.Ytepfblabdibggaa
