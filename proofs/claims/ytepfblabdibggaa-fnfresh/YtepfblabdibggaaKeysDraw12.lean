/- Keys are drawn. -/
import Derived.Test.YtepfblabdibggaaDraws
import Derived.Test.YtepfblabdibggaaStrs
import Derived.Test.YtepfblabdibggaaInts
namespace Go.Proofs.Ytepfblabdibggaa
open Go.RowKit Go.Sort

def keyL12 : List ByteArray := [⟨#[47, 97]⟩, ⟨#[47, 98]⟩, ⟨#[47, 99]⟩, ⟨#[47, 100]⟩, ⟨#[47, 101]⟩, ⟨#[47, 102]⟩, ⟨#[47, 103]⟩, ⟨#[47, 104]⟩]
theorem keyL12_size : ∀ z ∈ keyL12, z.size ≤ 2 := by decide
theorem OwnV.past12 {w w1 : World} {p base : Nat} {e : TypeId} {v : Value} {xs : List Value} {ca : Option Addr} {n cap : Nat} (h : OwnV w base e v xs) (hl : Left w w1 p ca n cap) (hp : p < base) : OwnV w1 base e v xs :=
  h.grown hl.2.2 fun q hq e => by
    have := (h.lt q hq).1
    simp at e
    omega
theorem Try.infoS12 : (Try.prog.info? 9).map (fun i => (i.zero, i.size, i.bytes)) = some (some (.string ⟨#[]⟩), 1, 16) := by kernel_rfl
set_option maxHeartbeats 1000000 in
theorem l12Key_any (w : World) (p : Nat) (ca : Option Addr) (n cap : Nat) (hc : Cur w p ca n cap) (hcode : CodeAt w ca n p) (hn : n ≤ 1048576) (hp : p < w.heap.size) :
    Calls Try.prog 51 #[.pointer (some ⟨p, 0, none⟩)] w fun e w' => ∃ z : ByteArray, z.size ≤ 2 ∧ e = .returned (.string z) ∧ Left w w' p ca n cap := by
  have c3 := pick_any (w.alloc (.cells (strs keyL12).toArray 9)) p ca n cap w.heap.size (.slice (some ⟨w.heap.size, 0, none⟩) 8 8) keyL12 (hc.alloc hp _) (hcode.alloc _) hn
      (World.ownsRow_lit (base := w.heap.size) (e := 9) (size := 1) w (strs keyL12).toArray 8 (Nat.le_refl _) (by simp [maxLen]) (by rfl)) hp (by decide) (by decide)
  clear hc hcode
  go_enter Try.func51, Try.ntmps51
  go_wp2_with fail
  refine c3.mono ?_
  rintro e w2 ⟨z, hz, rfl, hl2⟩
  have HZ : Hid (z.size ≤ 2) := keyL12_size z hz
  clear hz
  go_wp2
  go_ret
  exact ⟨z, HZ.out, rfl, ⟨hl2.1, hl2.2.1, grownBy_trans (World.grownBy_alloc _ _ _) hl2.2.2⟩⟩
def keysB (P : List ByteArray) : Prop := ∀ p ∈ P, p.size ≤ 2
end Go.Proofs.Ytepfblabdibggaa
