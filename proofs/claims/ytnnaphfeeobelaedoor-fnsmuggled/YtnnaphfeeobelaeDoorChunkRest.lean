/- The rest of what a reader of parts reads; a line's end is passed; a figure's value. -/
import Derived.Test.YtnnaphfeeobelaeDoorChunkKit
import Derived.Test.YtnnaphfeeobelaeDoorChunkIPlain
import Derived.Test.YtnnaphfeeobelaeDoorFiguresImpl
import Derived.Test.YtnnaphfeeobelaeDoorShelf
import Derived.BigQuiet
namespace Go.Proofs.YtnnaphfeeobelaeDoor
open Go.RowKit Go.Sort
set_option maxRecDepth 100000 in
theorem idx_fig : ∀ b : UInt8, Lib.indexByte [48, 49, 50, 51, 52, 53, 54, 55, 56, 57, 97, 98, 99, 100, 101, 102] b = if 65 ≤ b.toNat ∧ b.toNat ≤ 70 then -1 else hexI b := by
  intro b
  obtain ⟨n, hn⟩ : ∃ n : Fin 256, b = UInt8.ofNat n.val := ⟨⟨b.toNat, b.toNat_lt⟩, by simp⟩
  subst hn
  revert n
  decide
set_option maxRecDepth 100000 in
theorem hex_up (b : UInt8) (h1 : 65 ≤ b.toNat) (h2 : b.toNat ≤ 70) : hexI (UInt8.ofNat (b.toNat + 32)) = hexI b := by
  obtain ⟨n, hn⟩ : ∃ n : Fin 256, b = UInt8.ofNat n.val := ⟨⟨b.toNat, b.toNat_lt⟩, by simp⟩
  subst hn
  revert n
  decide
theorem figureOf_any (b : UInt8) (w : World) :
    Calls Tryd.prog 79 #[.int .u8 (b.toNat : Int)] w fun e w' => e = .returned (.int .i64 (hexI b)) ∧ w' = w := by
  have hlt : (b.toNat : Int) < 256 := by have := b.toNat_lt; omega
  have hge : (0 : Int) ≤ (b.toNat : Int) := by omega
  by_cases hu : 65 ≤ b.toNat ∧ b.toNat ≤ 70
  · have c1 := Tryd.strings_IndexByte ⟨#[48, 49, 50, 51, 52, 53, 54, 55, 56, 57, 97, 98, 99, 100, 101, 102]⟩ ((b.toNat : Int) + 32) w
    have e1 : (((b.toNat : Int) + 32).toNat).toUInt8 = UInt8.ofNat (b.toNat + 32) := by
      rw [show ((b.toNat : Int) + 32).toNat = b.toNat + 32 by omega]
    have e2 : Lib.indexByte [48, 49, 50, 51, 52, 53, 54, 55, 56, 57, 97, 98, 99, 100, 101, 102] (UInt8.ofNat (b.toNat + 32)) = hexI b := by
      rw [idx_fig, hex_up b hu.1 hu.2, if_neg]
      have h3 : (UInt8.ofNat (b.toNat + 32)).toNat = b.toNat + 32 := by simp; omega
      rw [h3]
      omega
    rw [e1] at c1
    rw [show (⟨#[48, 49, 50, 51, 52, 53, 54, 55, 56, 57, 97, 98, 99, 100, 101, 102]⟩ : ByteArray).data.toList = [48, 49, 50, 51, 52, 53, 54, 55, 56, 57, 97, 98, 99, 100, 101, 102] from rfl, e2] at c1
    have g1 : (65 : Int) ≤ (b.toNat : Int) := by omega
    have g2 : (b.toNat : Int) ≤ 70 := by omega
    have g3 : (b.toNat : Int) + 32 < 256 := by omega
    generalize hexI b = R at c1
    clear e1 e2 hu
    generalize (b.toNat : Int) = x at c1 g1 g2 g3 hlt hge
    go_enter Tryd.func79, Tryd.ntmps79
    go_wp2_with fail
    refine c1.mono ?_
    rintro e w' ⟨rfl, hw⟩
    rw [hw]
    go_wp2_with fail
    go_ret
    exact ⟨rfl, rfl⟩
  · have c1 := Tryd.strings_IndexByte ⟨#[48, 49, 50, 51, 52, 53, 54, 55, 56, 57, 97, 98, 99, 100, 101, 102]⟩ (b.toNat : Int) w
    have e1 : ((b.toNat : Int).toNat).toUInt8 = b := by simp
    have e2 : Lib.indexByte [48, 49, 50, 51, 52, 53, 54, 55, 56, 57, 97, 98, 99, 100, 101, 102] b = hexI b := by rw [idx_fig, if_neg hu]
    rw [e1] at c1
    rw [show (⟨#[48, 49, 50, 51, 52, 53, 54, 55, 56, 57, 97, 98, 99, 100, 101, 102]⟩ : ByteArray).data.toList = [48, 49, 50, 51, 52, 53, 54, 55, 56, 57, 97, 98, 99, 100, 101, 102] from rfl, e2] at c1
    have g1 : ¬ (65 : Int) ≤ (b.toNat : Int) ∨ ¬ (b.toNat : Int) ≤ 70 := by omega
    generalize hexI b = R at c1
    clear e1 e2 hu
    generalize (b.toNat : Int) = x at c1 g1 hlt hge
    rcases g1 with g1 | g1
    · go_enter Tryd.func79, Tryd.ntmps79
      go_wp2_with fail
      refine c1.mono ?_
      rintro e w' ⟨rfl, hw⟩
      rw [hw]
      go_wp2_with fail
      go_ret
      exact ⟨rfl, rfl⟩
    · have g2 : (65 : Int) ≤ x := by omega
      go_enter Tryd.func79, Tryd.ntmps79
      go_wp2_with fail
      refine c1.mono ?_
      rintro e w' ⟨rfl, hw⟩
      rw [hw]
      go_wp2_with fail
      go_ret
      exact ⟨rfl, rfl⟩
set_option maxHeartbeats 2000000 in
theorem rest_any (w : World) (T : Nat) (t : ByteArray) (k : Nat) (v : Value) (h : CBx w T t (k : Int) v) (hk : k ≤ t.size) :
    Calls Tryd.prog 70 #[.pointer (some ⟨T, 0, none⟩)] w fun e w' => e = .returned (.string (t.extract k t.size)) ∧ Below w.heap.size w w' := by
  obtain ⟨x0, x1, x2⟩ := h.cells
  have hsr := fun w => run_slice_string_l (P := Tryd.prog) w 9 t Tryd.underlying9 .i64 (k : Int) (by omega) (by omega)
  rw [Int.toNat_natCast] at hsr
  clear h
  go_enter Tryd.func70, Tryd.ntmps70
  go_wp2_with fail
  go_quiet (fail)
  go_wp2_with fail
  go_ret
  exact ⟨rfl, ⟨rfl, rfl, rfl, Nat.le_refl _, fun _ _ => rfl⟩⟩
end Go.Proofs.YtnnaphfeeobelaeDoor
