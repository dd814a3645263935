/- The walks over the cursor of a draw: what comes is some number within its bounds. -/
import Derived.Test.YtepfblabdibggaaBase
import Derived.Test.YtepfblabdibggaaRowed
import Derived.BigQuiet
import Derived.Laws.Bits128
import Derived.Deep.RegionHeld3
namespace Go.Proofs.Ytepfblabdibggaa
open Go.RowKit

/-- The bytes of a draw lie where the slice says. -/
def CodeAt (w : World) (ca : Option Addr) (n : Nat) (B : Nat) : Prop :=
  ∀ j, j < n → ∃ b off, ∃ z : Int, ca = some ⟨b, off, none⟩ ∧ b < B ∧ w.cell? ⟨b, off + j, none⟩ = some (.int .u8 z) ∧ 0 ≤ z ∧ z ≤ 255

/-- The cursor's block. -/
def CurIs (w : World) (p : Nat) (ca : Option Addr) (n cap : Nat) (i h : Int) : Prop :=
  w.heap[p]? = some (.cells #[.slice ca n cap, .int .i64 i, .int .i64 h] 63 (0, 0))
def Cur (w : World) (p : Nat) (ca : Option Addr) (n cap : Nat) : Prop := ∃ i h : Int, CurIs w p ca n cap i h ∧ 0 ≤ i ∧ i ≤ n ∧ -9223372036854775808 ≤ h ∧ h ≤ 9223372036854775807

theorem CurIs.c0 {w : World} {p : Nat} {ca : Option Addr} {n cap : Nat} {i h : Int} (c : CurIs w p ca n cap i h) : w.cell? ⟨p, 0, none⟩ = some (.slice ca n cap) := by unfold CurIs at c; simp [World.cell?, c]
theorem CurIs.c1 {w : World} {p : Nat} {ca : Option Addr} {n cap : Nat} {i h : Int} (c : CurIs w p ca n cap i h) : w.cell? ⟨p, 1, none⟩ = some (.int .i64 i) := by unfold CurIs at c; simp [World.cell?, c]
theorem CurIs.c2 {w : World} {p : Nat} {ca : Option Addr} {n cap : Nat} {i h : Int} (c : CurIs w p ca n cap i h) : w.cell? ⟨p, 2, none⟩ = some (.int .i64 h) := by unfold CurIs at c; simp [World.cell?, c]
theorem CurIs.fr {w : World} {p : Nat} {ca : Option Addr} {n cap : Nat} {i h : Int} (c : CurIs w p ca n cap i h) (j : Nat) : w.frozen? ⟨p, j, none⟩ = false := by unfold CurIs at c; simp [World.frozen?, c]
theorem CurIs.set2 {w : World} {p : Nat} {ca : Option Addr} {n cap : Nat} {i h : Int} (c : CurIs w p ca n cap i h) (h' : Int) : CurIs (w.setCell ⟨p, 2, none⟩ (.int .i64 h')) p ca n cap i h' := by
  unfold CurIs at *
  rw [heap_setCell_same w p 2 _ _ _ c]
  rfl
theorem CurIs.set1 {w : World} {p : Nat} {ca : Option Addr} {n cap : Nat} {i h : Int} (c : CurIs w p ca n cap i h) (i' : Int) : CurIs (w.setCell ⟨p, 1, none⟩ (.int .i64 i')) p ca n cap i' h := by
  unfold CurIs at *
  rw [heap_setCell_same w p 1 _ _ _ c]
  rfl

theorem i64_and255 (n : Int) : bits .and .i64 n 255 = n % 256 := by
  have hm : (BitVec.ofInt 64 255).toNat = 2 ^ 8 - 1 := by decide
  have key : (BitVec.ofInt 64 n &&& BitVec.ofInt 64 255).toNat = (n % ((2 ^ 64 : Nat) : Int)).toNat % 2 ^ 8 := by
    rw [BitVec.toNat_and, BitVec.toNat_ofInt, hm, Nat.and_two_pow_sub_one_eq_mod]
  show IntKind.i64.wrap ((BitVec.ofInt 64 n &&& BitVec.ofInt 64 255).toNat : Nat) = n % 256
  rw [key, IntKind.wrap_i64]
  omega
theorem i64_and30 (n : Int) : bits .and .i64 n 1073741823 = n % 1073741824 := by
  have hm : (BitVec.ofInt 64 1073741823).toNat = 2 ^ 30 - 1 := by decide
  have key : (BitVec.ofInt 64 n &&& BitVec.ofInt 64 1073741823).toNat = (n % ((2 ^ 64 : Nat) : Int)).toNat % 2 ^ 30 := by
    rw [BitVec.toNat_and, BitVec.toNat_ofInt, hm, Nat.and_two_pow_sub_one_eq_mod]
  show IntKind.i64.wrap ((BitVec.ofInt 64 n &&& BitVec.ofInt 64 1073741823).toNat : Nat) = n % 1073741824
  rw [key, IntKind.wrap_i64]
  omega

theorem wrap64_bd (x : Int) : -9223372036854775808 ≤ wrap64 x ∧ wrap64 x ≤ 9223372036854775807 := by unfold wrap64; omega

theorem grownBy_same {a b b' : World} {row : Option Nat} (h : a.grownBy b row) (h1 : b'.os = b.os) (h2 : b'.tape = b.tape) (h3 : b'.output = b.output) (h4 : b'.heap = b.heap) : a.grownBy b' row :=
  ⟨h1.trans h.os, h2.trans h.tape, h3.trans h.output, by rw [h4]; exact h.size, fun k hk hr => by rw [h4]; exact h.block k hk hr⟩
theorem CurIs.same {w w' : World} {p : Nat} {ca : Option Addr} {n cap : Nat} {i h : Int} (c : CurIs w p ca n cap i h) (h4 : w'.heap = w.heap) : CurIs w' p ca n cap i h := by unfold CurIs at *; rw [h4]; exact c

theorem CodeAt.grown {w w' : World} {ca : Option Addr} {n p : Nat} (h : CodeAt w ca n p) (hg : w.grownBy w' (some p)) : CodeAt w' ca n p := fun j hj => by
  obtain ⟨b, off, z, h1, h2, h3, h4⟩ := h j hj
  exact ⟨b, off, z, h1, h2, hg.cell h3 (by simp; omega), h4⟩

set_option maxHeartbeats 1000000 in
theorem l01Byte_any (w : World) (p : Nat) (ca : Option Addr) (n cap : Nat) (hc : Cur w p ca n cap) (hcode : CodeAt w ca n p) (hn : n ≤ 1048576) :
    Calls Try.prog 49 #[.pointer (some ⟨p, 0, none⟩)] w fun e w' => ∃ x : Nat, x < 256 ∧ e = .returned (.int .i64 x) ∧ Cur w' p ca n cap ∧ w.grownBy w' (some p) := by
  obtain ⟨i, h, hcur, h1, h2, h3, h4⟩ := hc
  have c0 := hcur.c0
  have c1 := hcur.c1
  have c2 := hcur.c2
  have f1 := hcur.fr 1
  have f2 := hcur.fr 2
  have hand := i64_and255
  obtain ⟨H, hH, HB⟩ : ∃ H, wrap64 (wrap64 (h * 6364136223846793005) + 1442695040888963407) = H ∧ Hid (-9223372036854775808 ≤ H ∧ H ≤ 9223372036854775807) := ⟨_, rfl, wrap64_bd _⟩
  obtain ⟨X, hX⟩ : ∃ X, bits .xor .i64 (H / 8589934592) (H / 35184372088832) = X := ⟨_, rfl⟩
  have hs2 := hcur.set2 H
  have hg2 : w.grownBy (w.setCell ⟨p, 2, none⟩ (.int .i64 H)) (some p) := ⟨rfl, rfl, rfl, by simp, fun k _ hk => heap_setCell_other w ⟨p, 2, none⟩ k _ (fun e => hk (by simp [e]))⟩
  have hs21 := hs2.set1 (i + 1)
  have hg21 : w.grownBy ((w.setCell ⟨p, 2, none⟩ (.int .i64 H)).setCell ⟨p, 1, none⟩ (.int .i64 (i + 1))) (some p) := grownBy_trans hg2 ⟨rfl, rfl, rfl, by simp, fun k _ hk => heap_setCell_other _ ⟨p, 1, none⟩ k _ (fun e => hk (by simp [e]))⟩
  have HS : Hid (CurIs (w.setCell ⟨p, 2, none⟩ (.int .i64 H)) p ca n cap i H ∧ w.grownBy (w.setCell ⟨p, 2, none⟩ (.int .i64 H)) (some p) ∧ CurIs ((w.setCell ⟨p, 2, none⟩ (.int .i64 H)).setCell ⟨p, 1, none⟩ (.int .i64 (i + 1))) p ca n cap (i + 1) H ∧ w.grownBy ((w.setCell ⟨p, 2, none⟩ (.int .i64 H)).setCell ⟨p, 1, none⟩ (.int .i64 (i + 1))) (some p)) := ⟨hs2, hg2, hs21, hg21⟩
  clear hs2 hg2 hs21 hg21 hcur
  by_cases hin : i < n
  · obtain ⟨j, rfl⟩ : ∃ j : Nat, i = j := ⟨i.toNat, by omega⟩
    obtain ⟨b, off, z, rfl, hbp, hcell, hz1, hz2⟩ := hcode j (by omega)
    have hcell2 : (w.setCell ⟨p, 2, none⟩ (.int .i64 H)).cell? ⟨b, off + j, none⟩ = some (.int .u8 z) := by
      rw [World.cell?_of_block (w := w) (heap_setCell_other w ⟨p, 2, none⟩ b _ (by simp; omega))]
      exact hcell
    clear hcode
    go_enter Try.func49, Try.ntmps49
    go_wp2
    go_quiet (fail)
    go_wp2
    go_quiet (fail)
    go_wp2
    go_quiet (fail)
    go_wp2
    go_ret
    exact ⟨((X % 256 + z) % 256).toNat, by omega, ret_int (by omega), ⟨_, _, HS.out.2.2.1.same rfl, by omega, by omega, HB.out⟩, grownBy_same HS.out.2.2.2 rfl rfl rfl rfl⟩
  · go_enter Try.func49, Try.ntmps49
    go_wp2
    go_quiet (fail)
    go_wp2
    go_quiet (fail)
    go_wp2
    go_ret
    exact ⟨(X % 256).toNat, by omega, ret_int (by omega), ⟨_, _, HS.out.1.same rfl, by omega, by omega, HB.out⟩, grownBy_same HS.out.2.1 rfl rfl rfl rfl⟩
end Go.Proofs.Ytepfblabdibggaa
