/- Texts that stand in one: Decimal, Cursor. -/
import Derived.Test.YtbcjkinalghokafDoorHeadPlainJ
import Derived.Test.YtbcjkinalghokafDoorSkNewImplJ
import Derived.Test.YtbcjkinalghokafDoorBaseJ
import Derived.Test.YtbcjkinalghokafDoorGuessPlainJ
import Derived.BigQuiet
import Derived.Laws.Bits128
import Derived.Deep.RegionHeld3
namespace Go.Proofs.YtbcjkinalghokafDoor
open Go.RowKit

theorem text_cons (c : UInt8) (l : List UInt8) : (⟨[c].toArray⟩ : ByteArray) ++ (⟨l.toArray⟩ : ByteArray) = ⟨(c :: l).toArray⟩ := by rw [ByteArray.mk_append_mk]; rfl

theorem pow_down10 {f k : Nat} (h : k < 10 ^ (f + 1)) : k / 10 < 10 ^ f := by rw [Nat.pow_succ] at h; omega

set_option maxHeartbeats 1000000 in
theorem specDecimal_pos (m : Nat) (w : World) (h0 : 0 < m) (hm : m ≤ 9223372036854775807) :
    Calls Tryd.prog 22 #[.int .i64 m] w fun e w' => e = .returned (.string ⟨(digF 20 m []).toArray⟩) ∧ Below w.heap.size w w' := by
  have hz : ((m : Int) == 0) = false := by simp; omega
  have hn : decide ((m : Int) < 0) = false := by simp
  go_enter Tryd.func22, Tryd.ntmps22
  go_wp2
  go_loopw [0, 4] (fun n v wr => Box (∃ (f k : Nat) (l : List UInt8), n = .int .i64 k ∧ v = .string ⟨l.toArray⟩ ∧ k ≤ 9223372036854775807 ∧ k < 10 ^ f ∧ l.length + f ≤ 20 ∧ Hid (digF f k l = digF 20 m []) ∧ Below w.heap.size w wr))
    (fun n _ _ => (intOf n).toNat)
  case atStart => exact ⟨⟨20, m, [], rfl, rfl, hm, by omega, by simp, rfl, Below.refl _ _⟩⟩
  case round =>
    obtain ⟨f, k, l, rfl, rfl, hk, hkf, hlf, hl, hbel⟩ := hrel.out
    have hsz := hbel.size
    by_cases hlt : k = 0
    · have hk0 : ((k : Int) != 0) = false := by simp; omega
      have HK : Hid (k = 0) := hlt
      clear hlt
      go_wp2
      go_ret
      exact ⟨ret_str (by have := hl.out; rw [HK.out, digF_zero] at this; exact this), hbel⟩
    · have hk0 : ((k : Int) != 0) = true := by simp; omega
      obtain ⟨d, hd, HD⟩ : ∃ d : Nat, d < 10 ∧ (k : Int) % 10 = (d : Int) := ⟨k % 10, by omega, by omega⟩
      have hcv := fun w => one_text (P := Tryd.prog) w 22 9 5 (fig d) Tryd.underlying22 Tryd.underlying5 Tryd.underlying9
      go_wp2_with (go_at_call 53; refine (l01Figure_any d _ (by omega)).mono ?_; rintro e w' ⟨rfl, rfl⟩)
      go_roundw
      case rel =>
        try ((repeat apply Exists.intro); refine ⟨?_, rfl⟩)
        match f, hkf, hlf, hl with
        | 0, hkf, _, _ => simp at hkf; omega
        | f + 1, hkf, hlf, hl =>
          exact ⟨⟨f, k / 10, fig d :: l, by go_num, congrArg Value.string (text_cons _ _), by omega, pow_down10 hkf, by simp; omega, by
            have := hl.out
            rw [digF_on hlt, show k % 10 = d by omega] at this
            exact this, hbel.alloc hsz _⟩⟩
      case measure => simp [intOf]; omega

theorem l01Figure_zero (w : World) :
    Calls Tryd.prog 53 #[.int .i64 0] w fun e w' => e = .returned (.int .u8 ((fig 0).toNat : Int)) ∧ w = w' := by
  go_enter Tryd.func53, Tryd.ntmps53
  go_wp2
  go_ret
  exact ⟨rfl, rfl⟩

set_option maxHeartbeats 1000000 in
theorem specDecimal_neg (m : Nat) (w : World) (h0 : 0 < m) (hm : m ≤ 9223372036854775808) :
    Calls Tryd.prog 22 #[.int .i64 (-(m : Int))] w fun e w' => e = .returned (.string ⟨(45 :: digF 20 m []).toArray⟩) ∧ Below w.heap.size w w' := by
  have hz : (-(m : Int) == 0) = false := by simp; omega
  have hn : decide (-(m : Int) < 0) = true := by simp; omega
  go_enter Tryd.func22, Tryd.ntmps22
  go_wp2
  go_loopw [0, 4] (fun n v wr => Box (∃ (f k : Nat) (l : List UInt8), n = .int .i64 (-(k : Int)) ∧ v = .string ⟨l.toArray⟩ ∧ k ≤ 9223372036854775808 ∧ k < 10 ^ f ∧ l.length + f ≤ 20 ∧ Hid (digF f k l = digF 20 m []) ∧ Below w.heap.size w wr))
    (fun n _ _ => (-(intOf n)).toNat)
  case atStart => exact ⟨⟨20, m, [], rfl, rfl, hm, by omega, by simp, rfl, Below.refl _ _⟩⟩
  case round =>
    obtain ⟨f, k, l, rfl, rfl, hk, hkf, hlf, hl, hbel⟩ := hrel.out
    have hsz := hbel.size
    by_cases hlt : k = 0
    · have hk0 : (-(k : Int) != 0) = false := by simp; omega
      have HK : Hid (k = 0) := hlt
      clear hlt
      go_wp2
      go_ret
      exact ⟨by rw [show (⟨#[45]⟩ : ByteArray) ++ ⟨l.toArray⟩ = ⟨(45 :: l).toArray⟩ from text_cons _ _]; exact ret_str (by have := hl.out; rw [HK.out, digF_zero] at this; rw [this]), hbel⟩
    · have hk0 : (-(k : Int) != 0) = true := by simp; omega
      obtain ⟨q, hq, HQ⟩ : ∃ q : Nat, Hid (q = k / 10) ∧ (-(k : Int)).tdiv 10 = -(q : Int) := ⟨k / 10, rfl, by rw [Int.neg_tdiv, Int.tdiv_eq_ediv_of_nonneg (by omega)]; omega⟩
      have hq' : q ≤ 922337203685477581 := by have := hq.out; omega
      by_cases hk10 : k % 10 = 0
      · have HD : (-(k : Int)).tmod 10 = 0 := by rw [Int.neg_tmod, Int.tmod_eq_emod_of_nonneg (by omega)]; omega
        have hcv := fun w => one_text (P := Tryd.prog) w 22 9 5 (fig 0) Tryd.underlying22 Tryd.underlying5 Tryd.underlying9
        go_wp2_with (go_at_call 53; refine (l01Figure_zero _).mono ?_; rintro e w' ⟨rfl, rfl⟩)
        go_roundw
        case rel =>
          try ((repeat apply Exists.intro); refine ⟨?_, rfl⟩)
          match f, hkf, hlf, hl with
          | 0, hkf, _, _ => simp at hkf; omega
          | f + 1, hkf, hlf, hl =>
            exact ⟨⟨f, q, fig 0 :: l, by go_num, congrArg Value.string (text_cons _ _), by have := hq.out; omega, by rw [hq.out]; exact pow_down10 hkf, by simp; omega, by
              have := hl.out
              rw [digF_on hlt, ← hq.out, show k % 10 = 0 by omega] at this
              exact this, hbel.alloc hsz _⟩⟩
        case measure => simp [intOf]; have := hq.out; omega
      · obtain ⟨d, hd, hd0, HD, HD2⟩ : ∃ d : Nat, d < 10 ∧ 0 < d ∧ (-(k : Int)).tmod 10 = -(d : Int) ∧ Hid (d = k % 10) := ⟨k % 10, by omega, by omega, by rw [Int.neg_tmod, Int.tmod_eq_emod_of_nonneg (by omega)]; omega, rfl⟩
        have hcv := fun w => one_text (P := Tryd.prog) w 22 9 5 (fig d) Tryd.underlying22 Tryd.underlying5 Tryd.underlying9
        go_wp2_with (go_at_call 53; refine (l01Figure_any d _ (by omega)).mono ?_; rintro e w' ⟨rfl, rfl⟩)
        go_roundw
        case rel =>
          try ((repeat apply Exists.intro); refine ⟨?_, rfl⟩)
          match f, hkf, hlf, hl with
          | 0, hkf, _, _ => simp at hkf; omega
          | f + 1, hkf, hlf, hl =>
            exact ⟨⟨f, q, fig d :: l, by go_num, congrArg Value.string (text_cons _ _), by have := hq.out; omega, by rw [hq.out]; exact pow_down10 hkf, by simp; omega, by
              have := hl.out
              rw [digF_on hlt, ← hq.out, show k % 10 = d from HD2.out.symm] at this
              exact this, hbel.alloc hsz _⟩⟩
        case measure => simp [intOf]; have := hq.out; omega

/-- The whole: of every int. -/
theorem specDecimal_any (n : Int) (w : World) (h1 : -9223372036854775808 ≤ n) (h2 : n ≤ 9223372036854775807) :
    Calls Tryd.prog 22 #[.int .i64 n] w fun e w' => e = .returned (.string ⟨(decOf n).toArray⟩) ∧ Below w.heap.size w w' := by
  rcases (show n = 0 ∨ 0 < n ∨ n < 0 by omega) with h | h | h
  · subst h
    go_enter Tryd.func22, Tryd.ntmps22
    go_wp2
    go_ret
    exact ⟨rfl, Below.refl _ _⟩
  · obtain ⟨m, rfl⟩ : ∃ m : Nat, n = m := ⟨n.toNat, by omega⟩
    have hd : decOf (m : Int) = digF 20 m [] := by
      unfold decOf
      rw [if_neg (by omega), if_neg (by omega)]
      simp
    rw [hd]
    exact specDecimal_pos m w (by omega) (by omega)
  · obtain ⟨m, rfl⟩ : ∃ m : Nat, n = -(m : Int) := ⟨n.natAbs, by omega⟩
    have hd : decOf (-(m : Int)) = 45 :: digF 20 m [] := by
      unfold decOf
      rw [if_neg (by omega), if_pos h]
      simp
    rw [hd]
    exact specDecimal_neg m w (by omega) (by omega)
end Go.Proofs.YtbcjkinalghokafDoor

namespace Go.Proofs.YtbcjkinalghokafDoor
open Go.RowKit

/-- The bytes of a draw lie where the slice says. -/
def CodeAt (w : World) (ca : Option Addr) (n : Nat) (B : Nat) : Prop :=
  ∀ j, j < n → ∃ b off, ∃ z : Int, ca = some ⟨b, off, none⟩ ∧ b < B ∧ w.cell? ⟨b, off + j, none⟩ = some (.int .u8 z) ∧ 0 ≤ z ∧ z ≤ 255

/-- The cursor's block. -/
def CurIs (w : World) (p : Nat) (ca : Option Addr) (n cap : Nat) (i h : Int) : Prop :=
  w.heap[p]? = some (.cells #[.slice ca n cap, .int .i64 i, .int .i64 h] 77 (0, 0))
def Cur (w : World) (p : Nat) (ca : Option Addr) (n cap : Nat) : Prop := ∃ i h : Int, CurIs w p ca n cap i h ∧ 0 ≤ i ∧ i ≤ n ∧ -9223372036854775808 ≤ h ∧ h ≤ 9223372036854775807

theorem CurIs.c0 {w : World} {p : Nat} {ca : Option Addr} {n cap : Nat} {i h : Int} (c : CurIs w p ca n cap i h) : w.cell? ⟨p, 0, none⟩ = some (.slice ca n cap) := by unfold CurIs at c; simp [World.cell?, c]
theorem CurIs.c1 {w : World} {p : Nat} {ca : Option Addr} {n cap : Nat} {i h : Int} (c : CurIs w p ca n cap i h) : w.cell? ⟨p, 1, none⟩ = some (.int .i64 i) := by unfold CurIs at c; simp [World.cell?, c]
theorem CurIs.c2 {w : World} {p : Nat} {ca : Option Addr} {n cap : Nat} {i h : Int} (c : CurIs w p ca n cap i h) : w.cell? ⟨p, 2, none⟩ = some (.int .i64 h) := by unfold CurIs at c; simp [World.cell?, c]
theorem CurIs.fr {w : World} {p : Nat} {ca : Option Addr} {n cap : Nat} {i h : Int} (c : CurIs w p ca n cap i h) (j : Nat) : w.frozen? ⟨p, j, none⟩ = false := by unfold CurIs at c; simp [World.frozen?, c]
theorem CurIs.set2 {w : World} {p : Nat} {ca : Option Addr} {n cap : Nat} {i h : Int} (c : CurIs w p ca n cap i h) (h' : Int) : CurIs (w.setCell ⟨p, 2, none⟩ (.int .i64 h')) p ca n cap i h' := by
  unfold CurIs at *
  rw [heap_setCell_same w p 2 _ _ _ c]
  rfl
theorem CurIs.set1 {w : World} {p : Nat} {ca : Option Addr} {n cap : Nat} {i h : Int} (c : CurIs w p ca n cap i h) (i' : Int) : CurIs (w.setCell ⟨p, 1, none⟩ (.int .i64 i')) p ca n cap i' h := by
  unfold CurIs at *
  rw [heap_setCell_same w p 1 _ _ _ c]
  rfl

theorem i64_and255 (n : Int) : bits .and .i64 n 255 = n % 256 := by
  have hm : (BitVec.ofInt 64 255).toNat = 2 ^ 8 - 1 := by decide
  have key : (BitVec.ofInt 64 n &&& BitVec.ofInt 64 255).toNat = (n % ((2 ^ 64 : Nat) : Int)).toNat % 2 ^ 8 := by
    rw [BitVec.toNat_and, BitVec.toNat_ofInt, hm, Nat.and_two_pow_sub_one_eq_mod]
  show IntKind.i64.wrap ((BitVec.ofInt 64 n &&& BitVec.ofInt 64 255).toNat : Nat) = n % 256
  rw [key, IntKind.wrap_i64]
  omega
theorem i64_and30 (n : Int) : bits .and .i64 n 1073741823 = n % 1073741824 := by
  have hm : (BitVec.ofInt 64 1073741823).toNat = 2 ^ 30 - 1 := by decide
  have key : (BitVec.ofInt 64 n &&& BitVec.ofInt 64 1073741823).toNat = (n % ((2 ^ 64 : Nat) : Int)).toNat % 2 ^ 30 := by
    rw [BitVec.toNat_and, BitVec.toNat_ofInt, hm, Nat.and_two_pow_sub_one_eq_mod]
  show IntKind.i64.wrap ((BitVec.ofInt 64 n &&& BitVec.ofInt 64 1073741823).toNat : Nat) = n % 1073741824
  rw [key, IntKind.wrap_i64]
  omega

theorem wrap64_bd (x : Int) : -9223372036854775808 ≤ wrap64 x ∧ wrap64 x ≤ 9223372036854775807 := by unfold wrap64; omega

theorem grownBy_same {a b b' : World} {row : Option Nat} (h : a.grownBy b row) (h1 : b'.os = b.os) (h2 : b'.tape = b.tape) (h3 : b'.output = b.output) (h4 : b'.heap = b.heap) : a.grownBy b' row :=
  ⟨h1.trans h.os, h2.trans h.tape, h3.trans h.output, by rw [h4]; exact h.size, fun k hk hr => by rw [h4]; exact h.block k hk hr⟩
theorem CurIs.same {w w' : World} {p : Nat} {ca : Option Addr} {n cap : Nat} {i h : Int} (c : CurIs w p ca n cap i h) (h4 : w'.heap = w.heap) : CurIs w' p ca n cap i h := by unfold CurIs at *; rw [h4]; exact c

theorem CodeAt.grown {w w' : World} {ca : Option Addr} {n p : Nat} (h : CodeAt w ca n p) (hg : w.grownBy w' (some p)) : CodeAt w' ca n p := fun j hj => by
  obtain ⟨b, off, z, h1, h2, h3, h4⟩ := h j hj
  exact ⟨b, off, z, h1, h2, hg.cell h3 (by simp; omega), h4⟩

set_option maxHeartbeats 1000000 in
theorem l01Byte_any (w : World) (p : Nat) (ca : Option Addr) (n cap : Nat) (hc : Cur w p ca n cap) (hcode : CodeAt w ca n p) (hn : n ≤ 1048576) :
    Calls Tryd.prog 52 #[.pointer (some ⟨p, 0, none⟩)] w fun e w' => ∃ x : Nat, x < 256 ∧ e = .returned (.int .i64 x) ∧ Cur w' p ca n cap ∧ w.grownBy w' (some p) := by
  obtain ⟨i, h, hcur, h1, h2, h3, h4⟩ := hc
  have c0 := hcur.c0
  have c1 := hcur.c1
  have c2 := hcur.c2
  have f1 := hcur.fr 1
  have f2 := hcur.fr 2
  have hand := i64_and255
  obtain ⟨H, hH, HB⟩ : ∃ H, wrap64 (wrap64 (h * 6364136223846793005) + 1442695040888963407) = H ∧ Hid (-9223372036854775808 ≤ H ∧ H ≤ 9223372036854775807) := ⟨_, rfl, wrap64_bd _⟩
  obtain ⟨X, hX⟩ : ∃ X, bits .xor .i64 (H / 8589934592) (H / 35184372088832) = X := ⟨_, rfl⟩
  have hs2 := hcur.set2 H
  have hg2 : w.grownBy (w.setCell ⟨p, 2, none⟩ (.int .i64 H)) (some p) := ⟨rfl, rfl, rfl, by simp, fun k _ hk => heap_setCell_other w ⟨p, 2, none⟩ k _ (fun e => hk (by simp [e]))⟩
  have hs21 := hs2.set1 (i + 1)
  have hg21 : w.grownBy ((w.setCell ⟨p, 2, none⟩ (.int .i64 H)).setCell ⟨p, 1, none⟩ (.int .i64 (i + 1))) (some p) := grownBy_trans hg2 ⟨rfl, rfl, rfl, by simp, fun k _ hk => heap_setCell_other _ ⟨p, 1, none⟩ k _ (fun e => hk (by simp [e]))⟩
  have HS : Hid (CurIs (w.setCell ⟨p, 2, none⟩ (.int .i64 H)) p ca n cap i H ∧ w.grownBy (w.setCell ⟨p, 2, none⟩ (.int .i64 H)) (some p) ∧ CurIs ((w.setCell ⟨p, 2, none⟩ (.int .i64 H)).setCell ⟨p, 1, none⟩ (.int .i64 (i + 1))) p ca n cap (i + 1) H ∧ w.grownBy ((w.setCell ⟨p, 2, none⟩ (.int .i64 H)).setCell ⟨p, 1, none⟩ (.int .i64 (i + 1))) (some p)) := ⟨hs2, hg2, hs21, hg21⟩
  clear hs2 hg2 hs21 hg21 hcur
  by_cases hin : i < n
  · obtain ⟨j, rfl⟩ : ∃ j : Nat, i = j := ⟨i.toNat, by omega⟩
    obtain ⟨b, off, z, rfl, hbp, hcell, hz1, hz2⟩ := hcode j (by omega)
    have hcell2 : (w.setCell ⟨p, 2, none⟩ (.int .i64 H)).cell? ⟨b, off + j, none⟩ = some (.int .u8 z) := by
      rw [World.cell?_of_block (w := w) (heap_setCell_other w ⟨p, 2, none⟩ b _ (by simp; omega))]
      exact hcell
    clear hcode
    go_enter Tryd.func52, Tryd.ntmps52
    go_wp2
    go_quiet (fail)
    go_wp2
    go_quiet (fail)
    go_wp2
    go_quiet (fail)
    go_wp2
    go_ret
    exact ⟨((X % 256 + z) % 256).toNat, by omega, ret_int (by omega), ⟨_, _, HS.out.2.2.1.same rfl, by omega, by omega, HB.out⟩, grownBy_same HS.out.2.2.2 rfl rfl rfl rfl⟩
  · go_enter Tryd.func52, Tryd.ntmps52
    go_wp2
    go_quiet (fail)
    go_wp2
    go_quiet (fail)
    go_wp2
    go_ret
    exact ⟨(X % 256).toNat, by omega, ret_int (by omega), ⟨_, _, HS.out.1.same rfl, by omega, by omega, HB.out⟩, grownBy_same HS.out.2.1 rfl rfl rfl rfl⟩
end Go.Proofs.YtbcjkinalghokafDoor
