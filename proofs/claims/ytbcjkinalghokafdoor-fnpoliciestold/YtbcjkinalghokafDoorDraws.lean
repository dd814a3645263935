/- The walks over the draws. -/
import Derived.Test.YtbcjkinalghokafDoorSumTabJ
namespace Go.Proofs.YtbcjkinalghokafDoor
open Go.RowKit

theorem CurIs.alloc {w : World} {p : Nat} {ca : Option Addr} {n cap : Nat} {i h : Int} (c : CurIs w p ca n cap i h) (o : Obj) : CurIs (w.alloc o) p ca n cap i h := by
  unfold CurIs at *
  rw [Below.heap_alloc w o p (Array.getElem?_eq_some_iff.1 c).1]
  exact c
theorem Cur.alloc {w : World} {p : Nat} {ca : Option Addr} {n cap : Nat} (c : Cur w p ca n cap) (_hp : p < w.heap.size) (o : Obj) : Cur (w.alloc o) p ca n cap := by
  obtain ⟨i, h, hc, r⟩ := c
  exact ⟨i, h, hc.alloc o, r⟩
theorem Cur.kept {w w' : World} {p : Nat} {ca : Option Addr} {n cap : Nat} (c : Cur w p ca n cap) (hk : w'.heap[p]? = w.heap[p]?) : Cur w' p ca n cap := by
  obtain ⟨i, h, hc, r⟩ := c
  refine ⟨i, h, ?_, r⟩
  unfold CurIs at *
  rw [hk]; exact hc
theorem CodeAt.kept {w w' : World} {ca : Option Addr} {n p : Nat} (h : CodeAt w ca n p) (hk : ∀ b, b < p → w'.heap[b]? = w.heap[b]?) : CodeAt w' ca n p := fun j hj => by
  obtain ⟨b, off, z, h1, h2, h3, h4⟩ := h j hj
  exact ⟨b, off, z, h1, h2, by rw [World.cell?_of_block (w := w) (hk b h2)]; exact h3, h4⟩
theorem CodeAt.alloc {w : World} {ca : Option Addr} {n p : Nat} (h : CodeAt w ca n p) (o : Obj) : CodeAt (w.alloc o) ca n p := fun j hj => by
  obtain ⟨b, off, z, h1, h2, h3, h4⟩ := h j hj
  exact ⟨b, off, z, h1, h2, (World.grownBy_alloc w o none).cell h3 (by simp), h4⟩

/-- What a draw leaves: the cursor, and nothing else has turned. -/
def Left (w w' : World) (p : Nat) (ca : Option Addr) (n cap : Nat) : Prop := Cur w' p ca n cap ∧ CodeAt w' ca n p ∧ w.grownBy w' (some p)

theorem Left.trans {a b c : World} {p : Nat} {ca : Option Addr} {n cap : Nat} (h : Left a b p ca n cap) (k : Left b c p ca n cap) : Left a c p ca n cap := ⟨k.1, k.2.1, grownBy_trans h.2.2 k.2.2⟩
theorem Left.refl {a : World} {p : Nat} {ca : Option Addr} {n cap : Nat} (h : Cur a p ca n cap) (k : CodeAt a ca n p) : Left a a p ca n cap := ⟨h, k, grownBy_refl _ _⟩

theorem Left.below {w w1 w2 : World} {p : Nat} {ca : Option Addr} {n cap : Nat} (h : Left w w1 p ca n cap) (hb : Below w.heap.size w1 w2) (hp : p < w.heap.size) : Left w w2 p ca n cap :=
  ⟨h.1.kept (hb.block p hp), h.2.1.kept (fun b hbp => hb.block b (by omega)), ⟨hb.os.trans h.2.2.os, hb.tape.trans h.2.2.tape, hb.output.trans h.2.2.output, Nat.le_trans h.2.2.size hb.size, fun k hk hr => (hb.block k hk).trans (h.2.2.block k hk hr)⟩⟩

theorem below_of_left {w w1 w2 : World} {p : Nat} {ca : Option Addr} {n cap : Nat} (h : Below w.heap.size w w1) (hp : w.heap.size ≤ p) (hl : Left w1 w2 p ca n cap) : Below w.heap.size w w2 :=
  Below.grown h hl.2.2 h.size (fun k hk => by simp at hk; omega)

theorem byte_left (w : World) (p : Nat) (ca : Option Addr) (n cap : Nat) (hc : Cur w p ca n cap) (hcode : CodeAt w ca n p) (hn : n ≤ 1048576) :
    Calls Tryd.prog 52 #[.pointer (some ⟨p, 0, none⟩)] w fun e w' => ∃ x : Nat, x < 256 ∧ e = .returned (.int .i64 x) ∧ Left w w' p ca n cap :=
  (l01Byte_any w p ca n cap hc hcode hn).mono fun _ _ ⟨x, h1, h2, h3, h4⟩ => ⟨x, h1, h2, h3, hcode.grown h4, h4⟩

set_option maxHeartbeats 1000000 in
theorem below_any (w : World) (p : Nat) (ca : Option Addr) (n cap : Nat) (m : Int) (hc : Cur w p ca n cap) (hcode : CodeAt w ca n p) (hn : n ≤ 1048576) (hm1 : -9223372036854775808 ≤ m) (hm2 : m ≤ 9223372036854775807) :
    Calls Tryd.prog 26 #[.pointer (some ⟨p, 0, none⟩), .int .i64 m] w fun e w' => ∃ x : Nat, (0 < m → (x : Int) < m) ∧ (m ≤ 0 → x = 0) ∧ e = .returned (.int .i64 x) ∧ Left w w' p ca n cap := by
  by_cases h0 : m ≤ 0
  · go_enter Tryd.func26, Tryd.ntmps26
    go_wp2
    go_ret
    exact ⟨0, by omega, fun _ => rfl, rfl, Left.refl hc hcode⟩
  · by_cases h1 : m ≤ 256
    · have c1 := byte_left w p ca n cap hc hcode hn
      clear hc hcode
      go_enter Tryd.func26, Tryd.ntmps26
      go_wp2_with fail
      refine c1.mono ?_
      rintro e w' ⟨x, hx, rfl, hl⟩
      go_wp2
      go_ret
      have e1 : (0 : Int) ≤ (x : Int) % m ∧ (x : Int) % m < m := ⟨Int.emod_nonneg _ (by omega), Int.emod_lt_of_pos _ (by omega)⟩
      exact ⟨((x : Int) % m).toNat, by omega, by omega, ret_int (by omega), hl⟩
    · have c1 := byte_left w p ca n cap hc hcode hn
      have c2 := fun w' (h : Left w w' p ca n cap) => byte_left w' p ca n cap h.1 h.2.1 hn
      have C2 : Hid (∀ w', Left w w' p ca n cap → Calls Tryd.prog 52 #[.pointer (some ⟨p, 0, none⟩)] w' fun e w'' => ∃ x : Nat, x < 256 ∧ e = .returned (.int .i64 x) ∧ Left w' w'' p ca n cap) := c2
      clear hc hcode c2
      go_enter Tryd.func26, Tryd.ntmps26
      go_wp2_with fail
      refine c1.mono ?_
      rintro e w1 ⟨x, hx, rfl, hl1⟩
      go_wp2_with fail
      refine (C2.out w1 hl1).mono ?_
      rintro e w2 ⟨y, hy, rfl, hl2⟩
      go_wp2_with fail
      refine (C2.out w2 (hl1.trans hl2)).mono ?_
      rintro e w3 ⟨z, hz, rfl, hl3⟩
      go_wp2_with fail
      refine (C2.out w3 ((hl1.trans hl2).trans hl3)).mono ?_
      rintro e w4 ⟨u, hu, rfl, hl4⟩
      go_wp2
      go_ret
      have e1 : (0 : Int) ≤ ((x : Int) * 16777216 + (y : Int) * 65536 + (z : Int) * 256 + (u : Int)) % m ∧ ((x : Int) * 16777216 + (y : Int) * 65536 + (z : Int) * 256 + (u : Int)) % m < m := ⟨Int.emod_nonneg _ (by omega), Int.emod_lt_of_pos _ (by omega)⟩
      exact ⟨(((x : Int) * 16777216 + (y : Int) * 65536 + (z : Int) * 256 + (u : Int)) % m).toNat, by omega, by omega, ret_int (by omega), ((hl1.trans hl2).trans hl3).trans hl4⟩

theorem once_any (w : World) (p : Nat) (ca : Option Addr) (n cap : Nat) (m : Int) (hc : Cur w p ca n cap) (hcode : CodeAt w ca n p) (hn : n ≤ 1048576) (hm1 : -9223372036854775808 ≤ m) (hm2 : m ≤ 9223372036854775807) :
    Calls Tryd.prog 43 #[.pointer (some ⟨p, 0, none⟩), .int .i64 m] w fun e w' => ∃ b : Bool, e = .returned (.bool b) ∧ Left w w' p ca n cap := by
  have c1 := below_any w p ca n cap m hc hcode hn hm1 hm2
  clear hc hcode
  go_enter Tryd.func43, Tryd.ntmps43
  go_wp2_with fail
  refine c1.mono ?_
  rintro e w' ⟨x, _, _, rfl, hl⟩
  go_wp2
  go_ret
  exact ⟨_, rfl, hl⟩


theorem pick_any (w : World) (p : Nat) (ca : Option Addr) (n cap : Nat) (base : Nat) (v : Value) (zs : List ByteArray) (hc : Cur w p ca n cap) (hcode : CodeAt w ca n p) (hn : n ≤ 1048576)
    (hown : OwnV w base 9 v (strs zs)) (hpb : p < base) (h0 : 0 < zs.length) (h1 : zs.length ≤ 1000000) :
    Calls Tryd.prog 44 #[.pointer (some ⟨p, 0, none⟩), v] w fun e w' => ∃ z ∈ zs, e = .returned (.string z) ∧ Left w w' p ca n cap := by
  have c1 := below_any w p ca n cap zs.length hc hcode hn (by omega) (by omega)
  obtain ⟨a, cp, rfl, hcell⟩ := hown.shape
  rw [strs_length]
  clear hc hcode hown
  go_enter Tryd.func44, Tryd.ntmps44
  go_wp2_with fail
  refine c1.mono ?_
  rintro e w' ⟨x, hx, _, rfl, hl⟩
  have hx2 : x < zs.length := by have := hx (by omega); omega
  obtain ⟨g, rfl, hcl, _, hbg, _⟩ := hcell x (by rw [strs_length]; exact hx2)
  rw [strs_at hx2] at hcl
  have hcl2 := hl.2.2.cell hcl (by simp; omega)
  have HZ : Hid (zs[x] ∈ zs) := List.getElem_mem _
  obtain ⟨z, hz⟩ : ∃ z, zs[x] = z := ⟨_, rfl⟩
  have HZ2 : Hid (z ∈ zs) := by show _ ∈ _; rw [← hz]; exact HZ.out
  rw [hz] at hcl2
  clear hcell hcl hx hz HZ c1
  have hi1 : (0 : Int) ≤ (x : Int) := by omega
  have hi2 : (x : Int) < (zs.length : Int) := by omega
  go_wp2
  go_ret
  exact ⟨z, HZ2.out, rfl, hl⟩

set_option maxRecDepth 100000 in
set_option maxHeartbeats 1000000 in
/-- The cursor is made. -/
theorem new_any (w : World) (ca : Option Addr) (n cap : Nat) (hcode : CodeAt w ca n w.heap.size) (hn : n ≤ 1048576) :
    Calls Tryd.prog 25 #[.slice ca n cap] w fun e w' => ∃ p, e = .returned (.pointer (some ⟨p, 0, none⟩)) ∧ p < w'.heap.size ∧ w.heap.size ≤ p ∧ Cur w' p ca n cap ∧ CodeAt w' ca n p ∧ Below w.heap.size w w' := by
  have hand := i64_and30
  go_enter Tryd.func25, Tryd.ntmps25
  go_wp2
  go_loopw [3, 4] (fun v i wr => Box (∃ (k : Nat) (h : Int), k ≤ n ∧ i = .int .i64 k ∧ v = .int .i64 h ∧ 0 ≤ h ∧ h ≤ 1100000000 ∧ wr = w))
    (fun _ i _ => n - (intOf i).toNat)
  case atStart => exact ⟨⟨0, _, by omega, rfl, rfl, by omega, by omega, rfl⟩⟩
  case round =>
    obtain ⟨k, h, hk, rfl, rfl, h1, h2, rfl⟩ := hrel.out
    by_cases hlt : k < n
    · by_cases h4 : k < 4000
      · obtain ⟨b, off, z, rfl, hb, hcl, hz1, hz2⟩ := hcode k hlt
        have hi1 : (0 : Int) ≤ (k : Int) := by omega
        have hi2 : (k : Int) < (n : Int) := by omega
        go_wp2
        go_roundw
        case rel =>
          try ((repeat apply Exists.intro); refine ⟨?_, rfl⟩)
          exact ⟨⟨k + 1, _, by omega, by go_num, rfl, by omega, by omega, by first | rfl | trivial⟩⟩
        case measure => simp [intOf]; omega
      · go_wp2
        go_ret
        exact ⟨_, rfl, by simp, Nat.le_refl _, ⟨0, h, heap_alloc_new _ _, by omega, by omega, by omega, by omega⟩, hcode.alloc _, (Below.refl _ _).alloc (Nat.le_refl _) _⟩
    · go_wp2
      go_ret
      exact ⟨_, rfl, by simp, Nat.le_refl _, ⟨0, h, heap_alloc_new _ _, by omega, by omega, by omega, by omega⟩, hcode.alloc _, (Below.refl _ _).alloc (Nat.le_refl _) _⟩
theorem Cur.lt {w : World} {p : Nat} {ca : Option Addr} {n cap : Nat} (c : Cur w p ca n cap) : p < w.heap.size := by obtain ⟨i, h, hcur, _⟩ := c; exact (Array.getElem?_eq_some_iff.1 hcur).1
theorem Left.set {w w1 : World} {p : Nat} {ca : Option Addr} {n cap : Nat} (h : Left w w1 p ca n cap) (hp : p < w.heap.size) {A : Addr} (hA : w.heap.size ≤ A.block) (v : Value) : Left w (w1.setCell A v) p ca n cap :=
  h.below ((Below.refl _ _).setCell hA v) hp
theorem Left.plus {w w1 : World} {p : Nat} {ca : Option Addr} {n cap : Nat} (h : Left w w1 p ca n cap) (hp : p < w.heap.size) (o : Obj) : Left w (w1.alloc o) p ca n cap :=
  h.below ((Below.refl _ _).alloc h.2.2.size o) hp

end Go.Proofs.YtbcjkinalghokafDoor
