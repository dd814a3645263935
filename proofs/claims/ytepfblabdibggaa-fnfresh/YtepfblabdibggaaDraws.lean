/- The walks over the draws. -/
import Derived.Test.YtepfblabdibggaaCursor
namespace Go.Proofs.Ytepfblabdibggaa
open Go.RowKit

theorem CurIs.alloc {w : World} {p : Nat} {ca : Option Addr} {n cap : Nat} {i h : Int} (c : CurIs w p ca n cap i h) (o : Obj) : CurIs (w.alloc o) p ca n cap i h := by
  unfold CurIs at *
  rw [Below.heap_alloc w o p (Array.getElem?_eq_some_iff.1 c).1]
  exact c
theorem Cur.alloc {w : World} {p : Nat} {ca : Option Addr} {n cap : Nat} (c : Cur w p ca n cap) (_hp : p < w.heap.size) (o : Obj) : Cur (w.alloc o) p ca n cap := by
  obtain ⟨i, h, hc, r⟩ := c
  exact ⟨i, h, hc.alloc o, r⟩
theorem Cur.kept {w w' : World} {p : Nat} {ca : Option Addr} {n cap : Nat} (c : Cur w p ca n cap) (hk : w'.heap[p]? = w.heap[p]?) : Cur w' p ca n cap := by
  obtain ⟨i, h, hc, r⟩ := c
  refine ⟨i, h, ?_, r⟩
  unfold CurIs at *
  rw [hk]; exact hc
theorem CodeAt.kept {w w' : World} {ca : Option Addr} {n p : Nat} (h : CodeAt w ca n p) (hk : ∀ b, b < p → w'.heap[b]? = w.heap[b]?) : CodeAt w' ca n p := fun j hj => by
  obtain ⟨b, off, z, h1, h2, h3, h4⟩ := h j hj
  exact ⟨b, off, z, h1, h2, by rw [World.cell?_of_block (w := w) (hk b h2)]; exact h3, h4⟩
theorem CodeAt.alloc {w : World} {ca : Option Addr} {n p : Nat} (h : CodeAt w ca n p) (o : Obj) : CodeAt (w.alloc o) ca n p := fun j hj => by
  obtain ⟨b, off, z, h1, h2, h3, h4⟩ := h j hj
  exact ⟨b, off, z, h1, h2, (World.grownBy_alloc w o none).cell h3 (by simp), h4⟩

/-- What a draw leaves: the cursor, and nothing else has turned. -/
def Left (w w' : World) (p : Nat) (ca : Option Addr) (n cap : Nat) : Prop := Cur w' p ca n cap ∧ CodeAt w' ca n p ∧ w.grownBy w' (some p)

theorem Left.trans {a b c : World} {p : Nat} {ca : Option Addr} {n cap : Nat} (h : Left a b p ca n cap) (k : Left b c p ca n cap) : Left a c p ca n cap := ⟨k.1, k.2.1, grownBy_trans h.2.2 k.2.2⟩
theorem Left.refl {a : World} {p : Nat} {ca : Option Addr} {n cap : Nat} (h : Cur a p ca n cap) (k : CodeAt a ca n p) : Left a a p ca n cap := ⟨h, k, grownBy_refl _ _⟩

theorem Left.below {w w1 w2 : World} {p : Nat} {ca : Option Addr} {n cap : Nat} (h : Left w w1 p ca n cap) (hb : Below w.heap.size w1 w2) (hp : p < w.heap.size) : Left w w2 p ca n cap :=
  ⟨h.1.kept (hb.block p hp), h.2.1.kept (fun b hbp => hb.block b (by omega)), ⟨hb.os.trans h.2.2.os, hb.tape.trans h.2.2.tape, hb.output.trans h.2.2.output, Nat.le_trans h.2.2.size hb.size, fun k hk hr => (hb.block k hk).trans (h.2.2.block k hk hr)⟩⟩

theorem below_of_left {w w1 w2 : World} {p : Nat} {ca : Option Addr} {n cap : Nat} (h : Below w.heap.size w w1) (hp : w.heap.size ≤ p) (hl : Left w1 w2 p ca n cap) : Below w.heap.size w w2 :=
  Below.grown h hl.2.2 h.size (fun k hk => by simp at hk; omega)

theorem byte_left (w : World) (p : Nat) (ca : Option Addr) (n cap : Nat) (hc : Cur w p ca n cap) (hcode : CodeAt w ca n p) (hn : n ≤ 1048576) :
    Calls Try.prog 49 #[.pointer (some ⟨p, 0, none⟩)] w fun e w' => ∃ x : Nat, x < 256 ∧ e = .returned (.int .i64 x) ∧ Left w w' p ca n cap :=
  (l01Byte_any w p ca n cap hc hcode hn).mono fun _ _ ⟨x, h1, h2, h3, h4⟩ => ⟨x, h1, h2, h3, hcode.grown h4, h4⟩

set_option maxHeartbeats 1000000 in
theorem below_any (w : World) (p : Nat) (ca : Option Addr) (n cap : Nat) (m : Int) (hc : Cur w p ca n cap) (hcode : CodeAt w ca n p) (hn : n ≤ 1048576) (hm1 : -9223372036854775808 ≤ m) (hm2 : m ≤ 9223372036854775807) :
    Calls Try.prog 30 #[.pointer (some ⟨p, 0, none⟩), .int .i64 m] w fun e w' => ∃ x : Nat, (0 < m → (x : Int) < m) ∧ (m ≤ 0 → x = 0) ∧ e = .returned (.int .i64 x) ∧ Left w w' p ca n cap := by
  by_cases h0 : m ≤ 0
  · go_enter Try.func30, Try.ntmps30
    go_wp2
    go_ret
    exact ⟨0, by omega, fun _ => rfl, rfl, Left.refl hc hcode⟩
  · by_cases h1 : m ≤ 256
    · have c1 := byte_left w p ca n cap hc hcode hn
      clear hc hcode
      go_enter Try.func30, Try.ntmps30
      go_wp2_with fail
      refine c1.mono ?_
      rintro e w' ⟨x, hx, rfl, hl⟩
      go_wp2
      go_ret
      have e1 : (0 : Int) ≤ (x : Int) % m ∧ (x : Int) % m < m := ⟨Int.emod_nonneg _ (by omega), Int.emod_lt_of_pos _ (by omega)⟩
      exact ⟨((x : Int) % m).toNat, by omega, by omega, ret_int (by omega), hl⟩
    · have c1 := byte_left w p ca n cap hc hcode hn
      have c2 := fun w' (h : Left w w' p ca n cap) => byte_left w' p ca n cap h.1 h.2.1 hn
      have C2 : Hid (∀ w', Left w w' p ca n cap → Calls Try.prog 49 #[.pointer (some ⟨p, 0, none⟩)] w' fun e w'' => ∃ x : Nat, x < 256 ∧ e = .returned (.int .i64 x) ∧ Left w' w'' p ca n cap) := c2
      clear hc hcode c2
      go_enter Try.func30, Try.ntmps30
      go_wp2_with fail
      refine c1.mono ?_
      rintro e w1 ⟨x, hx, rfl, hl1⟩
      go_wp2_with fail
      refine (C2.out w1 hl1).mono ?_
      rintro e w2 ⟨y, hy, rfl, hl2⟩
      go_wp2_with fail
      refine (C2.out w2 (hl1.trans hl2)).mono ?_
      rintro e w3 ⟨z, hz, rfl, hl3⟩
      go_wp2_with fail
      refine (C2.out w3 ((hl1.trans hl2).trans hl3)).mono ?_
      rintro e w4 ⟨u, hu, rfl, hl4⟩
      go_wp2
      go_ret
      have e1 : (0 : Int) ≤ ((x : Int) * 16777216 + (y : Int) * 65536 + (z : Int) * 256 + (u : Int)) % m ∧ ((x : Int) * 16777216 + (y : Int) * 65536 + (z : Int) * 256 + (u : Int)) % m < m := ⟨Int.emod_nonneg _ (by omega), Int.emod_lt_of_pos _ (by omega)⟩
      exact ⟨(((x : Int) * 16777216 + (y : Int) * 65536 + (z : Int) * 256 + (u : Int)) % m).toNat, by omega, by omega, ret_int (by omega), ((hl1.trans hl2).trans hl3).trans hl4⟩

theorem once_any (w : World) (p : Nat) (ca : Option Addr) (n cap : Nat) (m : Int) (hc : Cur w p ca n cap) (hcode : CodeAt w ca n p) (hn : n ≤ 1048576) (hm1 : -9223372036854775808 ≤ m) (hm2 : m ≤ 9223372036854775807) :
    Calls Try.prog 41 #[.pointer (some ⟨p, 0, none⟩), .int .i64 m] w fun e w' => ∃ b : Bool, e = .returned (.bool b) ∧ Left w w' p ca n cap := by
  have c1 := below_any w p ca n cap m hc hcode hn hm1 hm2
  clear hc hcode
  go_enter Try.func41, Try.ntmps41
  go_wp2_with fail
  refine c1.mono ?_
  rintro e w' ⟨x, _, _, rfl, hl⟩
  go_wp2
  go_ret
  exact ⟨_, rfl, hl⟩


theorem pickInt_any (w : World) (p : Nat) (ca : Option Addr) (n cap : Nat) (base : Nat) (v : Value) (zs : List Int) (hc : Cur w p ca n cap) (hcode : CodeAt w ca n p) (hn : n ≤ 1048576)
    (hown : OwnV w base 3 v (ints zs)) (hpb : p < base) (h0 : 0 < zs.length) (h1 : zs.length ≤ 1000000) :
    Calls Try.prog 40 #[.pointer (some ⟨p, 0, none⟩), v] w fun e w' => ∃ z ∈ zs, e = .returned (.int .i64 z) ∧ Left w w' p ca n cap := by
  have c1 := below_any w p ca n cap zs.length hc hcode hn (by omega) (by omega)
  obtain ⟨a, cp, rfl, hcell⟩ := hown.shape
  rw [ints_length]
  clear hc hcode hown
  go_enter Try.func40, Try.ntmps40
  go_wp2_with fail
  refine c1.mono ?_
  rintro e w' ⟨x, hx, _, rfl, hl⟩
  have hx2 : x < zs.length := by have := hx (by omega); omega
  obtain ⟨g, rfl, hcl, _, hbg, _⟩ := hcell x (by rw [ints_length]; exact hx2)
  rw [ints_at hx2] at hcl
  have hcl2 := hl.2.2.cell hcl (by simp; omega)
  have HZ : Hid (zs[x] ∈ zs) := List.getElem_mem _
  obtain ⟨z, hz⟩ : ∃ z, zs[x] = z := ⟨_, rfl⟩
  have HZ2 : Hid (z ∈ zs) := by show _ ∈ _; rw [← hz]; exact HZ.out
  rw [hz] at hcl2
  clear hcell hcl hx hz HZ c1
  have hi1 : (0 : Int) ≤ (x : Int) := by omega
  have hi2 : (x : Int) < (zs.length : Int) := by omega
  go_wp2
  go_ret
  exact ⟨z, HZ2.out, rfl, hl⟩

theorem pick_any (w : World) (p : Nat) (ca : Option Addr) (n cap : Nat) (base : Nat) (v : Value) (zs : List ByteArray) (hc : Cur w p ca n cap) (hcode : CodeAt w ca n p) (hn : n ≤ 1048576)
    (hown : OwnV w base 9 v (strs zs)) (hpb : p < base) (h0 : 0 < zs.length) (h1 : zs.length ≤ 1000000) :
    Calls Try.prog 43 #[.pointer (some ⟨p, 0, none⟩), v] w fun e w' => ∃ z ∈ zs, e = .returned (.string z) ∧ Left w w' p ca n cap := by
  have c1 := below_any w p ca n cap zs.length hc hcode hn (by omega) (by omega)
  obtain ⟨a, cp, rfl, hcell⟩ := hown.shape
  rw [strs_length]
  clear hc hcode hown
  go_enter Try.func43, Try.ntmps43
  go_wp2_with fail
  refine c1.mono ?_
  rintro e w' ⟨x, hx, _, rfl, hl⟩
  have hx2 : x < zs.length := by have := hx (by omega); omega
  obtain ⟨g, rfl, hcl, _, hbg, _⟩ := hcell x (by rw [strs_length]; exact hx2)
  rw [strs_at hx2] at hcl
  have hcl2 := hl.2.2.cell hcl (by simp; omega)
  have HZ : Hid (zs[x] ∈ zs) := List.getElem_mem _
  obtain ⟨z, hz⟩ : ∃ z, zs[x] = z := ⟨_, rfl⟩
  have HZ2 : Hid (z ∈ zs) := by show _ ∈ _; rw [← hz]; exact HZ.out
  rw [hz] at hcl2
  clear hcell hcl hx hz HZ c1
  have hi1 : (0 : Int) ≤ (x : Int) := by omega
  have hi2 : (x : Int) < (zs.length : Int) := by omega
  go_wp2
  go_ret
  exact ⟨z, HZ2.out, rfl, hl⟩

set_option maxHeartbeats 1000000 in
/-- A drawn text. -/
theorem text_any (w : World) (p : Nat) (ca : Option Addr) (n cap : Nat) (m : Int) (hc : Cur w p ca n cap) (hcode : CodeAt w ca n p) (hn : n ≤ 1048576) (hm1 : 0 ≤ m) (hm2 : m ≤ 5000) :
    Calls Try.prog 50 #[.pointer (some ⟨p, 0, none⟩), .int .i64 m] w fun e w' => ∃ s : ByteArray, (s.size : Int) = m ∧ e = .returned (.string s) ∧ Left w w' p ca n cap := by
  obtain ⟨M, rfl⟩ : ∃ M : Nat, m = M := ⟨m.toNat, by omega⟩
  have hp : p < w.heap.size := by obtain ⟨i, h, hcur, _⟩ := hc; exact (Array.getElem?_eq_some_iff.1 hcur).1
  go_enter Try.func50, Try.ntmps50
  go_wp2
  go_loopw [5, 6] (fun v i wr => Box (∃ (k : Nat) (l : List UInt8), k ≤ M ∧ i = .int .i64 k ∧ l.length ≤ k ∧ k ≤ l.length ∧ OwnB wr w.heap.size 5 v l ∧ v ≠ .slice none 0 0 ∧ Left w wr p ca n cap))
    (fun _ i _ => M - (intOf i).toNat)
  case atStart => exact ⟨⟨0, [], by omega, rfl, by simp, by simp, World.ownsRow_made w #[] 0 (Nat.le_refl _) (by simp [maxLen]) (by simp), by simp, Cur.alloc hc hp _, CodeAt.alloc hcode _, World.grownBy_alloc _ _ _⟩⟩
  case round =>
    obtain ⟨k, l, hk, rfl, hl1, hl2, hown, hne, hleft⟩ := hrel.out
    by_cases hlt : k < M
    · have c1 := byte_left wr p ca n cap hleft.1 hleft.2.1 hn
      have hgs := hleft.2.2.size
      go_wp2_with fail
      refine c1.mono ?_
      rintro e w1 ⟨x, hx, rfl, hl3⟩
      have hown1 : OwnB w1 w.heap.size 5 u5 l := by
        refine World.ownsRow.kept hown hl3.2.2 ?_
        cases hv : u5.ownBlock with
        | none => exact .inl rfl
        | some q =>
          refine .inr fun e => ?_
          have := (World.ownsRow.lt hown q hv).1
          simp at e
          omega
      have hgs1 := hl3.2.2.size
      have hl4 := hleft.trans hl3
      clear hown hleft hl3 c1
      go_wp2_with (at_builtin; refine wpList_snoc rfl (.tmp 15) (.tmp 19) 22 rfl w.heap.size 5 Try.underlying22 Try.info5 _ l rfl hown1 _ (UInt8.ofNat x) rfl (by simp; omega) (by omega) (by omega) ?_; intro v' w2 hown' hne' hbel' hsz')
      go_roundw
      case rel =>
        try ((repeat apply Exists.intro); refine ⟨?_, rfl⟩)
        exact ⟨⟨k + 1, l ++ [UInt8.ofNat x], by omega, by go_num, by simp; omega, by simp; omega, hown', hne', hl4.below (hbel' _ (Below.refl _ _)) hp⟩⟩
      case measure => simp [intOf]; omega
    · have hcv := hown.text (P := Try.prog) 22 9 Try.underlying22 Try.underlying5 Try.underlying9 hne
      go_wp2
      go_ret
      exact ⟨_, by simp [ByteArray.size]; omega, rfl, hleft⟩

set_option maxHeartbeats 1000000 in
/-- A long text of one byte. -/
theorem long_any (w : World) (m : Int) (x : Int) (hm1 : 0 ≤ m) (hm2 : m ≤ 1000000) (hx1 : 0 ≤ x) (hx2 : x ≤ 255) :
    Calls Try.prog 44 #[.int .i64 m, .int .u8 x] w fun e w' => ∃ s : ByteArray, (s.size : Int) = m ∧ e = .returned (.string s) ∧ Below w.heap.size w w' := by
  obtain ⟨M, rfl⟩ : ∃ M : Nat, m = M := ⟨m.toNat, by omega⟩
  obtain ⟨i0, hi, hz0, hz1, hz2⟩ := info_parts Try.info5
  go_enter Try.func44, Try.ntmps44
  go_wp2_with (at_make; refine wpList_make_full _ rfl _ _ 22 rfl w.heap.size 5 i0 (.int .u8 0) 1 Try.underlying22 hi hz0 hz1 .i64 .i64 _ _ M rfl rfl rfl rfl (by rw [hz2]; omega) (by unfold maxLen; omega) (Nat.le_refl _) ?_; intro w0 hown0 hgrow0)
  go_loopw [6] (fun i wr => Box (∃ (k : Nat) (l : List UInt8), k ≤ M ∧ i = .int .i64 k ∧ l.length ≤ M ∧ M ≤ l.length ∧ OwnB wr w.heap.size 5 (.slice (some ⟨w.heap.size, 0, none⟩) M M) l ∧ Below w.heap.size w wr))
    (fun i _ => M - (intOf i).toNat)
  case atStart =>
    refine ⟨⟨0, List.replicate M 0, by omega, rfl, by simp, by simp, ?_, Below.grown (Below.refl _ _) hgrow0 (Nat.le_refl _) (fun k hk => by cases hk)⟩⟩
    unfold OwnB
    rw [List.length_replicate]
    have e : bts (List.replicate M 0) = (madeCells (Value.int .u8 0).cells (M * 1)).toList := by
      rw [show (Value.int .u8 0).cells = #[Value.int .u8 0] from rfl, toList_madeCells_one]
      simp [bts]
    rw [e]
    exact hown0
  case round =>
    obtain ⟨k, l, hk, rfl, hl1, hl2, hown, hbel⟩ := hrel.out
    have hsz := hbel.size
    by_cases hlt : k < M
    · have hlM : l.length = M := by omega
      have hfr := World.ownsRow.frozenAt (g := w.heap.size) (n := M) (cap := M) (xs := bts l) (by have := hown; unfold OwnB at this; rw [hlM] at this; exact this) k
      have hcl : wr.cell? ⟨w.heap.size, k, none⟩ = some (.int .u8 ((l.getD k 0).toNat : Int)) := by
        rw [World.ownsRow.cellAt (g := w.heap.size) (n := M) (cap := M) (xs := bts l) (by have := hown; unfold OwnB at this; rw [hlM] at this; exact this) k (by omega)]
        simp [bts, hlM, hlt]
      have HX : Hid (OwnB (wr.setCell ⟨w.heap.size, k, none⟩ (.int .u8 x)) w.heap.size 5 (.slice (some ⟨w.heap.size, 0, none⟩) M M) (l.set k (UInt8.ofNat x.toNat)) ∧ Below w.heap.size w (wr.setCell ⟨w.heap.size, k, none⟩ (.int .u8 x))) := by
        have h1 := World.ownsRow.stored (g := w.heap.size) (n := M) (cap := M) (xs := bts l) (by have := hown; unfold OwnB at this; rw [hlM] at this; exact this) k (.int .u8 x)
        refine ⟨?_, hbel.setCell (Nat.le_refl _) _⟩
        unfold OwnB
        rw [List.length_set, hlM]
        have e : bts (l.set k (UInt8.ofNat x.toNat)) = (bts l).set k (.int .u8 x) := by
          have ex : ((UInt8.ofNat x.toNat).toNat : Int) = x := by simp; omega
          unfold bts
          rw [List.map_set]
          exact congrArg (List.set _ k) (congrArg (Value.int .u8) ex)
        rw [e]
        exact h1.1
      clear hown hbel hown0 hgrow0 hlM
      have hi1 : (0 : Int) ≤ (k : Int) := by omega
      have hi2 : (k : Int) < (M : Int) := by omega
      go_wp2
      go_roundw
      case rel =>
        try ((repeat apply Exists.intro); refine ⟨?_, rfl⟩)
        exact ⟨⟨k + 1, l.set k (UInt8.ofNat x.toNat), by omega, by go_num, by simp; omega, by simp; omega, HX.out.1, HX.out.2⟩⟩
      case measure => simp [intOf]; omega
    · have hcv := hown.text (P := Try.prog) 22 9 Try.underlying22 Try.underlying5 Try.underlying9 (by simp)
      go_wp2
      go_ret
      exact ⟨_, by simp [ByteArray.size]; omega, rfl, hbel⟩

set_option maxRecDepth 100000 in
set_option maxHeartbeats 1000000 in
/-- The cursor is made. -/
theorem new_any (w : World) (ca : Option Addr) (n cap : Nat) (hcode : CodeAt w ca n w.heap.size) (hn : n ≤ 1048576) :
    Calls Try.prog 25 #[.slice ca n cap] w fun e w' => ∃ p, e = .returned (.pointer (some ⟨p, 0, none⟩)) ∧ p < w'.heap.size ∧ w.heap.size ≤ p ∧ Cur w' p ca n cap ∧ CodeAt w' ca n p ∧ Below w.heap.size w w' := by
  have hand := i64_and30
  go_enter Try.func25, Try.ntmps25
  go_wp2
  go_loopw [3, 4] (fun v i wr => Box (∃ (k : Nat) (h : Int), k ≤ n ∧ i = .int .i64 k ∧ v = .int .i64 h ∧ 0 ≤ h ∧ h ≤ 1100000000 ∧ wr = w))
    (fun _ i _ => n - (intOf i).toNat)
  case atStart => exact ⟨⟨0, _, by omega, rfl, rfl, by omega, by omega, rfl⟩⟩
  case round =>
    obtain ⟨k, h, hk, rfl, rfl, h1, h2, rfl⟩ := hrel.out
    by_cases hlt : k < n
    · by_cases h4 : k < 4000
      · obtain ⟨b, off, z, rfl, hb, hcl, hz1, hz2⟩ := hcode k hlt
        have hi1 : (0 : Int) ≤ (k : Int) := by omega
        have hi2 : (k : Int) < (n : Int) := by omega
        go_wp2
        go_roundw
        case rel =>
          try ((repeat apply Exists.intro); refine ⟨?_, rfl⟩)
          exact ⟨⟨k + 1, _, by omega, by go_num, rfl, by omega, by omega, by first | rfl | trivial⟩⟩
        case measure => simp [intOf]; omega
      · go_wp2
        go_ret
        exact ⟨_, rfl, by simp, Nat.le_refl _, ⟨0, h, heap_alloc_new _ _, by omega, by omega, by omega, by omega⟩, hcode.alloc _, (Below.refl _ _).alloc (Nat.le_refl _) _⟩
    · go_wp2
      go_ret
      exact ⟨_, rfl, by simp, Nat.le_refl _, ⟨0, h, heap_alloc_new _ _, by omega, by omega, by omega, by omega⟩, hcode.alloc _, (Below.refl _ _).alloc (Nat.le_refl _) _⟩
theorem Cur.lt {w : World} {p : Nat} {ca : Option Addr} {n cap : Nat} (c : Cur w p ca n cap) : p < w.heap.size := by obtain ⟨i, h, hcur, _⟩ := c; exact (Array.getElem?_eq_some_iff.1 hcur).1
theorem Left.set {w w1 : World} {p : Nat} {ca : Option Addr} {n cap : Nat} (h : Left w w1 p ca n cap) (hp : p < w.heap.size) {A : Addr} (hA : w.heap.size ≤ A.block) (v : Value) : Left w (w1.setCell A v) p ca n cap :=
  h.below ((Below.refl _ _).setCell hA v) hp
theorem Left.plus {w w1 : World} {p : Nat} {ca : Option Addr} {n cap : Nat} (h : Left w w1 p ca n cap) (hp : p < w.heap.size) (o : Obj) : Left w (w1.alloc o) p ca n cap :=
  h.below ((Below.refl _ _).alloc h.2.2.size o) hp

end Go.Proofs.Ytepfblabdibggaa
