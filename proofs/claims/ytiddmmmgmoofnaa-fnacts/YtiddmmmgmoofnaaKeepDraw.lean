/- A right disk is drawn. -/
import Derived.Test.YtiddmmmgmoofnaaDraws
import Derived.Test.YtiddmmmgmoofnaaBoxes
import Derived.Test.YtiddmmmgmoofnaaPutSpec
import Derived.Test.YtiddmmmgmoofnaaDiskPlainJ
import Derived.Deep.RegionLaw
namespace Go.Proofs.Ytiddmmmgmoofnaa
open Go.RowKit Go.Sort

def nameL : List ByteArray := [⟨#[97]⟩, ⟨#[98]⟩, ⟨#[99]⟩, ⟨#[106, 48]⟩, ⟨#[106, 49]⟩, ⟨#[106, 43]⟩, ⟨#[115, 48]⟩, ⟨#[115, 43]⟩]
theorem nameL_ok : ∀ z ∈ nameL, nOk z = true := by decide

set_option maxHeartbeats 1000000 in
theorem named_any (w : World) (p : Nat) (ca : Option Addr) (n cap : Nat) (hc : Cur w p ca n cap) (hcode : CodeAt w ca n p) (hn : n ≤ 1048576) (hp : p < w.heap.size) :
    Calls Try.prog 25 #[.pointer (some ⟨p, 0, none⟩)] w fun e w' => ∃ z : ByteArray, nOk z = true ∧ e = .returned (.string z) ∧ Left w w' p ca n cap := by
  have c3 := pick_any (w.alloc (.cells (strs nameL).toArray 9)) p ca n cap w.heap.size (.slice (some ⟨w.heap.size, 0, none⟩) 8 8) nameL (hc.alloc hp _) (hcode.alloc _) hn
      (World.ownsRow_lit (base := w.heap.size) (e := 9) (size := 1) w (strs nameL).toArray 8 (Nat.le_refl _) (by simp [maxLen]) (by rfl)) hp (by decide) (by decide)
  clear hc hcode
  go_enter Try.func25, Try.ntmps25
  go_wp2_with fail
  refine c3.mono ?_
  rintro e w2 ⟨z, hz, rfl, hl2⟩
  have HZ : Hid (nOk z = true) := nameL_ok z hz
  clear hz
  go_wp2
  go_ret
  exact ⟨z, HZ.out, rfl, ⟨hl2.1, hl2.2.1, grownBy_trans (World.grownBy_alloc _ _ _) hl2.2.2⟩⟩

/-- What stands while a disk is drawn: the cursor, the disk in its variable, the answer's cell. -/
structure Dk (w0 : World) (R V p : Nat) (ca : Option Addr) (n cap : Nat) (v : Value) (L : List Fil) (wi : World) : Prop where
  cur : Cur wi p ca n cap
  code : CodeAt wi ca n p
  own : OwnF wi (V + 1) 36 v L
  bV : DBox wi V v
  bR : DBox wi R (.slice none 0 0)
  bel : Below w0.heap.size w0 wi
  pV : p < V
  wR : w0.heap.size ≤ R
  Rp : R < p
theorem Dk.next {w0 : World} {R V p : Nat} {ca : Option Addr} {n cap : Nat} {v : Value} {L : List Fil} {wi wj : World} (h : Dk w0 R V p ca n cap v L wi) (hb : Below wi.heap.size wi wj) : Dk w0 R V p ca n cap v L wj where
  cur := h.cur.kept (hb.block p h.cur.lt)
  code := h.code.kept fun b hbp => hb.block b (by have := h.cur.lt; omega)
  own := h.own.below hb (Nat.le_refl _)
  bV := h.bV.on hb
  bR := h.bR.on hb
  bel := bthen h.bel hb
  pV := h.pV
  wR := h.wR
  Rp := h.Rp
theorem Dk.left {w0 : World} {R V p : Nat} {ca : Option Addr} {n cap : Nat} {v : Value} {L : List Fil} {wi wj : World} (h : Dk w0 R V p ca n cap v L wi) (hl : Left wi wj p ca n cap) : Dk w0 R V p ca n cap v L wj where
  cur := hl.1
  code := hl.2.1
  own := h.own.grown hl.2.2 fun k hk e => by
    have h1 := (h.own.lt k hk).1
    have h2 := h.pV
    simp at e
    omega
  bV := h.bV.grown hl.2.2 fun k e => by have := h.pV; simp at e; omega
  bR := h.bR.grown hl.2.2 fun k e => by have := h.Rp; simp at e; omega
  bel := below_of_left h.bel (by have := h.wR; have := h.Rp; omega) hl
  pV := h.pV
  wR := h.wR
  Rp := h.Rp
theorem Dk.store {w0 : World} {R V p : Nat} {ca : Option Addr} {n cap : Nat} {v u : Value} {L M : List Fil} {wi : World} (h : Dk w0 R V p ca n cap v L wi) (ho : OwnF wi (V + 1) 36 u M) : Dk w0 R V p ca n cap u M (wi.setCell ⟨V, 0, none⟩ u) where
  cur := h.cur.kept (heap_setCell_other _ _ _ _ (by have := h.pV; simp; omega))
  code := h.code.kept fun b hbp => heap_setCell_other _ _ _ _ (by have := h.pV; simp; omega)
  own := ho.setBox h.bV
  bV := h.bV.set u
  bR := (heap_setCell_other _ _ _ _ (by have := h.pV; have := h.Rp; simp; omega)).trans h.bR
  bel := h.bel.setCell (by have := h.pV; have := h.Rp; have := h.wR; simp; omega) _
  pV := h.pV
  wR := h.wR
  Rp := h.Rp
theorem Dk.below {w0 : World} {R V p : Nat} {ca : Option Addr} {n cap : Nat} {v : Value} {L : List Fil} {wi : World} (h : Dk w0 R V p ca n cap v L wi) (hn : n ≤ 1048576) (m : Int) (hm1 : 0 < m) (hm2 : m ≤ 5000) :
    Calls Try.prog 22 #[.pointer (some ⟨p, 0, none⟩), .int .i64 m] wi fun e w' => ∃ x : Nat, (x : Int) < m ∧ e = .returned (.int .i64 x) ∧ Dk w0 R V p ca n cap v L w' :=
  (below_any wi p ca n cap m h.cur h.code hn (by omega) (by omega)).mono fun _ _ ⟨x, h1, _, h2, h3⟩ => ⟨x, h1 hm1, h2, h.left h3⟩
theorem Dk.text {w0 : World} {R V p : Nat} {ca : Option Addr} {n cap : Nat} {v : Value} {L : List Fil} {wi : World} (h : Dk w0 R V p ca n cap v L wi) (hn : n ≤ 1048576) (m : Nat) (hm2 : m ≤ 5000) :
    Calls Try.prog 23 #[.pointer (some ⟨p, 0, none⟩), .int .i64 (m : Int)] wi fun e w' => ∃ s : ByteArray, s.size ≤ m ∧ e = .returned (.string s) ∧ Dk w0 R V p ca n cap v L w' :=
  (text_any wi p ca n cap (m : Int) h.cur h.code hn (by omega) (by omega)).mono fun _ _ ⟨x, h1, h2, h3⟩ => ⟨x, by omega, h2, h.left h3⟩
theorem Dk.named {w0 : World} {R V p : Nat} {ca : Option Addr} {n cap : Nat} {v : Value} {L : List Fil} {wi : World} (h : Dk w0 R V p ca n cap v L wi) (hn : n ≤ 1048576) :
    Calls Try.prog 25 #[.pointer (some ⟨p, 0, none⟩)] wi fun e w' => ∃ s : ByteArray, nOk s = true ∧ e = .returned (.string s) ∧ Dk w0 R V p ca n cap v L w' :=
  (named_any wi p ca n cap h.cur h.code hn h.cur.lt).mono fun _ _ ⟨x, h1, h2, h3⟩ => ⟨x, h1, h2, h.left h3⟩
theorem Dk.put {w0 : World} {R V p : Nat} {ca : Option Addr} {n cap : Nat} {v : Value} {L : List Fil} {wi : World} (h : Dk w0 R V p ca n cap v L wi) (hl : L.length ≤ 1048576) (nm tx : ByteArray) (kp : Int) :
    Calls Try.prog 24 #[.agg #[v], .agg #[.string nm, .string tx, .int .i64 kp]] wi fun e w' => ∃ (a : Option Addr) (m c : Nat), e = .returned (.agg #[.slice a m c]) ∧ OwnF w' (V + 1) 36 (.slice a m c) (putL L ⟨nm, tx, kp⟩) ∧ Dk w0 R V p ca n cap v L w' := by
  obtain ⟨a, c, rfl, _, _, hA, _⟩ := h.own.shape
  exact (l03Put_any wi a c L ⟨nm, tx, kp⟩ hA hl).mono fun _ _ ⟨u, h1, h2, h3⟩ => by
    obtain ⟨a', c', rfl, _⟩ := h2.shape
    exact ⟨a', _, c', h1, h2.mono (by have := h.bV.lt; omega), h.next h3⟩

set_option maxHeartbeats 4000000 in
theorem drawRightDisk_any (w : World) (ca : Option Addr) (n cap : Nat) (hcode : CodeAt w ca n w.heap.size) (hn : n ≤ 1048576) :
    Calls Try.prog 6 #[.slice ca n cap] w fun e w' => ∃ (v : Value) (L : List Fil), e = .returned (.agg #[v]) ∧ dOk L = true ∧ OwnF w' w.heap.size 36 v L ∧ Below w.heap.size w w' := by
  obtain ⟨wa, hwa⟩ : ∃ wa, w.alloc (.cells #[.slice none 0 0] 26) = wa := ⟨_, rfl⟩
  have hba : Below w.heap.size w wa := by rw [← hwa]; exact (Below.refl _ _).alloc (Nat.le_refl _) _
  have hsa : wa.heap.size = w.heap.size + 1 := by rw [← hwa]; simp
  have hra : DBox wa w.heap.size (.slice none 0 0) := by rw [← hwa]; exact DBox.new _ _
  have hca : CodeAt wa ca n wa.heap.size := by
    rw [← hwa]
    intro j hj
    obtain ⟨b, off, z, h1, h2, h3, h4⟩ := hcode.alloc (.cells #[.slice none 0 0] 26) j hj
    exact ⟨b, off, z, h1, by simp; omega, h3, h4⟩
  have c1 := new_any wa ca n cap hca hn
  have HW : Hid (w.alloc (.cells #[.slice none 0 0] 26) = wa) := hwa
  clear hcode hwa hca
  go_enter Try.func6, Try.ntmps6
  go_wp2_with fail
  rw [HW.out]
  refine c1.mono ?_
  rintro e w1 ⟨p, rfl, hp1, hp2, hcur, hcd, hb1⟩
  have hD : Dk w w.heap.size w1.heap.size p ca n cap (.slice none 0 0) [] (w1.alloc (.cells #[.slice none 0 0] 26)) :=
    ⟨hcur.alloc hp1 _, hcd.alloc _, OwnF.nil _ _ _, DBox.new _ _, (hra.on hb1).on ((Below.refl _ _).alloc (Nat.le_refl _) _), (bthen hba hb1).alloc (by have := hb1.size; omega) _, hp1, Nat.le_refl _, by omega⟩
  obtain ⟨V, hV⟩ : ∃ V, w1.heap.size = V := ⟨_, rfl⟩
  rw [hV] at hD
  have HD : Hid (Dk w w.heap.size V p ca n cap (.slice none 0 0) [] (w1.alloc (.cells #[.slice none 0 0] 26))) := hD
  clear c1 hcur hcd hra hD hba hb1
  go_wp2
  go_loopw [5] (fun i wr => Box (∃ (k : Nat) (v : Value) (L : List Fil), k ≤ 5 ∧ i = .int .i64 k ∧ L.length ≤ k ∧ Hid (dOk L = true) ∧ Dk w w.heap.size V p ca n cap v L wr))
    (fun i _ => 5 - (intOf i).toNat)
  case atStart => exact ⟨⟨0, _, [], by omega, rfl, by simp, by simp [Hid, dOk, okTo], HD.out⟩⟩
  case round =>
    obtain ⟨k, v, L, hk, rfl, hl, HOK, hd⟩ := hrel.out
    clear hrel HD
    go_wp2_with fail
    refine (hd.below hn 6 (by omega) (by omega)).mono ?_
    rintro e w2 ⟨x, hx, rfl, hd2⟩
    clear hd
    by_cases hlt : (k : Int) < (x : Int)
    · go_wp2_with fail
      refine (hd2.below hn 30 (by omega) (by omega)).mono ?_
      rintro e w3 ⟨y, hy, rfl, hd3⟩
      clear hd2
      go_wp2_with fail
      refine (hd3.text hn y (by omega)).mono ?_
      rintro e w4 ⟨t, ht, rfl, hd4⟩
      clear hd3
      obtain ⟨tz, htz⟩ : ∃ tz, t.size = tz := ⟨_, rfl⟩
      have htz2 : tz ≤ y := by omega
      have HT : Hid (t.size = tz) := htz
      have hwr : IntKind.i64.wrap ((tz : Int) + 1) = (tz : Int) + 1 := by rw [IntKind.wrap_i64]; omega
      have q := hd4.bV.cell
      go_wp2
      replace hd4 := hd4.next (wj := w4.drew) ⟨rfl, rfl, rfl, Nat.le_refl _, fun _ _ => rfl⟩
      go_region_law (go_simp; first
        | (go_at_call 25; refine (hd4.named hn).mono ?_; clear hd4 q; rintro e w5 ⟨nm, hnm, rfl, hd4⟩; have q := hd4.bV.cell)
        | (go_at_call 22; refine (hd4.below hn ((tz : Int) + 1) (by omega) (by omega)).mono ?_; clear hd4 q; rintro e w6 ⟨z, hz, rfl, hd4⟩; have q := hd4.bV.cell)
        | (go_at_call 24; refine (hd4.put (by omega) nm t (z : Int)).mono ?_; clear hd4 q; rintro e w7 ⟨u, um, uc, rfl, ho7, hd4⟩; have q := hd4.bV.cell; have qz := hd4.bV.thaw))
      all_goals (
        have HS := hd4.store ho7
        have hpl := putL_len L ⟨nm, t, (z : Int)⟩
        have hfo : fOk ⟨nm, t, (z : Int)⟩ = true := by
          have := HT.out
          simp only [fOk, hnm, Bool.true_and, Bool.and_eq_true, decide_eq_true_eq]
          omega
        have HD2 : Hid (dOk (putL L ⟨nm, t, (z : Int)⟩) = true) := dOk_put HOK.out hfo (by omega)
        clear ho7 hd4 hfo
        go_wp2
        refine ⟨?_, ?_⟩
        · exact ⟨⟨k + 1, _, _, by omega, by go_num, by omega, HD2, HS⟩⟩
        · simp [intOf]; omega)
    · obtain ⟨a, c, rfl, _, _, hA, _⟩ := hd2.own.shape
      have q0 := hd2.bV.cell
      have q1 := hd2.bR.cell
      have z1 := hd2.bR.thaw
      obtain ⟨m, hm⟩ : ∃ m, L.length = m := ⟨_, rfl⟩
      have HO : Hid (OwnF w2 w.heap.size 36 (.slice a m c) L) := by
        rw [← hm]; exact hd2.own.mono (by have := hd2.pV; have := hd2.Rp; omega)
      have HB : Hid (DBox w2 w.heap.size (.slice none 0 0)) := hd2.bR
      have HL : Hid (Below w.heap.size w w2) := hd2.bel
      rw [hm] at q0
      have q5 := cell_set_same (v := .slice a m c) q1
      clear hm hA hd2
      go_wp2
      refine bodyPost_ret (v := .agg #[.slice a m c]) (by simp [results, Try.results6, go_sem, q5]) rfl ⟨_, L, rfl, HOK.out, ?_, ?_⟩
      · exact HO.out.setBox HB.out
      · exact HL.out.setCell (by simp) _
end Go.Proofs.Ytiddmmmgmoofnaa
