/- The walk of the law on turned bytes. -/
import Derived.Test.YthpliadeeaodeaaDoorTurnPlain
import Derived.Test.YthpliadeeaodeaaDoorDrawTurn
import Derived.Test.YthpliadeeaodeaaDoorBig
import Derived.Test.YthpliadeeaodeaaDoorSealImpl
import Derived.Lib.ConvBytes
import Derived.StillTailTactics
namespace Go.Proofs.YthpliadeeaodeaaDoor
open Go.RowKit

/-- '[]byte(t)' of a text: a new block with its bytes. -/
theorem bytes_of (t : ByteArray) (w : World) : ∃ (W : World) (cap : Nat) (cs : Array Value), (convert 9 22 (.string t)).run Tryd.prog w = .ok (.slice (some ⟨w.heap.size, 0, none⟩) t.size cap) W ∧ Below w.heap.size w W ∧
    W.heap[w.heap.size]? = some (.cells cs 5 (cs.size, cs.size + 1)) ∧ t.size ≤ cs.size ∧ ∀ j, j < t.size → cs[j]? = some (.int .u8 ((t.data.toList.getD j 0).toNat : Int)) := by
  refine ⟨_, _, _, Lib.run_convert_string_bytes w 9 22 5 t Tryd.underlying9 Tryd.underlying22 Tryd.underlying5, ?_, Lib.bytesWorld_at_new w 5 t, ?_, ?_⟩
  · exact ⟨rfl, rfl, rfl, by rw [Lib.bytesWorld_size]; omega, fun k hk => Lib.bytesWorld_at_old w 5 t k hk⟩
  · simp [Lib.bytesCells]
  · intro j hj
    have := Lib.bytesWorld_cell w 5 t j hj
    simpa [World.cell?, Lib.bytesWorld_at_new] using this

theorem add_at (b j : Nat) : (⟨b, 0, none⟩ : Addr).add j = ⟨b, j, none⟩ := by cases j <;> simp [Addr.add]
theorem cell_at (w : World) {b : Nat} (j : Nat) (cs : Array Value) {e : TypeId} (fr : Nat × Nat) (h : w.heap[b]? = some (.cells cs e fr)) : w.cell? ⟨b, j, none⟩ = cs[j]? := by simp [World.cell?, h]
theorem setCell_block (w : World) (b i : Nat) (cs : Array Value) (e : TypeId) (fr : Nat × Nat) (v : Value) (h : w.heap[b]? = some (.cells cs e fr)) : (w.setCell ⟨b, i, none⟩ v).heap[b]? = some (.cells (cs.setIfInBounds i v) e fr) := by
  simp [World.setCell, Array.getElem?_modify, h]

set_option maxHeartbeats 4000000 in
set_option maxRecDepth 100000 in
theorem turned_walk (ca : Option Addr) (n cap : Nat) (w : World) (hcode : CodeAt w ca n w.heap.size) (hlen : n ≤ maxLen) (ht : Tab w) :
    Calls Tryd.prog 4 #[.slice ca n cap] w fun e w' => e = .returned (.bool true) ∧ Below w.heap.size w w' := by
  unfold maxLen at hlen
  by_cases hn : n ≤ 1048576
  · have c1 := drawSumOf_any w ca n cap hcode hn
    have C2 : Hid (∀ w', Below w.heap.size w w' → Calls Tryd.prog 17 #[.slice ca n cap] w' fun e w'' => ∃ (v : Value) (l : List Int), e = .returned v ∧ l.length = 12 ∧ (∀ z ∈ l, 0 ≤ z ∧ z < 10000) ∧ OwnV w'' w'.heap.size 3 v (ints l) ∧ Below w'.heap.size w' w'') := by
      intro w' hb
      refine drawPlaces_any w' ca n cap (fun j hj => ?_) hn
      obtain ⟨b, off, z, h1, h2, h3, h4⟩ := hcode j hj
      exact ⟨b, off, z, h1, Nat.lt_of_lt_of_le h2 hb.size, (hb.cell (p := ⟨b, off + j, none⟩) h2).trans h3, h4⟩
    clear hcode
    go_enter Tryd.func4, Tryd.ntmps4
    have cb := big_any ca n cap w hlen
    rw [show decide (1048576 < n) = false by simp; omega] at cb
    go_wp2_with fail
    refine cb.mono ?_
    rintro e w' ⟨rfl, rfl⟩
    go_wp2_with fail
    refine c1.mono ?_
    rintro e w1 ⟨s, hs, rfl, hb1⟩
    clear c1 cb
    go_wp2_with fail
    refine (C2.out _ hb1).mono ?_
    rintro e w2 ⟨v, l, rfl, hl, hlz, hown, hb2⟩
    have hB2 : Below w.heap.size w w2 := hb1.trans (hb2.mono hb1.size)
    have ht2 : Tab w2 := ht.below hB2 (Nat.le_refl _)
    obtain ⟨pa, pc, rfl, hcells⟩ := hown.shape
    obtain ⟨g, rfl, hz0, _, _, hg⟩ := hcells 0 (by rw [ints_length]; omega)
    obtain ⟨g', hgg, hz1, _, _, _⟩ := hcells 1 (by rw [ints_length]; omega)
    simp at hgg
    subst hgg
    rw [ints_at (by omega)] at hz0 hz1
    obtain ⟨x0, hx0⟩ : ∃ x, l[0] = x := ⟨_, rfl⟩
    obtain ⟨x1, hx1⟩ : ∃ x, l[1] = x := ⟨_, rfl⟩
    have hxb0 := hlz l[0] (List.getElem_mem _)
    have hxb1 := hlz l[1] (List.getElem_mem _)
    rw [hx0] at hz0 hxb0
    rw [hx1] at hz1 hxb1
    rw [ints_length, hl]
    clear hcells hown hlz hx0 hx1 hl C2 hb1 hb2
    have c3 := implSealed_any s w2 (by omega) ht2
    have hso : slOk s = true := by simp [slOk]; omega
    rw [hso] at c3
    go_wp2_with fail
    refine c3.mono ?_
    rintro e w3 ⟨rfl, hb3⟩
    have hB3 : Below w.heap.size w w3 := hB2.trans (hb3.mono hB2.size)
    have ht3 : Tab w3 := ht.below hB3 (Nat.le_refl _)
    have hsz := slText_size (s := s) (by omega)
    have c4 := implUnsealed_any (slText s) w3 (by omega) ht3
    have hus := un_sealed (s := s) (by omega)
    rw [hus.1, hus.2] at c4
    clear hus c3
    go_wp2_with fail
    refine c4.mono ?_
    rintro e w4 ⟨rfl, hb4⟩
    have hB4 : Below w.heap.size w w4 := hB3.trans (hb4.mono hB3.size)
    have ht4 : Tab w4 := ht.below hB4 (Nat.le_refl _)
    have hz04 : w4.cell? ⟨g, 0, none⟩ = some (.int .i64 x0) := (hb4.cell (p := ⟨g, 0, none⟩) (Nat.lt_of_lt_of_le hg hb3.size)).trans ((hb3.cell (p := ⟨g, 0, none⟩) hg).trans hz0)
    have hz14 : w4.cell? ⟨g, 1, none⟩ = some (.int .i64 x1) := (hb4.cell (p := ⟨g, 1, none⟩) (Nat.lt_of_lt_of_le hg hb3.size)).trans ((hb3.cell (p := ⟨g, 1, none⟩) hg).trans hz1)
    have hg4 : g < w4.heap.size := Nat.lt_of_lt_of_le hg (Nat.le_trans hb3.size hb4.size)
    have hun := fun (i : Nat) (c : UInt8) hi hc t ht => un_turned (s := s) (by omega) i c hi hc t ht
    have HUN : Hid (∀ (i : Nat) (c : UInt8) (hi : i < (slText s).data.toList.length) (hc : c ≠ (slText s).data.toList[i]) (t : ByteArray) (ht : t.data.toList = (slText s).data.toList.set i c), unOk t = false) := hun
    clear hz0 hz1 hg hb3 hb4 hB2 hB3 ht2 ht3 c4 hun hso
    generalize slText s = t at hsz HUN ⊢
    obtain ⟨W, capb, cs, hcv, hbW, hblk, hcs, hcell⟩ := bytes_of t w4
    have hB5 : Below w.heap.size w W := hB4.trans (hbW.mono hB4.size)
    have ht5 : Tab W := ht.below hB5 (Nat.le_refl _)
    have hz05 : W.cell? ⟨g, 0, none⟩ = some (.int .i64 x0) := (hbW.cell (p := ⟨g, 0, none⟩) hg4).trans hz04
    have hz15 : W.cell? ⟨g, 1, none⟩ = some (.int .i64 x1) := (hbW.cell (p := ⟨g, 1, none⟩) hg4).trans hz14
    clear hz04 hz14
    obtain ⟨i, hi, hix1, hix2⟩ : ∃ i : Nat, i < t.size ∧ x0 % ((s.size : Int) + 4) = (i : Int) ∧ x0.tmod ((s.size : Int) + 4) = (i : Int) := by
      have h1 := Int.emod_nonneg x0 (b := (s.size : Int) + 4) (by omega)
      have h2 := Int.emod_lt_of_pos x0 (b := (s.size : Int) + 4) (by omega)
      exact ⟨(x0 % ((s.size : Int) + 4)).toNat, by omega, by omega, by rw [Int.tmod_eq_emod_of_nonneg (by omega)]; omega⟩
    obtain ⟨d, hd, hdx1, hdx2⟩ : ∃ d : Nat, d < 255 ∧ x1 % 255 = (d : Int) ∧ x1.tmod 255 = (d : Int) := ⟨(x1 % 255).toNat, by omega, by omega, by rw [Int.tmod_eq_emod_of_nonneg (by omega)]; omega⟩
    obtain ⟨b, hb⟩ : ∃ b, t.data.toList.getD i 0 = b := ⟨_, rfl⟩
    have hbl : b.toNat < 256 := b.toNat_lt
    have hcb : W.cell? ⟨w4.heap.size, i, none⟩ = some (.int .u8 (b.toNat : Int)) := by
      simp only [World.cell?, hblk]
      rw [← hb]
      exact hcell i hi
    have hfz : W.frozen? ⟨w4.heap.size, i, none⟩ = false := by
      simp only [World.frozen?, hblk]
      simp
      omega
    obtain ⟨c, hc, HC⟩ : ∃ c : UInt8, bits .xor .u8 (b.toNat : Int) (1 + (d : Int)) = (c.toNat : Int) ∧ Hid (c ≠ b) := by
      have hx := u8_xor_nat b.toNat (1 + d) hbl (by omega)
      have hlt : b.toNat ^^^ (1 + d) < 256 := Nat.xor_lt_two_pow (n := 8) hbl (by omega)
      refine ⟨UInt8.ofNat (b.toNat ^^^ (1 + d)), ?_, fun he => ?_⟩
      · rw [UInt8.toNat_ofNat', Nat.mod_eq_of_lt hlt]
        rw [← hx]
        simp
      · have := congrArg UInt8.toNat he
        rw [UInt8.toNat_ofNat', Nat.mod_eq_of_lt hlt] at this
        have h0 : b.toNat ^^^ (1 + d) = b.toNat ^^^ 0 := by rw [this, Nat.xor_zero]
        have := xor_inj_left h0
        omega
    have hi1 : (0 : Int) ≤ (i : Int) := by omega
    have hi2 : (i : Int) < (s.size : Int) + 4 := by omega
    have hblk2 : (W.setCell ⟨w4.heap.size, i, none⟩ (.int .u8 (c.toNat : Int))).heap[w4.heap.size]? = some (.cells (cs.setIfInBounds i (.int .u8 (c.toNat : Int))) 5 (cs.size, cs.size + 1)) := setCell_block W w4.heap.size i _ _ _ _ hblk
    have hB6 : Below w.heap.size w (W.setCell ⟨w4.heap.size, i, none⟩ (.int .u8 (c.toNat : Int))).drew := by
      refine ⟨hB5.os, hB5.tape, hB5.output, Nat.le_trans hB5.size (by simp), fun k hk => ?_⟩
      have := hB4.size
      exact (heap_setCell_other W ⟨w4.heap.size, i, none⟩ k _ (by simp; omega)).trans (hB5.block k hk)
    obtain ⟨W2, hW2⟩ : ∃ W2, (W.setCell ⟨w4.heap.size, i, none⟩ (.int .u8 (c.toNat : Int))).drew = W2 := ⟨_, rfl⟩
    obtain ⟨T, hT⟩ : ∃ T : ByteArray, T = ⟨(t.data.toList.set i c).toArray⟩ := ⟨_, rfl⟩
    have hTl : T.data.toList = t.data.toList.set i c := by rw [hT]
    have hTz : T.size = s.size + 4 := by
      have := congrArg List.length hTl
      rw [List.length_set] at this
      simpa [hsz] using this
    have hcv2 : (convert 22 9 (.slice (some ⟨w4.heap.size, 0, none⟩) (s.size + 4) capb)).run Tryd.prog W2 = .ok (.string T) W2 := by
      have h := run_convert_bytes_back (P := Tryd.prog) W2 22 9 5 ⟨w4.heap.size, 0, none⟩ capb (t.data.toList.set i c) Tryd.underlying22 Tryd.underlying5 Tryd.underlying9 (fun j hj => by
        rw [List.length_set] at hj
        have hj' : j < t.size := by simpa using hj
        have hh : W2.heap[w4.heap.size]? = some (.cells (cs.setIfInBounds i (.int .u8 (c.toNat : Int))) 5 (cs.size, cs.size + 1)) := by rw [← hW2]; exact hblk2
        rw [add_at, cell_at W2 _ _ _ hh]
        have h1 := hcell j hj'
        by_cases hji : j = i
        · subst hji
          simp [Nat.lt_of_lt_of_le hj' hcs]
        · rw [Array.getElem?_setIfInBounds, if_neg (Ne.symm hji), h1, List.getElem_set_ne (Ne.symm hji)]
          simp [List.getD, hj'])
      rw [← hT] at h
      rw [List.length_set, show t.data.toList.length = s.size + 4 by simpa using hsz] at h
      exact h
    have hun : unOk T = false := by
      have hL : i < t.data.toList.length := by simpa using hi
      refine HUN.out i c hL ?_ T hTl
      rw [List.getD_eq_getElem?_getD, List.getElem?_eq_getElem hL] at hb
      simp only [Option.getD_some] at hb
      rw [hb]
      exact HC.out
    have c5 := implUnsealed_any T W2 (by omega) (by rw [← hW2]; exact ht.below hB6 (Nat.le_refl _))
    rw [hun] at c5
    have c6 := fun w' (hb : Below w.heap.size w w') => implSumOf_s s w' (by omega) (ht.below hb (Nat.le_refl _))
    have c7 := fun w' (hb : Below w.heap.size w w') => implSumMore_any (sumOf s) ⟨#[120]⟩ w' (sumOf_lt s) (by decide) (ht.below hb (Nat.le_refl _))
    have c8 := fun w' (hb : Below w.heap.size w w') => implSumOf_s (s ++ ⟨#[120]⟩) w' (by rw [ByteArray.size_append']; have : (⟨#[120]⟩ : ByteArray).size = 1 := rfl; omega) (ht.below hb (Nat.le_refl _))
    have hmore : sumAll (sumOf s) (⟨#[120]⟩ : ByteArray).data.toList = sumOf (s ++ ⟨#[120]⟩) := sumOf_more s 120
    rw [hmore] at c7
    rw [hW2] at hB6
    generalize sumOf (s ++ ⟨#[120]⟩) = q2 at c7 c8
    generalize sumOf s = q1 at c6 c7
    clear hT hTl HUN HC hblk2 hblk hcell hcs hb hun hmore hB5 ht5 hB4 ht4 hbW
    go_wp2_with fail
    go_still_tail 13, (by kernel_rfl)
    go_wp2_with fail
    refine c5.mono ?_
    rintro e w7 ⟨rfl, hb7⟩
    have hB7 : Below w.heap.size w w7 := hB6.trans (hb7.mono hB6.size)
    have k6 := c6 _ hB7
    have k7 := c7 _ hB7
    have k8 := c8 _ hB7
    clear c5 c6 c7 c8
    go_wp2_with fail
    refine k6.mono ?_
    rintro e w8 ⟨rfl, rfl⟩
    go_wp2_with fail
    refine k7.mono ?_
    rintro e w9 ⟨rfl, rfl⟩
    go_wp2_with fail
    refine k8.mono ?_
    rintro e w10 ⟨rfl, rfl⟩
    go_wp2
    go_ret
    exact ⟨rfl, hB7⟩
  · go_enter Tryd.func4, Tryd.ntmps4
    have cb := big_any ca n cap w hlen
    rw [show decide (1048576 < n) = true by simp; omega] at cb
    go_wp2_with fail
    refine cb.mono ?_
    rintro e w' ⟨rfl, rfl⟩
    go_wp2
    go_ret
    exact ⟨rfl, Below.refl _ _⟩
end Go.Proofs.YthpliadeeaodeaaDoor
