/- The law: of a drawn right disk what is kept is never lost. -/
import Derived.Test.YtlmclblndjeljaaKeepDraw
import Derived.Test.YtlmclblndjeljaaKeepTools
import Derived.Test.YtlmclblndjeljaaLoseImpl2
import Derived.Test.YtlmclblndjeljaaKeptImpl
import Derived.Test.YtlmclblndjeljaaBig
import Derived.Deep.RegionHeld3
import Derived.Deep.RegionWith
namespace Go.Proofs.Ytlmclblndjeljaa
open Go.RowKit Go.Sort

/-- A disk in a variable of the law. -/
structure Dsk (D : Nat) (a : Option Addr) (m c : Nat) (L : List Fil) (wi : World) : Prop where
  box : DBox wi D (.slice a m c)
  fat : FAt wi a L wi.heap.size
  len : L.length = m
theorem Dsk.next {D : Nat} {a : Option Addr} {m c : Nat} {L : List Fil} {wi wj : World} (h : Dsk D a m c L wi) (hb : Below wi.heap.size wi wj) : Dsk D a m c L wj := ⟨h.box.on hb, h.fat.on hb, h.len⟩
theorem Dsk.new {a : Option Addr} {m c : Nat} {L : List Fil} {wi : World} (h : FAt wi a L wi.heap.size) (hl : L.length = m) : Dsk wi.heap.size a m c L (wi.alloc (.cells #[.slice a m c] 26)) := ⟨DBox.new _ _, h.on ((Below.refl _ _).alloc (Nat.le_refl _) _), hl⟩
theorem Dsk.lose {D : Nat} {a : Option Addr} {m c : Nat} {L : List Fil} {wi : World} (h : Dsk D a m c L wi) (hd : dOk L = true) (b : Option Addr) (capb k : Nat) (left : List Int) (hI : IAt wi b left wi.heap.size) (hk : left.length = k) (hk2 : k ≤ 100) :
    Calls Try.prog 9 #[.agg #[.slice a m c], .slice b k capb] wi fun e w' => ∃ (a' : Option Addr) (c' : Nat), e = .returned (.tuple #[.agg #[.slice a' m c'], .bool true]) ∧ FAt w' a' (loseL L left) w'.heap.size ∧ Below wi.heap.size wi w' := by
  obtain ⟨_, hf, rfl⟩ := h
  subst hk
  refine (implLose_any wi a c L b capb left hf hI (dOk_wgt hd) (by omega)).mono ?_
  rintro e w' ⟨v, rfl, ho, hb⟩
  obtain ⟨a', c', rfl, hA⟩ := ho.at
  exact ⟨a', c', by rw [hd, loseL_len hd], hA, hb⟩
theorem Dsk.kept {D : Nat} {a : Option Addr} {m c : Nat} {L : List Fil} {wi : World} (h : Dsk D a m c L wi) (hm : m ≤ 30) (hd : aK L = true) :
    Calls Try.prog 11 #[.agg #[.slice a m c]] wi fun e w' => e = .returned (.bool true) ∧ Below wi.heap.size wi w' := by
  obtain ⟨_, hf, rfl⟩ := h
  refine (implAllKept_any wi a c L hf (by omega)).mono ?_
  rintro e w' ⟨rfl, hb⟩
  exact ⟨by rw [hd], hb⟩
theorem Dsk.right {D : Nat} {a : Option Addr} {m c : Nat} {L : List Fil} {wi : World} (h : Dsk D a m c L wi) (hm : m ≤ 30) (hd : dOk L = true) :
    Calls Try.prog 12 #[.agg #[.slice a m c]] wi fun e w' => e = .returned (.bool true) ∧ Below wi.heap.size wi w' := by
  obtain ⟨_, hf, rfl⟩ := h
  refine (implDiskOk_any wi a c L hf (by omega)).mono ?_
  rintro e w' ⟨rfl, hb⟩
  exact ⟨by rw [hd], hb⟩
theorem Dsk.same {D D2 : Nat} {a b : Option Addr} {m c c2 : Nat} {L : List Fil} {wi : World} (h : Dsk D a m c L wi) (h2 : Dsk D2 b m c2 L wi) (hm : m ≤ 30) :
    Calls Try.prog 10 #[.agg #[.slice a m c], .agg #[.slice b m c2]] wi fun e w' => e = .returned (.bool true) ∧ Below wi.heap.size wi w' := by
  obtain ⟨_, hf, rfl⟩ := h
  exact sameDisk_same wi a b c c2 L hf h2.fat (by omega)

theorem kept5 {w0 w1 w2 : World} {a b c d e : Addr} {u1 u2 u3 u4 u5 : Value} (h : Below w0.heap.size w0 w1 ∧ w1.cell? a = some u1 ∧ w1.cell? b = some u2 ∧ w1.cell? c = some u3 ∧ w1.cell? d = some u4 ∧ w1.cell? e = some u5)
    (ha : a.block < w0.heap.size) (hb : b.block < w0.heap.size) (hc : c.block < w0.heap.size) (hd : d.block < w0.heap.size) (he : e.block < w0.heap.size) (hw : Below w1.heap.size w1 w2) :
    Below w0.heap.size w0 w2 ∧ w2.cell? a = some u1 ∧ w2.cell? b = some u2 ∧ w2.cell? c = some u3 ∧ w2.cell? d = some u4 ∧ w2.cell? e = some u5 :=
  ⟨bthen h.1 hw, (hw.cell (Nat.lt_of_lt_of_le ha h.1.size)).trans h.2.1, (hw.cell (Nat.lt_of_lt_of_le hb h.1.size)).trans h.2.2.1, (hw.cell (Nat.lt_of_lt_of_le hc h.1.size)).trans h.2.2.2.1, (hw.cell (Nat.lt_of_lt_of_le hd h.1.size)).trans h.2.2.2.2.1, (hw.cell (Nat.lt_of_lt_of_le he h.1.size)).trans h.2.2.2.2.2⟩

set_option maxHeartbeats 4000000 in
theorem keeps_walk (ca : Option Addr) (n cap : Nat) (w : World) (hcode : CodeAt w ca n w.heap.size) (hlen : n ≤ maxLen) :
    Calls Try.prog 3 #[.slice ca n cap] w fun e w' => e = .returned (.bool true) ∧ Below w.heap.size w w' := by
  unfold maxLen at hlen
  by_cases hn : n ≤ 1048576
  · have C1 : Hid (∀ w', Below w.heap.size w w' → CodeAt w' ca n w'.heap.size) := by
      intro w' hb j hj
      obtain ⟨b, off, z, h1, h2, h3, h4⟩ := hcode j hj
      exact ⟨b, off, z, h1, Nat.lt_of_lt_of_le h2 hb.size, (hb.cell (p := ⟨b, off + j, none⟩) h2).trans h3, h4⟩
    have c1 := drawRightDisk_any w ca n cap hcode hn
    have hbig : decide (1048576 < n) = false := by simp; omega
    clear hcode
    go_enter Try.func3, Try.ntmps3
    go_wp2_with fail
    refine (big_any ca n cap w hlen).mono ?_
    rintro e w' ⟨rfl, rfl⟩
    rw [hbig]
    clear hbig
    go_wp2_with fail
    refine c1.mono ?_
    rintro e w1 ⟨v1, L, rfl, hdk, hown, hb1⟩
    obtain ⟨a, c, rfl, hA⟩ := hown.at
    obtain ⟨m, hm⟩ : ∃ m, L.length = m := ⟨_, rfl⟩
    have hm30 : m ≤ 30 := by rw [← hm]; exact dOk_len hdk
    have HK : Hid (dOk L = true) := hdk
    have hD := Dsk.new (c := c) hA hm
    have hB := bplus hb1 (.cells #[.slice a m c] 26)
    rw [hm]
    obtain ⟨D, hDe⟩ : ∃ D, w1.heap.size = D := ⟨_, rfl⟩
    rw [hDe] at hD
    obtain ⟨w2, hw2⟩ : ∃ w2, w1.alloc (.cells #[.slice a m c] 26) = w2 := ⟨_, rfl⟩
    rw [hw2] at hD hB
    clear hdk hown hA hm hb1 c1
    have c2 := drawPlaces_any w2 ca n cap (C1.out w2 hB) hn
    have HW2 : Hid (w1.alloc (.cells #[.slice a m c] 26) = w2) := hw2
    clear hw2
    go_wp2_with fail
    rw [HW2.out]
    refine c2.mono ?_
    rintro e w3 ⟨v3, l, rfl, h12, hzs, hown3, hb3⟩
    obtain ⟨a3, cap3, rfl, hI3⟩ := hown3.ints
    rw [h12]
    have hD3 := hD.next hb3
    have hB3 := bthen hB hb3
    have c3 := lefts_any w3 a3 cap3 l hI3 h12 hzs
    clear c2 hown3 hI3 hzs h12 hD hB hb3
    go_wp2_with fail
    refine c3.mono ?_
    rintro e w4 ⟨v4, r, rfl, h6, hown4, hb4⟩
    obtain ⟨a4, cap4, rfl, hI4⟩ := hown4.ints
    rw [h6]
    have hD4 := hD3.next hb4
    have hB4 := bthen hB3 hb4
    have q4 := hD4.box.cell
    have c4 := hD4.lose HK.out a4 cap4 6 r hI4 h6 (by omega)
    clear c3 hown4 hI4 h6 hD3 hB3 hb4
    go_wp2_with fail
    refine c4.mono ?_
    rintro e w5 ⟨ae, ce, rfl, hA5, hb5⟩
    have hD5 := hD4.next hb5
    have hB5 := bthen hB4 hb5
    obtain ⟨M, hM⟩ : ∃ M, loseL L r = M := ⟨_, rfl⟩
    rw [hM] at hA5
    have HM : Hid (dOk M = true ∧ aK M = true ∧ loseL M [] = M ∧ M.length = m ∧ ∀ j (h1 : j < L.length) (h2 : j < M.length), M[j] = cutF L[j] (toldAt r j)) := by
      subst hM
      exact ⟨lose_dOk HK.out r, lose_aK HK.out r, lose_again HK.out r, by rw [loseL_len HK.out]; exact hD4.len, fun j h1 h2 => loseL_at HK.out r h1 h2⟩
    have hE6 := Dsk.new (m := m) (c := ce) hA5 HM.out.2.2.2.1
    have hB6 := bplus hB5 (.cells #[.slice ae m ce] 26)
    have hD6 := hD5.next ((Below.refl _ _).alloc (Nat.le_refl _) (.cells #[.slice ae m ce] 26))
    obtain ⟨E, hEe⟩ : ∃ E, w5.heap.size = E := ⟨_, rfl⟩
    rw [hEe] at hE6
    obtain ⟨w6, hw6⟩ : ∃ w6, w5.alloc (.cells #[.slice ae m ce] 26) = w6 := ⟨_, rfl⟩
    rw [hw6] at hE6 hB6 hD6
    have hs6 : w6.heap.size = E + 1 := by rw [← hw6, ← hEe]; simp
    have HW6 : Hid (w5.alloc (.cells #[.slice ae m ce] 26) = w6) := hw6
    clear c4 q4 hA5 hb5 hD5 hB5 hM hD4 hB4 hw6
    obtain ⟨w7, hw7⟩ : ∃ w7, w6.alloc (.cells #[] 3) = w7 := ⟨_, rfl⟩
    have hb7 : Below w6.heap.size w6 w7 := by rw [← hw7]; exact (Below.refl _ _).alloc (Nat.le_refl _) _
    have hD7 := hD6.next hb7
    have hE7 := hE6.next hb7
    have hB7 := bthen hB6 hb7
    have q6 := hE6.box.cell
    have HW7 : Hid (w6.alloc (.cells #[] 3) = w7) := hw7
    have c7 := hE7.lose HM.out.1 (some ⟨E + 1, 0, none⟩) 0 0 [] (fun j hj => by simp at hj) rfl (by omega)
    clear hw7 hb7 hD6 hE6 hB6
    go_wp2_with fail
    rw [HW6.out, HW7.out]
    refine c7.mono ?_
    rintro e w8 ⟨af, cf, rfl, hA8, hb8⟩
    rw [HM.out.2.2.1] at hA8
    have hF9 := Dsk.new (m := m) (c := cf) hA8 HM.out.2.2.2.1
    have hb9 : Below w8.heap.size w8 (w8.alloc (.cells #[.slice af m cf] 26)) := (Below.refl _ _).alloc (Nat.le_refl _) _
    have hD9 := (hD7.next hb8).next hb9
    have hE9 := (hE7.next hb8).next hb9
    have hB9 := bthen (bthen hB7 hb8) hb9
    obtain ⟨F, hFe⟩ : ∃ F, w8.heap.size = F := ⟨_, rfl⟩
    rw [hFe] at hF9
    obtain ⟨w9, hw9⟩ : ∃ w9, w8.alloc (.cells #[.slice af m cf] 26) = w9 := ⟨_, rfl⟩
    rw [hw9] at hF9 hD9 hE9 hB9
    have HW9 : Hid (w8.alloc (.cells #[.slice af m cf] 26) = w9) := hw9
    have x9 := hD9.box.cell
    have y9 := hE9.box.cell
    have z9 := hF9.box.cell
    have c9 := hE9.same hF9 hm30
    clear c7 hA8 hb8 hb9 hw9 hD7 hE7 hB7 q6
    rw [HW9.out.symm] at x9 y9 z9
    go_wp2_with fail
    rw [HW9.out]
    refine c9.mono ?_
    rintro e w10 ⟨rfl, hb10⟩
    have hD10 := hD9.next hb10
    have hE10 := hE9.next hb10
    have hB10 := bthen hB9 hb10
    have x10 := hD10.box.cell
    have y10 := hE10.box.cell
    have c10 := hE10.kept hm30 HM.out.2.1
    clear c9 x9 y9 z9 hF9 hD9 hE9 hB9 hb10
    go_wp2_with fail
    refine c10.mono ?_
    rintro e w11 ⟨rfl, hb11⟩
    have hD11 := hD10.next hb11
    have hE11 := hE10.next hb11
    have hB11 := bthen hB10 hb11
    have x11 := hD11.box.cell
    have y11 := hE11.box.cell
    have c11 := hD11.right hm30 HK.out
    clear c10 x10 y10 hD10 hE10 hB10 hb11
    go_wp2_with fail
    refine c11.mono ?_
    rintro e w12 ⟨rfl, hb12⟩
    have hD12 := hD11.next hb12
    have hE12 := hE11.next hb12
    have hB12 := bthen hB11 hb12
    clear c11 x11 y11 hD11 hE11 hB11 hb12
    go_wp2
    go_loopw [9] (fun i wr => Box (∃ (k : Nat), k ≤ m ∧ i = .int .i64 k ∧ Below w12.heap.size w12 wr))
      (fun i _ => m - (intOf i).toNat)
    case atStart => exact ⟨⟨0, by omega, rfl, Below.refl _ _⟩⟩
    case round =>
      obtain ⟨k, hk, rfl, hbel⟩ := hrel.out
      have hDr := hD12.next hbel
      have hEr := hE12.next hbel
      have x13 := hDr.box.cell
      clear hrel
      by_cases hlt : k < m
      · have hkL : k < L.length := by rw [hDr.len]; exact hlt
        have hkM : k < M.length := by rw [hEr.len]; exact hlt
        obtain ⟨⟨nm, ft, fk⟩, hf⟩ : ∃ f, L[k] = f := ⟨_, rfl⟩
        have hfo := dOk_at HK.out hkL
        have hcm := HM.out.2.2.2.2 k hkL hkM
        rw [hf] at hfo hcm
        obtain ⟨⟨yn, yt, yk⟩, hy⟩ : ∃ y, cutF (⟨nm, ft, fk⟩ : Fil) (toldAt r k) = y := ⟨_, rfl⟩
        have hbeg := cut_begins hfo (toldAt r k)
        rw [hy] at hbeg hcm
        have hyn : yn = nm := by
          have := congrArg Fil.nm hy
          exact this.symm
        subst hyn
        have hkp := fOk_kp hfo
        obtain ⟨kt, hkt⟩ : ∃ kt, ft.extract 0 fk.toNat = kt := ⟨_, rfl⟩
        have hB1 : Hid (Begins yt ft) := hbeg.1
        have hB2 : Hid (Begins kt yt) := by rw [← hkt]; exact hbeg.2
        have hsl := fun w => run_slice_string_h (P := Try.prog) w 9 ft Try.underlying9 .i64 fk hkp.1 hkp.2
        rw [hkt] at hsl
        have hby : Below wr.heap.size wr (wr.alloc (.cells #[.string yn, .string ft, .int .i64 fk] 36)) := (Below.refl _ _).alloc (Nat.le_refl _) _
        have hEy := hEr.next hby
        have y13 := hEy.box.cell
        obtain ⟨g, off, rfl, hg, hc0, hc1, hc2⟩ := hDr.fat k hkL
        obtain ⟨g', off', rfl, hg', hd0, hd1, hd2⟩ := hEy.fat k hkM
        rw [hf] at hc0 hc1 hc2
        rw [hcm] at hd0 hd1 hd2
        obtain ⟨wy, hwy⟩ : ∃ wy, (wr.alloc (.cells #[.string yn, .string ft, .int .i64 fk] 36)).alloc (.cells #[.string yn, .string yt, .int .i64 yk] 36) = wy := ⟨_, rfl⟩
        have hX : wy.heap[wr.heap.size]? = some (.cells #[.string yn, .string ft, .int .i64 fk] 36 (0, 0)) := by rw [← hwy, Below.heap_alloc _ _ _ (by simp), heap_alloc_new]
        have hY : wy.heap[wr.heap.size + 1]? = some (.cells #[.string yn, .string yt, .int .i64 yk] 36 (0, 0)) := by
          rw [← hwy]
          have := heap_alloc_new (wr.alloc (.cells #[.string yn, .string ft, .int .i64 fk] 36)) (.cells #[.string yn, .string yt, .int .i64 yk] 36)
          simpa using this
        have hbw : Below w12.heap.size w12 wy := by rw [← hwy]; exact bplus (bplus hbel _) _
        have hp1 : wr.heap.size < wy.heap.size := (Array.getElem?_eq_some_iff.1 hX).1
        have hp2 : wr.heap.size + 1 < wy.heap.size := (Array.getElem?_eq_some_iff.1 hY).1
        have hS0 : Below wy.heap.size wy wy.drew ∧ wy.drew.cell? ⟨wr.heap.size + 1, 0, none⟩ = some (.string yn) ∧ wy.drew.cell? ⟨wr.heap.size, 0, none⟩ = some (.string yn) ∧ wy.drew.cell? ⟨wr.heap.size + 1, 1, none⟩ = some (.string yt) ∧ wy.drew.cell? ⟨wr.heap.size, 1, none⟩ = some (.string ft) ∧ wy.drew.cell? ⟨wr.heap.size, 2, none⟩ = some (.int .i64 fk) := by
          refine ⟨⟨rfl, rfl, rfl, Nat.le_refl _, fun _ _ => rfl⟩, ?_, ?_, ?_, ?_, ?_⟩
          · show wy.cell? _ = _; simp [World.cell?, hY]
          · show wy.cell? _ = _; simp [World.cell?, hX]
          · show wy.cell? _ = _; simp [World.cell?, hY]
          · show wy.cell? _ = _; simp [World.cell?, hX]
          · show wy.cell? _ = _; simp [World.cell?, hX]
        have HWY : Hid ((wr.alloc (.cells #[.string yn, .string ft, .int .i64 fk] 36)).alloc (.cells #[.string yn, .string yt, .int .i64 yk] 36) = wy) := hwy
        have HBW : Hid (Below w12.heap.size w12 wy) := hbw
        have hi1 : (0 : Int) ≤ (k : Int) := by omega
        have hi2 : (k : Int) < (m : Int) := by omega
        clear hwy hX hY hbw hbeg hkt hfo hcm hy hf hDr hEr hEy hby hbel hkp hD12 hE12 hkL hkM
        go_wp2
        rw [HWY.out]
        go_region_held3 (fun w' => Below wy.heap.size wy w' ∧ w'.cell? ⟨wr.heap.size + 1, 0, none⟩ = some (.string yn) ∧ w'.cell? ⟨wr.heap.size, 0, none⟩ = some (.string yn) ∧ w'.cell? ⟨wr.heap.size + 1, 1, none⟩ = some (.string yt) ∧ w'.cell? ⟨wr.heap.size, 1, none⟩ = some (.string ft) ∧ w'.cell? ⟨wr.heap.size, 2, none⟩ = some (.int .i64 fk)) (first | exact hS0 | (refine kept5 (by assumption) hp2 hp1 hp2 hp1 hp1 ?_; assumption))
          (first
            | (go_at_call_of 13 kt; refine (begins_any _ kt yt hB2.out).mono ?_; rintro e w14 ⟨rfl, hb14⟩)
            | (go_at_call_of 13 ft; refine (begins_any _ yt ft hB1.out).mono ?_; rintro e w13 ⟨rfl, hb13⟩))
        go_wp2
        go_roundw
        case rel =>
          try ((repeat apply Exists.intro); refine ⟨?_, rfl⟩)
          exact ⟨⟨k + 1, by omega, by go_num, bthen HBW.out (And.left (by assumption))⟩⟩
        case measure => simp [intOf]; omega
      · have hke : Below w.heap.size w wr := bthen hB12 hbel
        clear hD12 hE12 hDr hEr
        go_wp2
        go_ret
        exact ⟨rfl, hke⟩
  · have hbig : decide (1048576 < n) = true := by simp; omega
    clear hcode
    go_enter Try.func3, Try.ntmps3
    go_wp2_with fail
    refine (big_any ca n cap w hlen).mono ?_
    rintro e w' ⟨rfl, rfl⟩
    rw [hbig]
    go_wp2
    go_ret
    exact ⟨rfl, Below.refl _ _⟩
end Go.Proofs.Ytlmclblndjeljaa
