/- The words of a line: the walk over the program's own text. -/
import Derived.Test.YtednbcdomkhhmajDoorPartsSpec
import Derived.Test.YtednbcdomkhhmajDoorShelf
namespace Go.Proofs.YtednbcdomkhhmajDoor
open Go.RowKit Go.Sort

theorem allPl_take {t : List UInt8} (k : Nat) (hk : k < t.length) (h : (t.take k).all plainB = true) (hb : plainB t[k] = true) : (t.take (k + 1)).all plainB = true := by
  rw [List.take_succ_eq_append_getElem hk, List.all_append, h]
  simp [hb]

set_option maxHeartbeats 1000000 in
theorem allPlain_any (s : ByteArray) (w : World) (hs : s.size ≤ 1048576) :
    Calls Tryd.prog 14 #[.string s] w fun e w' => e = .returned (.bool (allPl s.data.toList)) ∧ w = w' := by
  go_enter Tryd.func14, Tryd.ntmps14
  go_wp2
  go_loopw [3, 6] (fun _ i wr => Box (∃ (k : Nat), k ≤ s.size ∧ i = .int .i64 k ∧ Hid ((s.data.toList.take k).all plainB = true) ∧ wr = w))
    (fun _ i _ => s.size - (intOf i).toNat)
  case atStart => exact ⟨⟨0, by omega, rfl, by simp [Hid], rfl⟩⟩
  case round =>
    obtain ⟨k, hk, rfl, hpl, rfl⟩ := hrel.out
    by_cases hlt : k < s.size
    · obtain ⟨b, hb⟩ : ∃ b, s[k] = b := ⟨_, rfl⟩
      have HM : Hid (b ∈ s.data.toList) := mem_at hlt hb
      have HA : Hid (s.data.toList[k]'(by simpa using hlt) = b) := at_list hlt hb
      have hbl : b.toNat < 256 := b.toNat_lt
      have HN : Hid (¬ (32 ≤ b.toNat ∧ b.toNat ≤ 126) → allPl s.data.toList = false) := by
        intro h
        unfold allPl
        rw [List.all_eq_false]
        exact ⟨b, HM.out, by simp [plainB]; omega⟩
      rcases (show b.toNat < 32 ∨ 126 < b.toNat ∨ (32 ≤ b.toNat ∧ b.toNat ≤ 126) by omega) with g1 | g1 | ⟨g1, g2⟩
      · go_wp2
        go_ret
        exact ⟨by rw [HN.out (by omega)]; rfl, rfl⟩
      · go_wp2
        go_ret
        exact ⟨by rw [HN.out (by omega)]; rfl, rfl⟩
      · go_wp2
        go_roundw
        case rel =>
          try ((repeat apply Exists.intro); refine ⟨?_, rfl⟩)
          exact ⟨⟨k + 1, by omega, by go_num, allPl_take k (by simpa using hlt) hpl.out (by rw [HA.out]; simp [plainB, g1, g2]), by first | rfl | trivial⟩⟩
        case measure => simp [intOf]; omega
    · go_wp2
      go_ret
      have h1 := hpl.out
      rw [List.take_of_length_le (by simp; omega)] at h1
      exact ⟨by unfold allPl; rw [h1]; rfl, rfl⟩

theorem cloneD_any (s : ByteArray) (w : World) (hs : s.size ≤ 281474976710656) :
    Calls Tryd.prog 16 #[.string s] w fun e w' => e = .returned (.string s) ∧ Below w.heap.size w w' := by
  go_enter Tryd.func16, Tryd.ntmps16
  go_wp2_with (go_at_call 21; refine (Tryd.stringslite_Clone s _ hs).mono ?_; rintro e w' ⟨rfl, hb⟩)
  go_ret
  exact ⟨rfl, hb⟩

theorem fieldsGo_le : ∀ (t cur l : List UInt8), l ∈ Lib.fieldsGo cur t → l.length ≤ cur.length + t.length
  | [], cur, l, h => by
    unfold Lib.fieldsGo at h
    split at h
    · simp at h
    · simp at h; subst h; simp
  | b :: t, cur, l, h => by
    unfold Lib.fieldsGo at h
    split at h
    · split at h
      · have := fieldsGo_le t [] l h; simp at this ⊢; omega
      · rcases List.mem_cons.1 h with rfl | h
        · simp
        · have := fieldsGo_le t [] l h; simp at this ⊢; omega
    · have := fieldsGo_le t (cur ++ [b]) l h; simp at this ⊢; omega

theorem cntF_le : ∀ (t : List UInt8) (ws : Bool), Lib.cntF ws t ≤ t.length
  | [], ws => by simp [Lib.cntF]
  | b :: t, ws => by
    have := cntF_le t (Lib.isSp b)
    unfold Lib.cntF
    split <;> simp <;> omega
theorem fields_count (t : List UInt8) : (Lib.fields t).length ≤ t.length := by rw [Lib.fields_length]; exact cntF_le t true

/-- The fields, as the library's contract lays them. -/
theorem fields_strs (t : List UInt8) : ((Lib.fields t).map fun l => Value.string ⟨l.toArray⟩) = strs ((Lib.fields t).map txt) := by
  simp [strs, txt]

set_option maxHeartbeats 2000000 in
set_option maxRecDepth 100000 in
theorem implParts_any (s : ByteArray) (w : World) (hs : s.size ≤ 1048576) (htab : Lib.TabIs Tryd.prog w "strings.asciiSpace" .u8 Lib.asciiSpaceTab) :
    Calls Tryd.prog 8 #[.string s] w fun e w' => ∃ v, e = .returned (.tuple #[v, .bool (prOk s)]) ∧ OwnV w' w.heap.size 9 v (strs (prL s)) ∧ Below w.heap.size w w' := by
  by_cases h6 : 600 < s.size
  · have hno : prOk s = false := by simp [prOk]; omega
    rw [hno, prL_no hno]
    clear htab
    go_enter Tryd.func8, Tryd.ntmps8
    go_wp2
    go_ret2
    exact ⟨_, rfl, OwnV.nil _ _ _, Below.refl _ _⟩
  · have hd6 : decide ((600 : Int) < (s.size : Int)) = false := by simp; omega
    by_cases hpl : allPl s.data.toList = true
    · have hplain : ∀ b ∈ s.data.toList, 32 ≤ b.toNat ∧ b.toNat ≤ 126 := by
        intro b hb
        unfold allPl at hpl
        rw [List.all_eq_true] at hpl
        have := hpl b hb
        simpa [plainB] using this
      have c1 := allPlain_any s w hs
      rw [hpl] at c1
      have c2 := Tryd.strings_Fields s w (by omega) (fun j b hb => by have := hplain b (List.mem_of_getElem? hb); omega) htab
      obtain ⟨L, hL⟩ : ∃ L, L = (Lib.fields s.data.toList).map txt := ⟨_, rfl⟩
      have hlen : (Lib.fields s.data.toList).length = L.length := by rw [hL]; simp
      have HS : Hid (∀ x ∈ L, x.size ≤ 600) := by
        intro x hx
        rw [hL] at hx
        obtain ⟨l, hl, rfl⟩ := List.mem_map.1 hx
        have h1 := fieldsGo_le s.data.toList [] l hl
        have h2 : (txt l).size = l.length := by simp [txt, ByteArray.size]
        have h3 : s.data.toList.length = s.size := by simp
        simp only [List.length_nil] at h1
        omega
      rw [fields_strs, ← hL, hlen] at c2
      have hLn : L.length ≤ 600 := by
        have h1 := fields_count s.data.toList
        have h3 : s.data.toList.length = s.size := by simp
        omega
      have HO : OwnV (w.alloc (.cells (strs L).toArray 9)) w.heap.size 9 (.slice (some ⟨w.heap.size, 0, none⟩) L.length L.length) (strs L) := by
        have := World.ownsRow_lit (base := w.heap.size) (e := 9) (size := 1) w (strs L).toArray L.length (Nat.le_refl _) (by unfold maxLen; omega) (by simp [strs])
        unfold OwnV
        rw [strs_length]
        simpa using this
      have hB0 : Below w.heap.size w (w.alloc (.cells (strs L).toArray 9)) := (Below.refl _ _).alloc (Nat.le_refl _) _
      obtain ⟨W0, hW0⟩ : ∃ W0, w.alloc (.cells (strs L).toArray 9) = W0 := ⟨_, rfl⟩
      rw [hW0] at c2 HO hB0
      clear hW0 htab
      by_cases h10 : 10 < L.length
      · have HN : Hid (prOk s = false) := by
          show _ = _
          have : ¬ (Lib.fields s.data.toList).length ≤ 10 := by omega
          simp [prOk, this]
        clear hL hlen hplain hpl
        go_enter Tryd.func8, Tryd.ntmps8
        go_wp2_with (first | (go_at_call 14; refine c1.mono ?_; rintro e w' ⟨rfl, rfl⟩) | (go_at_call 15; refine c2.mono ?_; rintro e w' ⟨rfl, rfl⟩))
        go_ret2
        exact ⟨_, ret_vb HN.out.symm, by rw [prL_no HN.out]; exact OwnV.nil _ _ _, hB0⟩
      · have HY : Hid (prOk s = true ∧ prL s = L) := by
          have := prL_yes (by omega) hplain (by omega)
          rw [← hL] at this
          exact this
        clear hL hlen hplain hpl
        go_enter Tryd.func8, Tryd.ntmps8
        go_wp2_with (first | (go_at_call 14; refine c1.mono ?_; rintro e w' ⟨rfl, rfl⟩) | (go_at_call 15; refine c2.mono ?_; rintro e w' ⟨rfl, rfl⟩))
        go_loopw [5, 6, 22] (fun _ _ i wr => Box (∃ (k : Nat), k ≤ L.length ∧ i = .int .i64 k ∧ OwnV wr w.heap.size 9 (.slice (some ⟨w.heap.size, 0, none⟩) L.length L.length) (strs L) ∧ Below w.heap.size w wr))
          (fun _ _ i _ => L.length - (intOf i).toNat)
        case atStart => exact ⟨⟨0, by omega, rfl, HO, hB0⟩⟩
        case round =>
          obtain ⟨k, hk, rfl, hown, hbel⟩ := hrel.out
          have hsz := hbel.size
          by_cases hlt : k < L.length
          · obtain ⟨x, hx⟩ : ∃ x, L[k] = x := ⟨_, rfl⟩
            obtain ⟨a', cap', hv, hc⟩ := hown.shape
            obtain ⟨g, hg, hcell, hfr, _, hgs⟩ := hc k (by rw [strs_length]; exact hlt)
            rw [hg] at hv
            have hgw : g = w.heap.size := by simp only [Value.slice.injEq, Option.some.injEq, Addr.mk.injEq] at hv; exact hv.1.1.symm
            subst hgw
            rw [strs_at hlt, hx] at hcell
            have c3 := cloneD_any x wr (by have := HS.out x (by rw [← hx]; exact List.getElem_mem _); omega)
            have HX : Hid (∀ w1, Below wr.heap.size wr w1 → OwnV (w1.setCell ⟨w.heap.size, k, none⟩ (.string x)) w.heap.size 9 (.slice (some ⟨w.heap.size, 0, none⟩) L.length L.length) (strs L) ∧ Below w.heap.size w (w1.setCell ⟨w.heap.size, k, none⟩ (.string x))) := by
              intro w1 hb
              have h1 := (hown.below hb (Nat.le_refl _)).stored (strs_length L).symm k (.string x)
              have h2 : (strs L).set k (.string x) = strs L := by
                have : (.string x : Value) = (strs L)[k]'(by rw [strs_length]; exact hlt) := by rw [strs_at hlt, hx]
                rw [this]
                simp
              rw [h2] at h1
              exact ⟨h1.1, (hbel.trans (hb.mono hsz)).setCell (Nat.le_refl _) _⟩
            clear hown hbel hc hv hg hx HO hB0
            have hi1 : (0 : Int) ≤ (k : Int) := by omega
            have hi2 : (k : Int) < (L.length : Int) := by omega
            go_wp2_with (go_at_call 16; refine c3.mono ?_; rintro e w1 ⟨rfl, hb1⟩; have hcell1 := (hb1.cell (p := ⟨w.heap.size, k, none⟩) hgs).trans hcell; have hfr1 := (hb1.frozen (p := ⟨w.heap.size, k, none⟩) hgs).trans hfr)
            go_roundw
            case rel =>
              try ((repeat apply Exists.intro); refine ⟨?_, rfl⟩)
              have h := HX.out w1 hb1
              exact ⟨⟨k + 1, by omega, by go_num, h.1, h.2⟩⟩
            case measure => simp [intOf]; omega
          · go_wp2
            go_ret2
            exact ⟨_, ret_vb HY.out.1.symm, by rw [HY.out.2]; exact hown, hbel⟩
    · have hp : allPl s.data.toList = false := by simpa using hpl
      have HN : Hid (prOk s = false) := by show _ = _; simp [prOk, hp]
      have c1 := allPlain_any s w hs
      rw [hp] at c1
      clear htab hpl hp
      go_enter Tryd.func8, Tryd.ntmps8
      go_wp2_with (go_at_call 14; refine c1.mono ?_; rintro e w' ⟨rfl, rfl⟩)
      go_ret2
      exact ⟨_, ret_vb HN.out.symm, by rw [prL_no HN.out]; exact OwnV.nil _ _ _, Below.refl _ _⟩
end Go.Proofs.YtednbcdomkhhmajDoor
