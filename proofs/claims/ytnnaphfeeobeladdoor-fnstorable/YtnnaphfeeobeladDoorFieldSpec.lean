/- The other text's FieldOk. -/
import Derived.Test.YtnnaphfeeobeladDoorHeadSpec
namespace Go.Proofs.YtnnaphfeeobeladDoor
open Go.RowKit Go.Sort
/-- A field in a variable. -/
def DBx (w : World) (T : Nat) (f : ByteArray × ByteArray) : Prop := w.heap[T]? = some (.cells #[.string f.1, .string f.2] 34 (0, 0))
theorem DBx.new (w : World) (f : ByteArray × ByteArray) : DBx (w.alloc (.cells #[.string f.1, .string f.2] 34)) w.heap.size f := heap_alloc_new w _
theorem DBx.cells {w : World} {T : Nat} {f : ByteArray × ByteArray} (h : DBx w T f) : w.cell? ⟨T, 0, none⟩ = some (.string f.1) ∧ w.cell? ⟨T, 1, none⟩ = some (.string f.2) := by
  unfold DBx at h
  exact ⟨by simp [World.cell?, h], by simp [World.cell?, h]⟩
theorem trimS_at {s : ByteArray} (h : 0 < s.size) : trimS s = (!decide (s[0].toNat = 32) && !decide ((s[s.size - 1]'(by omega)).toNat = 32)) := by
  unfold trimS
  have h0 : s.data.toList.getD 0 0 = s[0] := by simp [List.getD_eq_getElem?_getD, Array.getElem?_eq_getElem (show 0 < s.data.size from h)]; rfl
  have h1 : s.data.toList.getD (s.size - 1) 0 = s[s.size - 1]'(by omega) := by simp [List.getD_eq_getElem?_getD, Array.getElem?_eq_getElem (show s.size - 1 < s.data.size from by show s.size - 1 < s.size; omega)]; rfl
  rw [h0, h1, decide_eq_false (show ¬ s.size = 0 by omega)]
  rfl
set_option maxRecDepth 100000 in
set_option maxHeartbeats 4000000 in
theorem specFieldOk_any (f : ByteArray × ByteArray) (w : World) (hs1 : f.1.size ≤ 1048576) (hs2 : f.2.size ≤ 1048576) :
    Calls Tryd.prog 22 #[.agg #[.string f.1, .string f.2]] w fun e w' => e = .returned (.bool (fieldOkS f)) ∧ Below w.heap.size w w' := by
  obtain ⟨n, v⟩ := f
  dsimp only at *
  obtain ⟨w1, hw1⟩ : ∃ x, w.alloc (.cells #[.string n, .string v] 34) = x := ⟨_, rfl⟩
  have hb1 : Below w.heap.size w w1 := by rw [← hw1]; exact (Below.refl _ _).alloc (Nat.le_refl _) _
  have hB : DBx w1 w.heap.size (n, v) := by rw [← hw1]; exact DBx.new w (n, v)
  obtain ⟨b0, b1⟩ := hB.cells
  dsimp only at b0 b1
  have c1 := specName_any n w1 hs1
  have c2 := specPlain_any v 60 w1 hs2
  have HW : Hid (w.alloc (.cells #[.string n, .string v] 34) = w1) := hw1
  obtain ⟨R, hR⟩ : ∃ R, fieldOkS (n, v) = R := ⟨_, rfl⟩
  rw [hR]
  have HR : Hid ((nameOkS n && plainS v 60 && trimS v) = R) := hR
  rw [← hw1] at b0 b1
  clear hR hw1 hB
  cases hn : nameOkS n with
  | false =>
    rw [hn] at c1 HR
    have HP : Hid (R = false) := by show _ = _; rw [← HR.out]; rfl
    clear hn
    go_enter Tryd.func22, Tryd.ntmps22
    go_wp2_with fail
    rw [HW.out] at b0 b1 ⊢
    refine c1.mono ?_
    rintro e w' ⟨rfl, hw'⟩
    rw [hw']
    go_wp2_with fail
    go_ret
    exact ⟨by rw [HP.out]; rfl, hb1⟩
  | true =>
    rw [hn] at c1 HR
    cases hp : plainS v 60 with
    | false =>
      rw [hp] at c2 HR
      have HP : Hid (R = false) := by show _ = _; rw [← HR.out]; rfl
      clear hn hp
      go_enter Tryd.func22, Tryd.ntmps22
      go_wp2_with fail
      rw [HW.out] at b0 b1 ⊢
      refine c1.mono ?_
      rintro e w' ⟨rfl, hw'⟩
      rw [hw']
      go_wp2_with fail
      refine c2.mono ?_
      rintro e w'' ⟨rfl, hw''⟩
      rw [hw'']
      go_wp2_with fail
      go_ret
      exact ⟨by rw [HP.out]; rfl, hb1⟩
    | true =>
      rw [hp] at c2 HR
      have HP0 : Hid (R = trimS v) := by show _ = _; rw [← HR.out]; simp
      clear hn hp
      by_cases hv : v.size = 0
      · have HP : Hid (R = true) := by show _ = _; rw [HP0.out]; unfold trimS; rw [decide_eq_true hv]; rfl
        have e0 : ((v.size : Int) == 0) = true := by simp [hv]
        have e0' : decide ((v.size : Int) = 0) = true := decide_eq_true (by omega)
        clear hv
        go_enter Tryd.func22, Tryd.ntmps22
        go_wp2_with fail
        rw [HW.out] at b0 b1 ⊢
        refine c1.mono ?_
        rintro e w' ⟨rfl, hw'⟩
        rw [hw']
        go_wp2_with fail
        refine c2.mono ?_
        rintro e w'' ⟨rfl, hw''⟩
        rw [hw'']
        go_wp2_with fail
        go_ret
        exact ⟨by rw [HP.out]; rfl, hb1⟩
      · have e0 : ((v.size : Int) == 0) = false := by rw [beq_eq_false_iff_ne]; omega
        have e0' : decide ((v.size : Int) = 0) = false := decide_eq_false (by omega)
        have hv0 : 0 < v.size := by omega
        obtain ⟨x, hx⟩ : ∃ x, v[0] = x := ⟨_, rfl⟩
        obtain ⟨y, hy⟩ : ∃ y, v[v.size - 1]'(by omega) = y := ⟨_, rfl⟩
        have HT : Hid (R = (!decide (x.toNat = 32) && !decide (y.toNat = 32))) := by show _ = _; rw [HP0.out, trimS_at hv0, hx, hy]
        have hz0 : (0 : Int) < (v.size : Int) := by omega
        obtain ⟨m, hm⟩ : ∃ m : Nat, v.size = m + 1 := ⟨v.size - 1, by omega⟩
        have hml : m < v.size := by omega
        have hsub : IntKind.i64.wrap ((v.size : Int) - 1) = (m : Int) := by rw [IntKind.wrap_i64]; omega
        have hsub' : (v.size : Int) - 1 = (m : Int) := by omega
        have hmi : (m : Int) < (v.size : Int) := by omega
        have hmi0 : (0 : Int) ≤ (m : Int) := by omega
        have hyy : v[m] = y := by rw [← hy]; congr 1; omega
        have hxl : x.toNat < 256 := x.toNat_lt
        have hyl : y.toNat < 256 := y.toNat_lt
        clear hy hm hv
        by_cases ex : x.toNat = 32
        · skip
          have hx1 : ((x.toNat : Int) != 32) = false := by simp [ex]
          have hx2 : decide ((x.toNat : Int) = 32) = true := decide_eq_true (by omega)
          have HP : Hid (R = false) := by show _ = _; rw [HT.out, decide_eq_true ex]; rfl
          go_enter Tryd.func22, Tryd.ntmps22
          go_wp2_with fail
          rw [HW.out] at b0 b1 ⊢
          refine c1.mono ?_
          rintro e w' ⟨rfl, hw'⟩
          rw [hw']
          go_wp2_with fail
          refine c2.mono ?_
          rintro e w'' ⟨rfl, hw''⟩
          rw [hw'']
          go_wp2_with fail
          go_ret
          exact ⟨by rw [HP.out]; rfl, hb1⟩
        · by_cases ey : y.toNat = 32
          · skip
            have hx1 : ((x.toNat : Int) != 32) = true := by rw [bne_iff_ne]; omega
            have hx2 : decide ((x.toNat : Int) = 32) = false := decide_eq_false (by omega)
            have hy1 : ((y.toNat : Int) != 32) = false := by simp [ey]
            have hy2 : decide ((y.toNat : Int) = 32) = true := decide_eq_true (by omega)
            have HP : Hid (R = false) := by show _ = _; rw [HT.out, decide_eq_false ex, decide_eq_true ey]; rfl
            go_enter Tryd.func22, Tryd.ntmps22
            go_wp2_with fail
            rw [HW.out] at b0 b1 ⊢
            refine c1.mono ?_
            rintro e w' ⟨rfl, hw'⟩
            rw [hw']
            go_wp2_with fail
            refine c2.mono ?_
            rintro e w'' ⟨rfl, hw''⟩
            rw [hw'']
            go_wp2_with fail
            go_ret
            exact ⟨by rw [HP.out]; rfl, hb1⟩
          · skip
            have hx1 : ((x.toNat : Int) != 32) = true := by rw [bne_iff_ne]; omega
            have hx2 : decide ((x.toNat : Int) = 32) = false := decide_eq_false (by omega)
            have hy1 : ((y.toNat : Int) != 32) = true := by rw [bne_iff_ne]; omega
            have hy2 : decide ((y.toNat : Int) = 32) = false := decide_eq_false (by omega)
            have HP : Hid (R = true) := by show _ = _; rw [HT.out, decide_eq_false ex, decide_eq_false ey]; rfl
            go_enter Tryd.func22, Tryd.ntmps22
            go_wp2_with fail
            rw [HW.out] at b0 b1 ⊢
            refine c1.mono ?_
            rintro e w' ⟨rfl, hw'⟩
            rw [hw']
            go_wp2_with fail
            refine c2.mono ?_
            rintro e w'' ⟨rfl, hw''⟩
            rw [hw'']
            go_wp2_with fail
            go_ret
            exact ⟨by rw [HP.out]; rfl, hb1⟩
end Go.Proofs.YtnnaphfeeobeladDoor
