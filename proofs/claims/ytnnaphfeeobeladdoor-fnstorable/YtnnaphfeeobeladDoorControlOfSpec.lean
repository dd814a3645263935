/- What is told, read by the other text. -/
import Derived.Test.YtnnaphfeeobeladDoorPartSpec
import Derived.Test.YtnnaphfeeobeladDoorRunePlainJ
namespace Go.Proofs.YtnnaphfeeobeladDoor
open Go.RowKit Go.Sort
set_option maxRecDepth 100000 in
set_option maxHeartbeats 8000000 in
theorem specControlOf_any (s : ByteArray) (w : World) (hs : s.size ≤ 1048576) :
    Calls Tryd.prog 32 #[.string s] w fun e w' => e = .returned (.agg #[.bool (controlS s.data.toList).ns, .bool (controlS s.data.toList).nc, .int .i64 (controlS s.data.toList).ma, .int .i64 (controlS s.data.toList).sh]) ∧ Below w.heap.size w w' := by
  obtain ⟨wa, hwa⟩ : ∃ wa, w.alloc (.cells #[.bool false, .bool false, .int .i64 0, .int .i64 0] 47) = wa := ⟨_, rfl⟩
  obtain ⟨wb, hwb⟩ : ∃ wb, wa.alloc (.cells #[.bool false, .bool false, .int .i64 (-1), .int .i64 (-1)] 47) = wb := ⟨_, rfl⟩
  obtain ⟨T, hT⟩ : ∃ T, wa.heap.size = T := ⟨_, rfl⟩
  obtain ⟨R, hR⟩ : ∃ R, w.heap.size = R := ⟨_, rfl⟩
  have hsa : wa.heap.size = w.heap.size + 1 := by rw [← hwa]; simp
  have hRT : R < T := by omega
  have hb : Below R w wb := by rw [← hwb, ← hwa, ← hR]; exact ((Below.refl w.heap.size w).alloc (Nat.le_refl _) _).alloc (by simp) _
  have hc0 : CtB wb T ct0 := by rw [← hwb, ← hT]; exact heap_alloc_new wa _
  have hr0 : CtB wb R ⟨false, false, 0, 0⟩ := by
    have h1 : CtB wa R ⟨false, false, 0, 0⟩ := by rw [← hwa, ← hR]; exact heap_alloc_new w _
    refine h1.on ?_
    rw [← hwb]; exact (Below.refl wa.heap.size wa).alloc (Nat.le_refl _) _
  obtain ⟨l, hl⟩ : ∃ l, s.data.toList = l := ⟨_, rfl⟩
  have hll : l.length = s.size := by rw [← hl]; exact (Lib.size_eq _).symm
  rw [hl]
  obtain ⟨c9, hc9⟩ : ∃ c9, controlS l = c9 := ⟨_, rfl⟩
  have HC9 : Hid (controlS l = c9) := hc9
  rw [hc9]
  have HLL : Hid (l.length = s.size) := hll
  have HL : Hid (s.data.toList = l) := hl
  have HB : Hid (Below R w wb ∧ CtB wb T ct0 ∧ CtB wb R ⟨false, false, 0, 0⟩) := ⟨hb, hc0, hr0⟩
  have HRT : Hid (R < T) := hRT
  have HRW : Hid (w.heap.size = R) := hR
  clear hb hc0 hr0 hsa hRT hl hll hc9
  go_enter Tryd.func32, Tryd.ntmps32
  go_wp2_with fail
  clear hwa hwb hT hR
  go_loopw [4, 5] (fun b i wr => Box (∃ (k g : Nat) (c : Ct), k ≤ s.size + 1 ∧ g ≤ s.size + 1 ∧ b = .int .i64 g ∧ i = .int .i64 k ∧ Hid (readC l k g c) ∧ Hid (CtB wr T c ∧ CtB wr R ⟨false, false, 0, 0⟩ ∧ Below R w wr)))
    (fun _ i _ => s.size + 1 - (intOf i).toNat)
  case atStart => exact ⟨⟨0, 0, ct0, by omega, by omega, rfl, rfl, readC_start l, HB.out.2.1, HB.out.2.2, HB.out.1⟩⟩
  case round =>
    obtain ⟨k, g, c, hk, hg, rfl, rfl, HR, HW⟩ := hrel.out
    clear hrel HB
    by_cases hle : k ≤ s.size
    · have hgk : g ≤ k := by
        have := HLL.out
        rcases HR.out with h | h
        · exact h.2.1
        · omega
      have hsl := fun w => run_slice_string (P := Tryd.prog) (w := w) 9 s .i64 .i64 (g : Int) (k : Int) Tryd.underlying9 (by omega) (by omega) (by omega)
      simp only [Int.toNat_natCast] at hsl
      have hez : (s.extract g k).size ≤ 1048576 := by rw [ByteArray.size_extract]; omega
      have cP := specPart_any wr T c (s.extract g k) HW.out.1 hez
      rw [Lib.extract_data, HL.out] at cP
      generalize s.extract g k = sg at hsl cP
      clear hez hgk
      have hlei : (k : Int) ≤ (s.size : Int) := by omega
      have HAF : Hid (∀ w1 c1, CtB w1 T c1 → wr.grownBy w1 (some T) → CtB w1 T c1 ∧ CtB w1 R ⟨false, false, 0, 0⟩ ∧ Below R w w1) := by
        intro w1 c1 h1 h2
        have hRT := HRT.out
        obtain ⟨a1, a2, a3, a4, a5⟩ := h2
        have hb := HW.out.2.2
        have hlt := HW.out.2.1.lt
        exact ⟨h1, (a5 R hlt (by simp; omega)).trans HW.out.2.1, a1.trans hb.os, a2.trans hb.tape, a3.trans hb.output, Nat.le_trans hb.size a4, fun j hj => (a5 j (by omega) (by simp; omega)).trans (hb.block j hj)⟩
      by_cases hke : k = s.size
      · have hkei : ((k : Int) == (s.size : Int)) = true := by simp [hke]
        have HN : Hid (readC l (k + 1) (k + 1) (partC c ((l.drop g).take (k - g)))) := by
          have h := HR.out
          have e : k = l.length := by rw [HLL.out]; exact hke
          rw [e] at h ⊢
          exact readC_last h
        have HKE : Hid (k = s.size) := hke
        clear hke
        go_wp2_with fail
        refine cP.mono ?_
        rintro e w1 ⟨rfl, hc1, hg1⟩
        have HX : Hid (CtB w1 T (partC c ((l.drop g).take (k - g))) ∧ CtB w1 R ⟨false, false, 0, 0⟩ ∧ Below R w w1) := HAF.out _ _ hc1 hg1
        clear cP hc1 hg1 HAF
        go_wp2_with fail
        go_roundw
        case rel =>
          try ((repeat apply Exists.intro); refine ⟨?_, rfl⟩)
          exact ⟨⟨k + 1, k + 1, partC c ((l.drop g).take (k - g)), by omega, by omega, by go_num, by go_num, HN, HX⟩⟩
        case measure => simp [intOf]; omega
      · have hkei : ((k : Int) == (s.size : Int)) = false := by simp; omega
        have hlt : k < s.size := by omega
        have hlti : (k : Int) < (s.size : Int) := by omega
        have hk0 : (0 : Int) ≤ (k : Int) := by omega
        obtain ⟨b, hb'⟩ : ∃ b, s[k] = b := ⟨_, rfl⟩
        have HBT : Hid (∃ h : k < l.length, l[k] = b) := by
          have e := HL.out
          refine ⟨by rw [HLL.out]; exact hlt, ?_⟩
          subst e
          exact hb'
        have hbl : b.toNat < 256 := b.toNat_lt
        have HKE : Hid (¬ k = s.size) := hke
        clear hke
        by_cases h44 : b.toNat = 44
        · have h44i : ((b.toNat : Int) == 44) = true := by simp [h44]
          have HN : Hid (readC l (k + 1) (k + 1) (partC c ((l.drop g).take (k - g)))) := by
            obtain ⟨h, e⟩ := HBT.out
            exact readC_part HR.out h (by rw [e]; exact UInt8.toNat_inj.1 h44)
          clear h44
          go_wp2_with fail
          refine cP.mono ?_
          rintro e w1 ⟨rfl, hc1, hg1⟩
          have HX : Hid (CtB w1 T (partC c ((l.drop g).take (k - g))) ∧ CtB w1 R ⟨false, false, 0, 0⟩ ∧ Below R w w1) := HAF.out _ _ hc1 hg1
          clear cP hc1 hg1 HAF
          go_wp2_with fail
          go_roundw
          case rel =>
            try ((repeat apply Exists.intro); refine ⟨?_, rfl⟩)
            exact ⟨⟨k + 1, k + 1, partC c ((l.drop g).take (k - g)), by omega, by omega, by go_num, by go_num, HN, HX⟩⟩
          case measure => simp [intOf]; omega
        · have h44i : ((b.toNat : Int) == 44) = false := by simp; omega
          have HN : Hid (readC l (k + 1) g c) := by
            obtain ⟨h, e⟩ := HBT.out
            exact readC_next HR.out h (by rw [e]; intro e2; rw [e2] at h44; exact h44 rfl)
          have HX := HW
          clear h44 cP HAF hsl
          go_wp2_with fail
          go_roundw
          case rel =>
            try ((repeat apply Exists.intro); refine ⟨?_, rfl⟩)
            exact ⟨⟨k + 1, g, c, by omega, by omega, by go_num, by go_num, HN, HX⟩⟩
          case measure => simp [intOf]; omega
    · have hlei : ¬ (k : Int) ≤ (s.size : Int) := by omega
      have HE : Hid (c9 = c) := by
        have h := HR.out
        rw [show k = l.length + 1 by have := HLL.out; omega] at h
        show _ = _
        rw [← HC9.out]
        exact readC_end h
      obtain ⟨t0, t1, t2, t3⟩ := HW.out.1.cells
      obtain ⟨r0, r1, r2, r3⟩ := HW.out.2.1.cells
      have z0 := HW.out.2.1.thaw 0
      have z1 := HW.out.2.1.thaw 1
      have z2 := HW.out.2.1.thaw 2
      have z3 := HW.out.2.1.thaw 3
      go_wp2_with fail
      have HX : Hid (CtB ((((wr.setCell ⟨R, 0, none⟩ (.bool c.ns)).setCell ⟨R, 1, none⟩ (.bool c.nc)).setCell ⟨R, 2, none⟩ (.int .i64 c.ma)).setCell ⟨R, 3, none⟩ (.int .i64 c.sh)) R c ∧ Below R w ((((wr.setCell ⟨R, 0, none⟩ (.bool c.ns)).setCell ⟨R, 1, none⟩ (.bool c.nc)).setCell ⟨R, 2, none⟩ (.int .i64 c.ma)).setCell ⟨R, 3, none⟩ (.int .i64 c.sh))) :=
        ⟨(((HW.out.2.1.set0 c.ns).set1 c.nc).set2 c.ma).set3 c.sh, (((HW.out.2.2.setCell (by simp) _).setCell (by simp) _).setCell (by simp) _).setCell (by simp) _⟩
      generalize (((wr.setCell ⟨R, 0, none⟩ (.bool c.ns)).setCell ⟨R, 1, none⟩ (.bool c.nc)).setCell ⟨R, 2, none⟩ (.int .i64 c.ma)).setCell ⟨R, 3, none⟩ (.int .i64 c.sh) = w9 at HX ⊢
      obtain ⟨q0, q1, q2, q3⟩ := HX.out.1.cells
      refine bodyPost_ret (v := .agg #[.bool c.ns, .bool c.nc, .int .i64 c.ma, .int .i64 c.sh]) (by simp [results, Tryd.results32, go_sem, q0, q1, q2, q3]) rfl ⟨?_, ?_⟩
      · rw [HE.out]
      · rw [HRW.out]; exact HX.out.2
end Go.Proofs.YtnnaphfeeobeladDoor
