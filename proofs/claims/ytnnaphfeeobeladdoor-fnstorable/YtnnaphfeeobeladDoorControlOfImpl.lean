/- What is told, read by the program. -/
import Derived.Test.YtnnaphfeeobeladDoorPartImpl
import Derived.Test.YtnnaphfeeobeladDoorRunePlainJ
import Derived.Lib.OthersKept
import Derived.StillTailTactics
namespace Go.Proofs.YtnnaphfeeobeladDoor
open Go.RowKit Go.Sort
theorem iterPos_of {w : World} {I : Nat} {s : ByteArray} {p : Nat} (h : w.heap[I]? = some (.stringIter s p)) : w.iterPos I = p := by
  unfold World.iterPos
  rw [h]
theorem CtB.iterAt {w : World} {T : Nat} {c : Ct} (h : CtB w T c) {I : Nat} (hne : T ≠ I) (s : ByteArray) (p : Nat) : CtB (w.iterAt I s p) T c := (Lib.iterAt_other w I T s p hne).trans h
set_option maxRecDepth 100000 in
set_option maxHeartbeats 8000000 in
theorem implControlOf_any (s : ByteArray) (w : World) (hs : s.size ≤ 1048576) :
    Calls Tryd.prog 28 #[.string s] w fun e w' => e = .returned (.agg #[.bool (controlS s.data.toList).ns, .bool (controlS s.data.toList).nc, .int .i64 (controlS s.data.toList).ma, .int .i64 (controlS s.data.toList).sh]) ∧ Below w.heap.size w w' := by
  obtain ⟨wa, hwa⟩ : ∃ wa, w.alloc (.cells #[.bool false, .bool false, .int .i64 0, .int .i64 0] 47) = wa := ⟨_, rfl⟩
  obtain ⟨wb, hwb⟩ : ∃ wb, wa.alloc (.cells #[.bool false, .bool false, .int .i64 (-1), .int .i64 (-1)] 47) = wb := ⟨_, rfl⟩
  obtain ⟨wi, hwi⟩ : ∃ wi, wb.iter s 0 = wi := ⟨_, rfl⟩
  obtain ⟨R, hR⟩ : ∃ R, w.heap.size = R := ⟨_, rfl⟩
  obtain ⟨T, hT⟩ : ∃ T, wa.heap.size = T := ⟨_, rfl⟩
  obtain ⟨I, hI⟩ : ∃ I, wb.heap.size = I := ⟨_, rfl⟩
  have hRT : R < T := by rw [← hT, ← hR, ← hwa]; simp
  have hTI : T < I := by rw [← hI, ← hT, ← hwb]; simp
  have bi : Below wb.heap.size wb wi := by rw [← hwi]; exact iter_below _ _ _
  have bb : Below wa.heap.size wa wb := by rw [← hwb]; exact (Below.refl _ _).alloc (Nat.le_refl _) _
  have ba : Below w.heap.size w wa := by rw [← hwa]; exact (Below.refl _ _).alloc (Nat.le_refl _) _
  have hc0 : CtB wi T ct0 := by
    have h : CtB wb T ct0 := by rw [← hwb, ← hT]; exact heap_alloc_new wa _
    exact h.on bi
  have hr0 : CtB wi R ⟨false, false, 0, 0⟩ := by
    have h1 : CtB wa R ⟨false, false, 0, 0⟩ := by rw [← hwa, ← hR]; exact heap_alloc_new w _
    exact (h1.on bb).on bi
  have hi0 : wi.heap[I]? = some (.stringIter s 0) := by rw [← hwi, ← hI]; exact World.iter_heap wb s 0
  have hb : Below R w wi := by rw [← hR]; exact ba.trans ((bb.trans (bi.mono bb.size)).mono ba.size)
  obtain ⟨l, hl⟩ : ∃ l, s.data.toList = l := ⟨_, rfl⟩
  have hll : l.length = s.size := by rw [← hl]; exact (Lib.size_eq _).symm
  rw [hl]
  obtain ⟨c9, hc9⟩ : ∃ c9, controlS l = c9 := ⟨_, rfl⟩
  have HC9 : Hid (controlS l = c9) := hc9
  rw [hc9]
  have HLL : Hid (l.length = s.size) := hll
  have HL : Hid (s.data.toList = l) := hl
  have HB : Hid (CtB wi T ct0 ∧ CtB wi R ⟨false, false, 0, 0⟩ ∧ wi.heap[I]? = some (.stringIter s 0) ∧ Below R w wi) := ⟨hc0, hr0, hi0, hb⟩
  have HRT : Hid (R < T ∧ T < I) := ⟨hRT, hTI⟩
  have HRW : Hid (w.heap.size = R) := hR
  clear hb hc0 hr0 hi0 ba bb bi hRT hTI hl hll hc9
  go_enter Tryd.func28, Tryd.ntmps28
  go_wp2_with fail
  clear hwa hwb hwi hT hI hR
  go_loopw [4, 5, 6] (fun b _ _ wr => Box (∃ (k g : Nat) (c : Ct), k ≤ s.size ∧ g ≤ s.size ∧ b = .int .i64 g ∧ Hid (readC l k g c) ∧ Hid (CtB wr T c ∧ CtB wr R ⟨false, false, 0, 0⟩ ∧ wr.heap[I]? = some (.stringIter s k) ∧ Below R w wr)))
    (fun _ _ _ wr => s.size - wr.iterPos I)
  case atStart => exact ⟨⟨0, 0, ct0, by omega, by omega, rfl, readC_start l, HB.out⟩⟩
  case round =>
    obtain ⟨k, g, c, hk, hg, rfl, HR, HW⟩ := hrel.out
    clear hrel HB
    have HGK : Hid (g ≤ k) := by
      have := HLL.out
      rcases HR.out with h | h
      · exact h.2.1
      · show g ≤ k; omega
    have hpos := iterPos_of HW.out.2.2.1
    by_cases hlt : k < s.size
    · obtain ⟨b, hb'⟩ : ∃ b, s[k] = b := ⟨_, rfl⟩
      have HBT : Hid (∃ h : k < l.length, l[k] = b) := by
        have e := HL.out
        refine ⟨by rw [HLL.out]; exact hlt, ?_⟩
        subst e
        exact hb'
      have hbl : b.toNat < 256 := b.toNat_lt
      by_cases h44 : b.toNat = 44
      · have hnx : ∀ ty, (Instr.next (.pointer (some ⟨I, 0, none⟩)) true ty).run Tryd.prog wr = .ok (.tuple #[.bool true, .int .i64 k, .int .i32 44]) (wr.iterAt I s (k + 1)) := by
          intro ty
          have h := Lib.run_next_ascii_at (P := Tryd.prog) wr I s k ty HW.out.2.2.1 hlt (by rw [hb']; omega)
          rw [hb', h44] at h
          exact h
        have HN : Hid (readC l (k + 1) (k + 1) (partC c ((l.drop g).take (k - g)))) := by
          obtain ⟨h, e⟩ := HBT.out
          exact readC_part HR.out h (by rw [e]; exact UInt8.toNat_inj.1 h44)
        have hgk := HGK.out
        have hsl := fun w => run_slice_string (P := Tryd.prog) (w := w) 9 s .i64 .i64 (g : Int) (k : Int) Tryd.underlying9 (by omega) (by omega) (by omega)
        simp only [Int.toNat_natCast] at hsl
        have hez : (s.extract g k).size ≤ 1048576 := by rw [ByteArray.size_extract]; omega
        have HPC : Hid (∀ wi, Calls Tryd.prog 66 #[.agg #[.bool c.ns, .bool c.nc, .int .i64 c.ma, .int .i64 c.sh], .string (s.extract g k)] wi fun e w' => e = .returned (.agg #[.bool (partC c ((l.drop g).take (k - g))).ns, .bool (partC c ((l.drop g).take (k - g))).nc, .int .i64 (partC c ((l.drop g).take (k - g))).ma, .int .i64 (partC c ((l.drop g).take (k - g))).sh]) ∧ Below wi.heap.size wi w') := by
          intro wi
          have h := implPart_any wi c (s.extract g k) hez
          rw [Lib.extract_data, HL.out] at h
          exact h
        generalize s.extract g k = sg at hsl HPC
        generalize partC c ((l.drop g).take (k - g)) = d at HPC HN
        have HV : Hid (CtB (wr.iterAt I s (k + 1)) T c ∧ CtB (wr.iterAt I s (k + 1)) R ⟨false, false, 0, 0⟩ ∧ (wr.iterAt I s (k + 1)).heap[I]? = some (.stringIter s (k + 1)) ∧ Below R w (wr.iterAt I s (k + 1))) := by
          obtain ⟨a1, a2, a3, a4⟩ := HW.out
          have h := HRT.out
          exact ⟨a1.iterAt (by omega) _ _, a2.iterAt (by omega) _ _, Lib.iterAt_heap wr I s k (k + 1) a3, Lib.below_iterAt a4 (by omega) s (k + 1)⟩
        generalize wr.iterAt I s (k + 1) = wv at hnx HV
        obtain ⟨t0, t1, t2, t3⟩ := HV.out.1.cells
        clear hb' h44 hez hgk
        go_wp2_with fail
        go_still_tail 5, (by kernel_rfl)
        go_wp2_with fail
        refine (HPC.out _).mono ?_
        rintro e w1 ⟨rfl, hb1⟩
        have H1 : Hid (CtB w1 T c ∧ CtB w1 R ⟨false, false, 0, 0⟩ ∧ w1.heap[I]? = some (.stringIter s (k + 1)) ∧ Below R w w1) := by
          obtain ⟨a1, a2, a3, a4⟩ := HV.out
          have hb : Below wv.heap.size wv w1 := ⟨hb1.os, hb1.tape, hb1.output, hb1.size, hb1.block⟩
          have hlt : I < wv.heap.size := (Array.getElem?_eq_some_iff.1 a3).1
          have h := HRT.out
          exact ⟨a1.on hb, a2.on hb, (hb.block I hlt).trans a3, a4.trans (hb.mono (by omega))⟩
        clear hb1 HPC t0 t1 t2 t3 hsl hnx
        have z0 := H1.out.1.thaw 0
        have z1 := H1.out.1.thaw 1
        have z2 := H1.out.1.thaw 2
        have z3 := H1.out.1.thaw 3
        obtain ⟨t0, t1, t2, t3⟩ := H1.out.1.cells
        go_wp2_with fail
        have HX : Hid (CtB ((((w1.setCell ⟨T, 0, none⟩ (.bool d.ns)).setCell ⟨T, 1, none⟩ (.bool d.nc)).setCell ⟨T, 2, none⟩ (.int .i64 d.ma)).setCell ⟨T, 3, none⟩ (.int .i64 d.sh)) T d ∧ CtB ((((w1.setCell ⟨T, 0, none⟩ (.bool d.ns)).setCell ⟨T, 1, none⟩ (.bool d.nc)).setCell ⟨T, 2, none⟩ (.int .i64 d.ma)).setCell ⟨T, 3, none⟩ (.int .i64 d.sh)) R ⟨false, false, 0, 0⟩ ∧ ((((w1.setCell ⟨T, 0, none⟩ (.bool d.ns)).setCell ⟨T, 1, none⟩ (.bool d.nc)).setCell ⟨T, 2, none⟩ (.int .i64 d.ma)).setCell ⟨T, 3, none⟩ (.int .i64 d.sh)).heap[I]? = some (.stringIter s (k + 1)) ∧ Below R w ((((w1.setCell ⟨T, 0, none⟩ (.bool d.ns)).setCell ⟨T, 1, none⟩ (.bool d.nc)).setCell ⟨T, 2, none⟩ (.int .i64 d.ma)).setCell ⟨T, 3, none⟩ (.int .i64 d.sh))) := by
          obtain ⟨a1, a2, a3, a4⟩ := H1.out
          have h := HRT.out
          have n1 : ¬ R = T := by omega
          have n2 : ¬ T = I := by omega
          refine ⟨a1.put d, (((a2.other n1 0 _).other n1 1 _).other n1 2 _).other n1 3 _, ?_, put_below a4 (by omega) d⟩
          rw [Below.heap_setCell _ _ _ _ (fun e => n2 (by simpa using e.symm)), Below.heap_setCell _ _ _ _ (fun e => n2 (by simpa using e.symm)), Below.heap_setCell _ _ _ _ (fun e => n2 (by simpa using e.symm)), Below.heap_setCell _ _ _ _ (fun e => n2 (by simpa using e.symm))]
          exact a3
        generalize (((w1.setCell ⟨T, 0, none⟩ (.bool d.ns)).setCell ⟨T, 1, none⟩ (.bool d.nc)).setCell ⟨T, 2, none⟩ (.int .i64 d.ma)).setCell ⟨T, 3, none⟩ (.int .i64 d.sh) = w9 at HX ⊢
        have hp9 := iterPos_of HX.out.2.2.1
        go_roundw
        case rel =>
          try ((repeat apply Exists.intro); refine ⟨?_, rfl⟩)
          exact ⟨⟨k + 1, k + 1, d, by omega, by omega, by go_num, HN, HX⟩⟩
        case measure => rw [hpos, hp9]; omega
      · obtain ⟨r, hr⟩ : ∃ r, (Utf8.decode s k).1 = r := ⟨_, rfl⟩
        obtain ⟨v, hv⟩ : ∃ v, (Utf8.decode s k).2 = v := ⟨_, rfl⟩
        obtain ⟨v1, v2, v3⟩ := dec_wide s k hlt
        rw [hv] at v1 v2 v3
        have hr44 : ((r : Int) == 44) = false := by
          rw [← hr, beq_eq_false_iff_ne]
          by_cases ha : b.toNat < 128
          · rw [decode_ascii s k hlt (by rw [hb']; exact ha)]
            show ((s[k].toNat : Nat) : Int) ≠ 44
            rw [hb']; omega
          · have := (decode_high s k hlt (by rw [hb']; omega)).1
            omega
        have hr2 : r ≤ 2147483647 := by rw [← hr]; exact decode_le s k
        have hnx : ∀ ty, (Instr.next (.pointer (some ⟨I, 0, none⟩)) true ty).run Tryd.prog wr = .ok (.tuple #[.bool true, .int .i64 k, .int .i32 (r : Int)]) (wr.iterAt I s (k + v)) := by
          intro ty
          have h := Lib.run_next_any_at (P := Tryd.prog) wr I s k ty HW.out.2.2.1 hlt
          rw [hr, hv] at h
          exact h
        have HN : Hid (readC l (k + v) g c) := by
          have hlen := HLL.out
          have e := HL.out
          refine readC_jump v k HR.out (by omega) (fun j hj h1 h2 => ?_)
          have hjs : j < s.size := by omega
          have ej : l[j] = s[j] := by subst e; rfl
          rw [ej]
          by_cases hjk : j = k
          · subst hjk
            rw [hb']
            intro e2; rw [e2] at h44; exact h44 rfl
          · have h3 := v3 j hjs (by omega) h2
            intro e2; rw [e2] at h3; exact absurd h3 (by decide)
        have HX : Hid (CtB (wr.iterAt I s (k + v)) T c ∧ CtB (wr.iterAt I s (k + v)) R ⟨false, false, 0, 0⟩ ∧ (wr.iterAt I s (k + v)).heap[I]? = some (.stringIter s (k + v)) ∧ Below R w (wr.iterAt I s (k + v))) := by
          obtain ⟨a1, a2, a3, a4⟩ := HW.out
          have h := HRT.out
          exact ⟨a1.iterAt (by omega) _ _, a2.iterAt (by omega) _ _, Lib.iterAt_heap wr I s k (k + v) a3, Lib.below_iterAt a4 (by omega) s (k + v)⟩
        generalize wr.iterAt I s (k + v) = w9 at hnx HX
        have hp9 := iterPos_of HX.out.2.2.1
        clear hb' h44 hr hv v3
        go_wp2_with fail
        go_roundw
        case rel =>
          try ((repeat apply Exists.intro); refine ⟨?_, rfl⟩)
          exact ⟨⟨k + v, g, c, by omega, by omega, rfl, HN, HX⟩⟩
        case measure => rw [hpos, hp9]; omega
    · have hnx : ∀ ty, (Instr.next (.pointer (some ⟨I, 0, none⟩)) true ty).run Tryd.prog wr = .ok (.tuple #[.bool false]) wr := fun ty => Lib.run_next_end_at (P := Tryd.prog) wr I s k ty HW.out.2.2.1 hlt
      have hsl : ∀ w : World, (Instr.slice 9 (.string s) (some (.int .i64 (g : Int))) none none).run Tryd.prog w = .ok (.string (s.extract g s.size)) w := by
        intro w
        have h := run_slice_string_l (P := Tryd.prog) w 9 s Tryd.underlying9 .i64 (g : Int) (by omega) (by omega)
        rw [Int.toNat_natCast] at h
        exact h
      have hez : (s.extract g s.size).size ≤ 1048576 := by rw [ByteArray.size_extract]; omega
      have HPC : Hid (∀ wi, Calls Tryd.prog 66 #[.agg #[.bool c.ns, .bool c.nc, .int .i64 c.ma, .int .i64 c.sh], .string (s.extract g s.size)] wi fun e w' => e = .returned (.agg #[.bool c9.ns, .bool c9.nc, .int .i64 c9.ma, .int .i64 c9.sh]) ∧ Below wi.heap.size wi w') := by
        intro wi
        have h := implPart_any wi c (s.extract g s.size) hez
        have hk9 : k = l.length := by have := HLL.out; omega
        have h9 := HR.out
        rw [hk9] at h9
        have h10 := readC_end (readC_last h9)
        rw [HC9.out, HLL.out] at h10
        rw [Lib.extract_data, HL.out, ← h10] at h
        exact h
      generalize s.extract g s.size = sg at hsl HPC
      obtain ⟨t0, t1, t2, t3⟩ := HW.out.1.cells
      clear hez
      go_wp2_with fail
      go_still_tail 4, (by kernel_rfl)
      go_wp2_with fail
      refine (HPC.out _).mono ?_
      rintro e w1 ⟨rfl, hb1⟩
      have H1 : Hid (CtB w1 R ⟨false, false, 0, 0⟩ ∧ Below R w w1) := by
        obtain ⟨a1, a2, a3, a4⟩ := HW.out
        have hb : Below wr.heap.size wr w1 := ⟨hb1.os, hb1.tape, hb1.output, hb1.size, hb1.block⟩
        have hlt := a2.lt
        exact ⟨a2.on hb, a4.trans (hb.mono (by omega))⟩
      clear hb1 HPC t0 t1 t2 t3 hsl hnx hpos
      have z0 := H1.out.1.thaw 0
      have z1 := H1.out.1.thaw 1
      have z2 := H1.out.1.thaw 2
      have z3 := H1.out.1.thaw 3
      obtain ⟨r0, r1, r2, r3⟩ := H1.out.1.cells
      go_wp2_with fail
      have HX : Hid (CtB ((((w1.setCell ⟨R, 0, none⟩ (.bool c9.ns)).setCell ⟨R, 1, none⟩ (.bool c9.nc)).setCell ⟨R, 2, none⟩ (.int .i64 c9.ma)).setCell ⟨R, 3, none⟩ (.int .i64 c9.sh)) R c9 ∧ Below R w ((((w1.setCell ⟨R, 0, none⟩ (.bool c9.ns)).setCell ⟨R, 1, none⟩ (.bool c9.nc)).setCell ⟨R, 2, none⟩ (.int .i64 c9.ma)).setCell ⟨R, 3, none⟩ (.int .i64 c9.sh))) :=
        ⟨H1.out.1.put c9, put_below H1.out.2 (Nat.le_refl _) c9⟩
      generalize (((w1.setCell ⟨R, 0, none⟩ (.bool c9.ns)).setCell ⟨R, 1, none⟩ (.bool c9.nc)).setCell ⟨R, 2, none⟩ (.int .i64 c9.ma)).setCell ⟨R, 3, none⟩ (.int .i64 c9.sh) = w9 at HX ⊢
      obtain ⟨q0, q1, q2, q3⟩ := HX.out.1.cells
      refine bodyPost_ret (v := .agg #[.bool c9.ns, .bool c9.nc, .int .i64 c9.ma, .int .i64 c9.sh]) (by simp [results, Tryd.results28, go_sem, q0, q1, q2, q3]) rfl ⟨rfl, ?_⟩
      rw [HRW.out]; exact HX.out.2
end Go.Proofs.YtnnaphfeeobeladDoor
