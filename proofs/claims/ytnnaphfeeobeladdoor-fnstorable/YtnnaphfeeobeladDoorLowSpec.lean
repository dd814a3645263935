/- The other text takes great letters as small ones; it takes the blanks about a text away. -/
import Derived.Test.YtnnaphfeeobeladDoorLowImpl
import Derived.Test.YtnnaphfeeobeladDoorTrimBoth
import Derived.Test.YtnnaphfeeobeladDoorLinePlain
namespace Go.Proofs.YtnnaphfeeobeladDoor
open Go.RowKit
/-- How long the text in a slot is. -/
def strOf : Value → Nat | .string s => s.size | _ => 0
set_option maxRecDepth 100000 in
set_option maxHeartbeats 4000000 in
theorem specLow_any (s : ByteArray) (w : World) (hs : s.size ≤ 1048576) :
    Calls Tryd.prog 83 #[.string s] w fun e w' => e = .returned (.string ⟨(lowL s.data.toList).toArray⟩) ∧ Below w.heap.size w w' := by
  obtain ⟨W, capb, cs, hcv, hbW, hblk, hcs, hcell⟩ := bytesOf s w
  have hlen : s.data.toList.length = s.size := by simp
  obtain ⟨l, hl⟩ : ∃ l, s.data.toList = l := ⟨_, rfl⟩
  have hB0 : Byt W w.heap.size (lowTo l 0) := by
    rw [lowTo_zero]
    refine ⟨cs, hblk, by rw [← hl, hlen]; exact hcs, fun j hj => ?_⟩
    have hj' : j < s.size := by rw [← hlen, hl]; exact hj
    rw [hcell j hj', hl, List.getD_eq_getElem?_getD, List.getElem?_eq_getElem hj]
    rfl
  rw [hl] at hlen ⊢
  rw [← hlen] at hcv hs
  have hwt : w.heap.size < W.heap.size := (Array.getElem?_eq_some_iff.1 hblk).1
  obtain ⟨B, hB⟩ : ∃ B, w.heap.size = B := ⟨_, rfl⟩
  rw [hB] at hB0 hcv
  have HB0 : Hid (Byt W B (lowTo l 0)) := hB0
  have HBB : Hid (w.heap.size = B) := hB
  have HBW : Hid (Below w.heap.size w W) := hbW
  clear hblk hcs hcell hlen hl hB0 hB hbW hwt
  go_enter Tryd.func83, Tryd.ntmps83
  go_wp2
  go_loopw [4] (fun i wr => Box (∃ k : Nat, k ≤ l.length ∧ i = .int .i64 k ∧ Hid (Byt wr B (lowTo l k)) ∧ Hid (Below w.heap.size w wr)))
    (fun i _ => l.length - (intOf i).toNat)
  case atStart => exact ⟨⟨0, by omega, rfl, HB0, HBW⟩⟩
  case round =>
    obtain ⟨k, hk, rfl, HB, HW⟩ := hrel.out
    clear hrel hcv
    by_cases hlt : k < l.length
    · obtain ⟨q, hz⟩ := HB.out.cell k (by rw [lowTo_len]; exact hlt)
      rw [lowTo_at l k hlt] at q
      have HS : Hid (lowTo l (k + 1) = (lowTo l k).set k (lowB l[k])) := lowTo_succ l k hlt
      obtain ⟨b, hb⟩ : ∃ b, l[k] = b := ⟨_, rfl⟩
      rw [hb] at q HS
      have hbl : b.toNat < 256 := b.toNat_lt
      have hi1 : (0 : Int) ≤ (k : Int) := by omega
      have hi2 : (k : Int) < (l.length : Int) := by omega
      clear hb
      by_cases hg : 65 ≤ b.toNat ∧ b.toNat ≤ 90
      · obtain ⟨g1, g2⟩ := hg
        have hlo := lowB_great ⟨g1, g2⟩
        have HN : Hid (Byt (wr.setCell ⟨B, k, none⟩ (.int .u8 ((lowB b).toNat : Int))) B (lowTo l (k + 1)) ∧ Below w.heap.size w (wr.setCell ⟨B, k, none⟩ (.int .u8 ((lowB b).toNat : Int)))) := by
          refine ⟨by rw [HS.out]; exact HB.out.set k _, HW.out.setCell (p := ⟨B, k, none⟩) (by rw [HBB.out]; exact Nat.le_refl _) _⟩
        have v2 : IntKind.u8.wrap ((b.toNat : Int) + 32) = ((lowB b).toNat : Int) := by rw [IntKind.wrap_u8]; omega
        have v3 : (b.toNat : Int) + 32 = ((lowB b).toNat : Int) := by omega
        generalize ((lowB b).toNat : Int) = N at v2 v3 HN
        clear hlo
        go_wp2
        go_roundw
        case rel =>
          try ((repeat apply Exists.intro); refine ⟨?_, rfl⟩)
          exact ⟨⟨k + 1, by omega, by go_num, HN.out.1, HN.out.2⟩⟩
        case measure => simp [intOf]; omega
      · have HN : Hid (Byt wr B (lowTo l (k + 1))) := by
          show Byt _ _ _
          rw [HS.out, lowB_small hg]
          have h := HB.out
          have e : (lowTo l k).set k b = lowTo l k := by
            have h1 := lowTo_at l k hlt
            have h2 := HS.out
            apply List.ext_getElem (by simp)
            intro i h3 h4
            by_cases e : k = i
            · subst e
              rw [List.getElem_set_self]
              have h5 := (HB.out.cell k h4).1
              rw [q] at h5
              simp only [Option.some.injEq, Value.int.injEq, true_and] at h5
              exact UInt8.toNat_inj.1 (by omega)
            · rw [List.getElem_set_ne e]
          rw [e]
          exact h
        have hg2 : ¬ (65 ≤ (b.toNat : Int) ∧ (b.toNat : Int) ≤ 90) := by omega
        rcases (show (b.toNat : Int) < 65 ∨ ((65 : Int) ≤ (b.toNat : Int) ∧ (90 : Int) < (b.toNat : Int)) by omega) with g | ⟨g, g'⟩
        · clear hg hg2
          go_wp2
          go_roundw
          case rel =>
            try ((repeat apply Exists.intro); refine ⟨?_, rfl⟩)
            exact ⟨⟨k + 1, by omega, by go_num, HN, HW⟩⟩
          case measure => simp [intOf]; omega
        · clear hg hg2
          go_wp2
          go_roundw
          case rel =>
            try ((repeat apply Exists.intro); refine ⟨?_, rfl⟩)
            exact ⟨⟨k + 1, by omega, by go_num, HN, HW⟩⟩
          case measure => simp [intOf]; omega
    · have hi2 : ¬ (k : Int) < (l.length : Int) := by omega
      have hke : k = l.length := by omega
      have hT := HB.out.text (cap := capb)
      rw [lowTo_len, hke, lowTo_all] at hT
      obtain ⟨R, hR⟩ : ∃ R : ByteArray, (⟨(lowL l).toArray⟩ : ByteArray) = R := ⟨_, rfl⟩
      have HR : Hid ((⟨(lowL l).toArray⟩ : ByteArray) = R) := hR
      rw [hR] at hT
      clear hR hke
      go_wp2
      go_ret
      exact ⟨by rw [HR.out]; rfl, HW.out⟩
theorem head_tail {s : ByteArray} (h : 0 < s.size) : s.data.toList = s[0] :: s.data.toList.drop 1 := by
  have := List.drop_eq_getElem_cons (l := s.data.toList) (i := 0) (by simpa using h)
  rw [List.drop_zero] at this
  rw [this]
  rfl
theorem last_init {s : ByteArray} {m : Nat} (h : s.size = m + 1) : s.data.toList = s.data.toList.take m ++ [s[m]] := by
  have hl : m < s.data.toList.length := by rw [← Lib.size_eq]; omega
  have := List.take_succ_eq_append_getElem hl
  rw [List.take_of_length_le (by rw [← Lib.size_eq]; omega)] at this
  exact this
set_option maxRecDepth 100000 in
set_option maxHeartbeats 4000000 in
theorem specTrim_any (s : ByteArray) (w : World) (hs : s.size ≤ 1048576) :
    Calls Tryd.prog 84 #[.string s] w fun e w' => e = .returned (.string (trimT s)) ∧ w' = w := by
  obtain ⟨R, hR⟩ : ∃ R, trimT s = R := ⟨_, rfl⟩
  rw [hR]
  have HR : Hid (R.data.toList = Lib.trimRightB (Lib.trimLeftB s.data.toList 32) 32) := by show _ = _; rw [trim_both, ← hR]; rfl
  have HRR : Hid (trimT s = R) := hR
  clear hR
  go_enter Tryd.func84, Tryd.ntmps84
  go_wp2_with fail
  go_loopw [0] (fun u wr => Box (∃ S : ByteArray, u = .string S ∧ S.size ≤ 1048576 ∧ Hid (Lib.trimLeftB S.data.toList 32 = Lib.trimLeftB s.data.toList 32) ∧ wr = w))
    (fun u _ => strOf u)
  case atStart => exact ⟨⟨s, rfl, hs, rfl, rfl⟩⟩
  case round =>
    obtain ⟨S, rfl, hSz, HS, hwr⟩ := hrel.out
    clear hrel
    rw [hwr]
    clear hwr
    by_cases h0 : 0 < S.size
    · have h0i : (0 : Int) < (S.size : Int) := by omega
      obtain ⟨x, hx⟩ : ∃ x, S[0] = x := ⟨_, rfl⟩
      have hxl : x.toNat < 256 := x.toNat_lt
      have hht := head_tail h0
      rw [hx] at hht
      have HT : Hid (S.data.toList = x :: S.data.toList.drop 1) := hht
      by_cases ex : x.toNat = 32
      · have ex1 : ((x.toNat : Int) == 32) = true := by simp [ex]
        have s1 := fun w => run_slice_string_l (P := Tryd.prog) w 9 S Tryd.underlying9 .i64 1 (by omega) (by omega)
        rw [show (1 : Int).toNat = 1 from rfl] at s1
        have HE : Hid ((S.extract 1 S.size).data.toList = S.data.toList.drop 1 ∧ (S.extract 1 S.size).size + 1 = S.size) := by
          have e := from_data (t := S) (k := 1) rfl
          refine ⟨e, ?_⟩
          rw [Lib.size_eq, e, List.length_drop, ← Lib.size_eq]
          omega
        generalize S.extract 1 S.size = S2 at s1 HE
        have HN : Hid (Lib.trimLeftB S2.data.toList 32 = Lib.trimLeftB s.data.toList 32) := by
          show _ = _
          rw [← HS.out, HT.out, trimL_blank (UInt8.toNat_inj.1 ex), HE.out.1]
        have hS2 : S2.size ≤ 1048576 := by have := HE.out.2; omega
        clear hht ex
        go_wp2_with fail
        go_roundw
        case rel =>
          try ((repeat apply Exists.intro); refine ⟨?_, rfl⟩)
          exact ⟨⟨S2, rfl, hS2, HN, by first | rfl | trivial⟩⟩
        case measure => have := HE.out.2; simp only [strOf]; omega
      · have ex1 : ((x.toNat : Int) == 32) = false := by rw [beq_eq_false_iff_ne]; omega
        have HS1 : Hid (S.data.toList = Lib.trimLeftB s.data.toList 32) := by
          show _ = _
          rw [← HS.out, HT.out, trimL_none (fun e => ex (by rw [e]; rfl)), ← HT.out]
        clear hht
        go_wp2_with fail
        clear h0i hx ex1 h0
        go_loopw [0] (fun u wr => Box (∃ S : ByteArray, u = .string S ∧ S.size ≤ 1048576 ∧ Hid (Lib.trimRightB S.data.toList 32 = R.data.toList) ∧ wr = w))
          (fun u _ => strOf u)
        case atStart => exact ⟨⟨S, rfl, hSz, by show _ = _; rw [HS1.out, ← HR.out], rfl⟩⟩
        case round =>
          clear HS1 hSz HS
          obtain ⟨Q, rfl, hQz, HQ, hwr⟩ := hrel.out
          clear hrel
          rw [hwr]
          clear hwr
          by_cases q0 : 0 < Q.size
          · have q0i : (0 : Int) < (Q.size : Int) := by omega
            obtain ⟨m, hm⟩ : ∃ m : Nat, Q.size = m + 1 := ⟨Q.size - 1, by omega⟩
            have hml : m < Q.size := by omega
            obtain ⟨y, hy⟩ : ∃ y, Q[m] = y := ⟨_, rfl⟩
            have hyl : y.toNat < 256 := y.toNat_lt
            have hli := last_init hm
            rw [hy] at hli
            have HL : Hid (Q.data.toList = Q.data.toList.take m ++ [y]) := hli
            have hsub : IntKind.i64.wrap ((Q.size : Int) - 1) = (m : Int) := by rw [IntKind.wrap_i64]; omega
            have hsub' : (Q.size : Int) - 1 = (m : Int) := by omega
            have hmi : (m : Int) < (Q.size : Int) := by omega
            have hmi0 : (0 : Int) ≤ (m : Int) := by omega
            have HMZ : Hid (Q.size = m + 1) := hm
            by_cases ey : y.toNat = 32
            · have ey1 : ((y.toNat : Int) == 32) = true := by simp [ey]
              have s2 := fun w => run_slice_string_h (P := Tryd.prog) w 9 Q Tryd.underlying9 .i64 (m : Int) (by omega) (by omega)
              rw [Int.toNat_natCast] at s2
              have HE : Hid ((Q.extract 0 m).data.toList = Q.data.toList.take m ∧ (Q.extract 0 m).size = m) := by
                have e : (Q.extract 0 m).data.toList = Q.data.toList.take m := by rw [Lib.extract_data, List.drop_zero, Nat.sub_zero]
                refine ⟨e, ?_⟩
                rw [Lib.size_eq, e, List.length_take, ← Lib.size_eq]
                omega
              generalize Q.extract 0 m = Q2 at s2 HE
              have HN : Hid (Lib.trimRightB Q2.data.toList 32 = R.data.toList) := by
                show _ = _
                rw [← HQ.out, HL.out, UInt8.toNat_inj.1 (show y.toNat = (32 : UInt8).toNat from ey), trimR_blank, HE.out.1]
              have hQ2 : Q2.size ≤ 1048576 := by have := HE.out.2; omega
              clear hli hm ey
              go_wp2_with fail
              go_roundw
              case rel =>
                try ((repeat apply Exists.intro); refine ⟨?_, rfl⟩)
                exact ⟨⟨Q2, rfl, hQ2, HN, by first | rfl | trivial⟩⟩
              case measure => have := HE.out.2; have := HMZ.out; simp only [strOf]; omega
            · have ey1 : ((y.toNat : Int) == 32) = false := by rw [beq_eq_false_iff_ne]; omega
              have HF : Hid (Q = R) := by
                show _ = _
                have h := HQ.out
                rw [HL.out, trimR_of_last _ _ (fun e => ey (by rw [e]; rfl)), ← HL.out] at h
                rw [← Lib.mk_data Q, ← Lib.mk_data R, h]
              clear hli hm
              go_wp2_with fail
              go_ret
              exact ⟨by rw [← HF.out]; rfl, rfl⟩
          · have q0i : ¬ (0 : Int) < (Q.size : Int) := by omega
            have HF : Hid (Q = R) := by
              show _ = _
              have h := HQ.out
              have e : Q.data.toList = [] := List.length_eq_zero_iff.1 (by rw [← Lib.size_eq]; omega)
              rw [e] at h
              have h2 : R.data.toList = [] := h.symm
              rw [← Lib.mk_data Q, ← Lib.mk_data R, e, h2]
            go_wp2_with fail
            go_ret
            exact ⟨by rw [← HF.out]; rfl, rfl⟩
    · have h0i : ¬ (0 : Int) < (S.size : Int) := by omega
      have HS1 : Hid (S.data.toList = Lib.trimLeftB s.data.toList 32) := by
        show _ = _
        rw [← HS.out]
        have : S.data.toList = [] := List.length_eq_zero_iff.1 (by rw [← Lib.size_eq]; omega)
        rw [this]
        rfl
      go_wp2_with fail
      clear h0i h0
      go_loopw [0] (fun u wr => Box (∃ S : ByteArray, u = .string S ∧ S.size ≤ 1048576 ∧ Hid (Lib.trimRightB S.data.toList 32 = R.data.toList) ∧ wr = w))
        (fun u _ => strOf u)
      case atStart => exact ⟨⟨S, rfl, hSz, by show _ = _; rw [HS1.out, ← HR.out], rfl⟩⟩
      case round =>
        clear HS1 hSz HS
        obtain ⟨Q, rfl, hQz, HQ, hwr⟩ := hrel.out
        clear hrel
        rw [hwr]
        clear hwr
        by_cases q0 : 0 < Q.size
        · have q0i : (0 : Int) < (Q.size : Int) := by omega
          obtain ⟨m, hm⟩ : ∃ m : Nat, Q.size = m + 1 := ⟨Q.size - 1, by omega⟩
          have hml : m < Q.size := by omega
          obtain ⟨y, hy⟩ : ∃ y, Q[m] = y := ⟨_, rfl⟩
          have hyl : y.toNat < 256 := y.toNat_lt
          have hli := last_init hm
          rw [hy] at hli
          have HL : Hid (Q.data.toList = Q.data.toList.take m ++ [y]) := hli
          have hsub : IntKind.i64.wrap ((Q.size : Int) - 1) = (m : Int) := by rw [IntKind.wrap_i64]; omega
          have hsub' : (Q.size : Int) - 1 = (m : Int) := by omega
          have hmi : (m : Int) < (Q.size : Int) := by omega
          have hmi0 : (0 : Int) ≤ (m : Int) := by omega
          have HMZ : Hid (Q.size = m + 1) := hm
          by_cases ey : y.toNat = 32
          · have ey1 : ((y.toNat : Int) == 32) = true := by simp [ey]
            have s2 := fun w => run_slice_string_h (P := Tryd.prog) w 9 Q Tryd.underlying9 .i64 (m : Int) (by omega) (by omega)
            rw [Int.toNat_natCast] at s2
            have HE : Hid ((Q.extract 0 m).data.toList = Q.data.toList.take m ∧ (Q.extract 0 m).size = m) := by
              have e : (Q.extract 0 m).data.toList = Q.data.toList.take m := by rw [Lib.extract_data, List.drop_zero, Nat.sub_zero]
              refine ⟨e, ?_⟩
              rw [Lib.size_eq, e, List.length_take, ← Lib.size_eq]
              omega
            generalize Q.extract 0 m = Q2 at s2 HE
            have HN : Hid (Lib.trimRightB Q2.data.toList 32 = R.data.toList) := by
              show _ = _
              rw [← HQ.out, HL.out, UInt8.toNat_inj.1 (show y.toNat = (32 : UInt8).toNat from ey), trimR_blank, HE.out.1]
            have hQ2 : Q2.size ≤ 1048576 := by have := HE.out.2; omega
            clear hli hm ey
            go_wp2_with fail
            go_roundw
            case rel =>
              try ((repeat apply Exists.intro); refine ⟨?_, rfl⟩)
              exact ⟨⟨Q2, rfl, hQ2, HN, by first | rfl | trivial⟩⟩
            case measure => have := HE.out.2; have := HMZ.out; simp only [strOf]; omega
          · have ey1 : ((y.toNat : Int) == 32) = false := by rw [beq_eq_false_iff_ne]; omega
            have HF : Hid (Q = R) := by
              show _ = _
              have h := HQ.out
              rw [HL.out, trimR_of_last _ _ (fun e => ey (by rw [e]; rfl)), ← HL.out] at h
              rw [← Lib.mk_data Q, ← Lib.mk_data R, h]
            clear hli hm
            go_wp2_with fail
            go_ret
            exact ⟨by rw [← HF.out]; rfl, rfl⟩
        · have q0i : ¬ (0 : Int) < (Q.size : Int) := by omega
          have HF : Hid (Q = R) := by
            show _ = _
            have h := HQ.out
            have e : Q.data.toList = [] := List.length_eq_zero_iff.1 (by rw [← Lib.size_eq]; omega)
            rw [e] at h
            have h2 : R.data.toList = [] := h.symm
            rw [← Lib.mk_data Q, ← Lib.mk_data R, e, h2]
          go_wp2_with fail
          go_ret
          exact ⟨by rw [← HF.out]; rfl, rfl⟩
end Go.Proofs.YtnnaphfeeobeladDoor
