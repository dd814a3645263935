/- Texts that stand in one: CutColon, LowImpl. -/
import Derived.Test.YtnnaphfeeobelaeGreatDoorHeadPlainJ
import Derived.Test.YtnnaphfeeobelaeGreatDoorBaseJ
import Derived.Test.YtnnaphfeeobelaeGreatDoorShelf
import Derived.Deep.QuietTactic
import Derived.BigQuiet
import Derived.WalkSmall
import Derived.Lib.ConvBytes
import Derived.Deep.LoopGhost
namespace Go.Proofs.YtnnaphfeeobelaeGreatDoor
open Go.RowKit
theorem idxB_none : ∀ (b : List UInt8), (∀ x ∈ b, x ≠ 58) → Lib.indexByte b 58 = -1
  | [], _ => rfl
  | x :: b, h => by
    have ih := idxB_none b (fun y hy => h y (List.mem_cons_of_mem _ hy))
    unfold Lib.indexByte
    rw [if_neg (by simpa using h x List.mem_cons_self), ih]
    rfl
theorem idxB_at : ∀ (b r : List UInt8), (∀ x ∈ b, x ≠ 58) → Lib.indexByte (b ++ 58 :: r) 58 = (b.length : Int)
  | [], r, _ => rfl
  | y :: b, r, h => by
    have ih := idxB_at b r (fun z hz => h z (List.mem_cons_of_mem _ hz))
    simp only [List.cons_append]
    unfold Lib.indexByte
    rw [if_neg (by simpa using h y List.mem_cons_self), ih, if_neg (by simp)]
    simp
set_option maxRecDepth 100000 in
set_option maxHeartbeats 4000000 in
theorem cutLite_yes (s : ByteArray) (b r : List UInt8) (w : World) (hs : s.size ≤ 1048576) (hl : s.data.toList = b ++ 58 :: r) (hb : ∀ x ∈ b, x ≠ 58) :
    Calls Tryz.prog 92 #[.string s, .string ⟨#[58]⟩] w fun e w' => e = .returned (.tuple #[.string ⟨b.toArray⟩, .string ⟨r.toArray⟩, .bool true]) ∧ Below w.heap.size w w' := by
  have c1 := Tryz.stringslite_Index_one s 58 w
  rw [hl, idxB_at b r hb] at c1
  have hsz : s.size = b.length + r.length + 1 := by rw [Lib.size_eq, hl]; simp; omega
  have s1 := fun w => run_slice_string_h (P := Tryz.prog) w 9 s Tryz.underlying9 .i64 (b.length : Int) (by omega) (by omega)
  have s2 := fun w => run_slice_string_l (P := Tryz.prog) w 9 s Tryz.underlying9 .i64 ((b.length : Int) + 1) (by omega) (by omega)
  rw [Int.toNat_natCast] at s1
  rw [show ((b.length : Int) + 1).toNat = b.length + 1 by omega] at s2
  have e1 : s.extract 0 b.length = ⟨b.toArray⟩ := mk_ext _ (by rw [Lib.extract_data, hl, List.drop_zero, Nat.sub_zero, List.take_left' rfl])
  have e2 : s.extract (b.length + 1) s.size = ⟨r.toArray⟩ := mk_ext _ (by
    rw [Lib.extract_data, hl, show b ++ 58 :: r = (b ++ [58]) ++ r by simp, List.drop_left' (by simp), List.take_of_length_le (by omega)])
  rw [e1] at s1
  rw [e2] at s2
  obtain ⟨m, hm⟩ : ∃ m, b.length = m := ⟨_, rfl⟩
  rw [hm] at c1 s1 s2
  have hmb : m ≤ 1048576 := by omega
  have hadd : IntKind.i64.wrap ((m : Int) + 1) = (m : Int) + 1 := by rw [IntKind.wrap_i64]; omega
  have hm0 : (0 : Int) ≤ (m : Int) := by omega
  generalize (⟨b.toArray⟩ : ByteArray) = B at s1 ⊢
  generalize (⟨r.toArray⟩ : ByteArray) = C at s2 ⊢
  clear hl hb hsz e1 e2 hm hs
  go_enter Tryz.func92, Tryz.ntmps92
  go_wp2_with fail
  refine c1.mono ?_
  rintro e w1 ⟨rfl, hw1⟩
  rw [hw1]
  clear c1
  go_wp2_with fail
  go_quiet (fail)
  go_wp2_with fail
  go_ret3
  exact ⟨rfl, below_drewN (Below.refl _ _) _⟩
set_option maxRecDepth 100000 in
set_option maxHeartbeats 4000000 in
theorem cut_yes (s : ByteArray) (b r : List UInt8) (w : World) (hs : s.size ≤ 1048576) (hl : s.data.toList = b ++ 58 :: r) (hb : ∀ x ∈ b, x ≠ 58) :
    Calls Tryz.prog 72 #[.string s, .string ⟨#[58]⟩] w fun e w' => e = .returned (.tuple #[.string ⟨b.toArray⟩, .string ⟨r.toArray⟩, .bool true]) ∧ Below w.heap.size w w' := by
  have c1 := cutLite_yes s b r w hs hl hb
  go_enter Tryz.func72, Tryz.ntmps72
  go_wp2_with fail
  refine c1.mono ?_
  rintro e w1 ⟨rfl, hb1⟩
  go_wp2_with fail
  go_ret3
  exact ⟨rfl, hb1⟩
set_option maxRecDepth 100000 in
set_option maxHeartbeats 4000000 in
theorem cutLite_no (s : ByteArray) (w : World) (hb : ∀ x ∈ s.data.toList, x ≠ 58) :
    Calls Tryz.prog 92 #[.string s, .string ⟨#[58]⟩] w fun e w' => e = .returned (.tuple #[.string s, .string ⟨#[]⟩, .bool false]) ∧ Below w.heap.size w w' := by
  have c1 := Tryz.stringslite_Index_one s 58 w
  rw [idxB_none _ hb] at c1
  clear hb
  go_enter Tryz.func92, Tryz.ntmps92
  go_wp2_with fail
  refine c1.mono ?_
  rintro e w1 ⟨rfl, hw1⟩
  rw [hw1]
  go_wp2_with fail
  go_ret3
  exact ⟨rfl, Below.refl _ _⟩
set_option maxRecDepth 100000 in
set_option maxHeartbeats 4000000 in
theorem cut_no (s : ByteArray) (w : World) (hb : ∀ x ∈ s.data.toList, x ≠ 58) :
    Calls Tryz.prog 72 #[.string s, .string ⟨#[58]⟩] w fun e w' => e = .returned (.tuple #[.string s, .string ⟨#[]⟩, .bool false]) ∧ Below w.heap.size w w' := by
  have c1 := cutLite_no s w hb
  go_enter Tryz.func72, Tryz.ntmps72
  go_wp2_with fail
  refine c1.mono ?_
  rintro e w1 ⟨rfl, hb1⟩
  go_wp2_with fail
  go_ret3
  exact ⟨rfl, hb1⟩
end Go.Proofs.YtnnaphfeeobelaeGreatDoor

namespace Go.Proofs.YtnnaphfeeobelaeGreatDoor
open Go.RowKit
/-- '[]byte(t)' of a text: a new block with its bytes. -/
theorem bytesOf (t : ByteArray) (w : World) : ∃ (W : World) (cap : Nat) (cs : Array Value), (convert 9 22 (.string t)).run Tryz.prog w = .ok (.slice (some ⟨w.heap.size, 0, none⟩) t.size cap) W ∧ Below w.heap.size w W ∧
    W.heap[w.heap.size]? = some (.cells cs 5 (cs.size, cs.size + 1)) ∧ t.size ≤ cs.size ∧ ∀ j, j < t.size → cs[j]? = some (.int .u8 ((t.data.toList.getD j 0).toNat : Int)) := by
  refine ⟨_, _, _, Lib.run_convert_string_bytes w 9 22 5 t Tryz.underlying9 Tryz.underlying22 Tryz.underlying5, ?_, Lib.bytesWorld_at_new w 5 t, ?_, ?_⟩
  · exact ⟨rfl, rfl, rfl, by rw [Lib.bytesWorld_size]; omega, fun k hk => Lib.bytesWorld_at_old w 5 t k hk⟩
  · simp [Lib.bytesCells]
  · intro j hj
    have := Lib.bytesWorld_cell w 5 t j hj
    simpa [World.cell?, Lib.bytesWorld_at_new] using this
/-- A block holds these bytes, and has room behind them. -/
def Byt (w : World) (B : Nat) (l : List UInt8) : Prop := ∃ cs : Array Value, w.heap[B]? = some (.cells cs 5 (cs.size, cs.size + 1)) ∧ l.length ≤ cs.size ∧ ∀ j (hj : j < l.length), cs[j]? = some (.int .u8 (l[j].toNat : Int))
theorem Byt.cell {w : World} {B : Nat} {l : List UInt8} (h : Byt w B l) (j : Nat) (hj : j < l.length) : w.cell? ⟨B, j, none⟩ = some (.int .u8 (l[j].toNat : Int)) ∧ w.frozen? ⟨B, j, none⟩ = false := by
  obtain ⟨cs, h1, h2, h3⟩ := h
  refine ⟨by simp only [World.cell?, h1]; exact h3 j hj, ?_⟩
  simp only [World.frozen?, h1]
  simp
  omega
theorem Byt.set {w : World} {B : Nat} {l : List UInt8} (h : Byt w B l) (j : Nat) (x : UInt8) : Byt (w.setCell ⟨B, j, none⟩ (.int .u8 (x.toNat : Int))) B (l.set j x) := by
  obtain ⟨cs, h1, h2, h3⟩ := h
  refine ⟨cs.setIfInBounds j (.int .u8 (x.toNat : Int)), ?_, by rw [List.length_set, Array.size_setIfInBounds]; exact h2, ?_⟩
  · simp [World.setCell, Array.getElem?_modify, h1]
  · intro i hi
    rw [List.length_set] at hi
    by_cases e : j = i
    · subst e
      simp [Nat.lt_of_lt_of_le hi h2]
    · rw [Array.getElem?_setIfInBounds, if_neg e, h3 i hi, List.getElem_set_ne e]
theorem Byt.text {w : World} {B cap : Nat} {l : List UInt8} (h : Byt w B l) : (convert 22 9 (.slice (some ⟨B, 0, none⟩) l.length cap)).run Tryz.prog w = .ok (.string ⟨l.toArray⟩) w := by
  have := run_convert_bytes_back (P := Tryz.prog) w 22 9 5 ⟨B, 0, none⟩ cap l Tryz.underlying22 Tryz.underlying5 Tryz.underlying9 (fun j hj => by
    have h1 := (h.cell j hj).1
    have e : (⟨B, 0, none⟩ : Addr).add j = ⟨B, j, none⟩ := by cases j <;> simp [Addr.add]
    rw [e]
    exact h1)
  exact this
set_option maxRecDepth 100000 in
set_option maxHeartbeats 4000000 in
theorem implLow_any (s : ByteArray) (w : World) (hs : s.size ≤ 1048576) :
    Calls Tryz.prog 73 #[.string s] w fun e w' => e = .returned (.string ⟨(lowL s.data.toList).toArray⟩) ∧ Below w.heap.size w w' := by
  obtain ⟨W, capb, cs, hcv, hbW, hblk, hcs, hcell⟩ := bytesOf s w
  have hlen : s.data.toList.length = s.size := by simp
  obtain ⟨l, hl⟩ : ∃ l, s.data.toList = l := ⟨_, rfl⟩
  have hB0 : Byt W w.heap.size (lowTo l 0) := by
    rw [lowTo_zero]
    refine ⟨cs, hblk, by rw [← hl, hlen]; exact hcs, fun j hj => ?_⟩
    have hj' : j < s.size := by rw [← hlen, hl]; exact hj
    rw [hcell j hj', hl, List.getD_eq_getElem?_getD, List.getElem?_eq_getElem hj]
    rfl
  rw [hl] at hlen ⊢
  rw [← hlen] at hcv hs
  have hwt : w.heap.size < W.heap.size := (Array.getElem?_eq_some_iff.1 hblk).1
  obtain ⟨B, hB⟩ : ∃ B, w.heap.size = B := ⟨_, rfl⟩
  rw [hB] at hB0 hcv
  have HB0 : Hid (Byt W B (lowTo l 0)) := hB0
  have HBB : Hid (w.heap.size = B) := hB
  have HBW : Hid (Below w.heap.size w W) := hbW
  clear hblk hcs hcell hlen hl hB0 hB hbW hwt
  go_enter Tryz.func73, Tryz.ntmps73
  go_wp2
  go_loopw [4, 5, 10] (fun _ _ i wr => Box (∃ k : Nat, k ≤ l.length ∧ i = .int .i64 k ∧ Hid (Byt wr B (lowTo l k)) ∧ Hid (Below w.heap.size w wr)))
    (fun _ _ i _ => l.length - (intOf i).toNat)
  case atStart => exact ⟨⟨0, by omega, rfl, HB0, HBW⟩⟩
  case round =>
    obtain ⟨k, hk, rfl, HB, HW⟩ := hrel.out
    clear hrel hcv
    by_cases hlt : k < l.length
    · obtain ⟨q, hz⟩ := HB.out.cell k (by rw [lowTo_len]; exact hlt)
      rw [lowTo_at l k hlt] at q
      have HS : Hid (lowTo l (k + 1) = (lowTo l k).set k (lowB l[k])) := lowTo_succ l k hlt
      obtain ⟨b, hb⟩ : ∃ b, l[k] = b := ⟨_, rfl⟩
      rw [hb] at q HS
      have hbl : b.toNat < 256 := b.toNat_lt
      have hi1 : (0 : Int) ≤ (k : Int) := by omega
      have hi2 : (k : Int) < (l.length : Int) := by omega
      clear hb
      by_cases hg : 65 ≤ b.toNat ∧ b.toNat ≤ 90
      · obtain ⟨g1, g2⟩ := hg
        have hlo := lowB_great ⟨g1, g2⟩
        have HV : Hid ((b.toNat : Int) - 65 + 97 = ((lowB b).toNat : Int)) := by show _ = _; omega
        have HN : Hid (Byt (wr.setCell ⟨B, k, none⟩ (.int .u8 ((lowB b).toNat : Int))) B (lowTo l (k + 1)) ∧ Below w.heap.size w (wr.setCell ⟨B, k, none⟩ (.int .u8 ((lowB b).toNat : Int)))) := by
          refine ⟨by rw [HS.out]; exact HB.out.set k _, HW.out.setCell (p := ⟨B, k, none⟩) (by rw [HBB.out]; exact Nat.le_refl _) _⟩
        have v1 : IntKind.u8.wrap ((b.toNat : Int) - 65) = (b.toNat : Int) - 65 := by rw [IntKind.wrap_u8]; omega
        have v2 : IntKind.u8.wrap ((b.toNat : Int) - 65 + 97) = ((lowB b).toNat : Int) := by rw [IntKind.wrap_u8]; omega
        have v3 : (b.toNat : Int) - 65 + 97 = ((lowB b).toNat : Int) := by omega
        generalize ((lowB b).toNat : Int) = N at v2 v3 HN
        clear hlo HV
        go_wp2
        go_roundw
        case rel =>
          try ((repeat apply Exists.intro); refine ⟨?_, rfl⟩)
          exact ⟨⟨k + 1, by omega, by go_num, HN.out.1, HN.out.2⟩⟩
        case measure => simp [intOf]; omega
      · have HN : Hid (Byt wr B (lowTo l (k + 1))) := by
          show Byt _ _ _
          rw [HS.out, lowB_small hg]
          have h := HB.out
          have e : (lowTo l k).set k b = lowTo l k := by
            have h1 := lowTo_at l k hlt
            have h2 := HS.out
            apply List.ext_getElem (by simp)
            intro i h3 h4
            by_cases e : k = i
            · subst e
              rw [List.getElem_set_self]
              have h5 := (HB.out.cell k h4).1
              rw [q] at h5
              simp only [Option.some.injEq, Value.int.injEq, true_and] at h5
              exact UInt8.toNat_inj.1 (by omega)
            · rw [List.getElem_set_ne e]
          rw [e]
          exact h
        have hg2 : ¬ (65 ≤ (b.toNat : Int) ∧ (b.toNat : Int) ≤ 90) := by omega
        rcases (show (b.toNat : Int) < 65 ∨ ((65 : Int) ≤ (b.toNat : Int) ∧ (90 : Int) < (b.toNat : Int)) by omega) with g | ⟨g, g'⟩
        · clear hg hg2
          go_wp2
          go_roundw
          case rel =>
            try ((repeat apply Exists.intro); refine ⟨?_, rfl⟩)
            exact ⟨⟨k + 1, by omega, by go_num, HN, HW⟩⟩
          case measure => simp [intOf]; omega
        · clear hg hg2
          go_wp2
          go_roundw
          case rel =>
            try ((repeat apply Exists.intro); refine ⟨?_, rfl⟩)
            exact ⟨⟨k + 1, by omega, by go_num, HN, HW⟩⟩
          case measure => simp [intOf]; omega
    · have hi2 : ¬ (k : Int) < (l.length : Int) := by omega
      have hke : k = l.length := by omega
      have hT := HB.out.text (cap := capb)
      rw [lowTo_len, hke, lowTo_all] at hT
      obtain ⟨R, hR⟩ : ∃ R : ByteArray, (⟨(lowL l).toArray⟩ : ByteArray) = R := ⟨_, rfl⟩
      have HR : Hid ((⟨(lowL l).toArray⟩ : ByteArray) = R) := hR
      rw [hR] at hT
      clear hR hke
      go_wp2
      go_ret
      exact ⟨by rw [HR.out]; rfl, HW.out⟩
end Go.Proofs.YtnnaphfeeobelaeGreatDoor
