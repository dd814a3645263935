/- The program copies a list of keys. -/
import Derived.Test.YtbcjkinalghokatPolSpec
import Derived.Test.YtbcjkinalghokatPolStep
import Derived.Test.YtbcjkinalghokatShelf
namespace Go.Proofs.Ytbcjkinalghokat
open Go.RowKit Go.Sort

theorem cloneS_any (s : ByteArray) (w : World) (hs : s.size ≤ 281474976710656) :
    Calls Try.prog 64 #[.string s] w fun e w' => e = .returned (.string s) ∧ Below w.heap.size w w' := by
  go_enter Try.func64, Try.ntmps64
  go_wp2_with (go_at_call 65; refine (Try.stringslite_Clone s _ hs).mono ?_; rintro e w' ⟨rfl, hb⟩)
  go_ret
  exact ⟨rfl, hb⟩
theorem set_part {l : List ByteArray} {k : Nat} (hk : k < l.length) (z : Value) : (strs (l.take k) ++ List.replicate (l.length - k) z).set k (.string l[k]) = strs (l.take (k + 1)) ++ List.replicate (l.length - (k + 1)) z := by
  have hl : (strs (l.take k)).length = k := by rw [strs_length, List.length_take]; omega
  obtain ⟨m, hm⟩ : ∃ m, l.length - k = m + 1 := ⟨l.length - k - 1, by omega⟩
  rw [List.set_append_right _ _ (by omega), hl, hm, Nat.sub_self, List.replicate_succ, List.set_cons_zero, List.take_succ_eq_append_getElem hk, strs_append, show l.length - (k + 1) = m by omega]
  simp [strs]
set_option maxRecDepth 100000 in
set_option maxHeartbeats 2000000 in
theorem keysCopy_any (w : World) (a : Option Addr) (c : Nat) (L : List ByteArray) (hA : LAt w a L w.heap.size) (hm : L.length ≤ 1048576) (hz : ∀ z ∈ L, z.size ≤ 281474976710656) :
    Calls Try.prog 56 #[.slice a L.length c] w fun e w' => ∃ v, e = .returned v ∧ OwnV w' w.heap.size 9 v (strs L) ∧ Below w.heap.size w w' := by
  obtain ⟨i0, hi, hz0, hz1, hz2⟩ := info_parts Try.infoSK
  obtain ⟨w2, hmk, hown0, hgr0⟩ := run_make_full (P := Try.prog) w w.heap.size 22 9 i0 (.string ⟨#[]⟩) 1 Try.underlying22 hi hz0 hz1 .i64 .i64 L.length (by rw [hz2]; omega) (by unfold maxLen; omega) (Nat.le_refl _)
  have HO : Hid (OwnV w2 w.heap.size 9 (.slice (some ⟨w.heap.size, 0, none⟩) L.length L.length) (strs (L.take 0) ++ List.replicate (L.length - 0) (.string ⟨#[]⟩))) := by
    have := hown0
    rw [show (Value.string ⟨#[]⟩).cells = #[Value.string ⟨#[]⟩] from rfl, toList_madeCells_one, Nat.mul_one] at this
    show OwnV _ _ _ _ _
    rw [List.take_zero, show strs [] = [] from rfl, List.nil_append, Nat.sub_zero]
    unfold OwnV
    rw [List.length_replicate]
    exact this
  have HB : Hid (Below w.heap.size w w2) := ⟨hgr0.os, hgr0.tape, hgr0.output, hgr0.size, fun j hj => hgr0.block j hj (by simp)⟩
  have HZ : Hid (∀ z ∈ L, z.size ≤ 281474976710656) := hz
  obtain ⟨G, hG⟩ : ∃ G, w.heap.size = G := ⟨_, rfl⟩
  rw [hG] at hmk HO HB
  have HG : Hid (w.heap.size = G) := hG
  rw [hG] at hA
  clear hown0 hgr0 hz hz0 hz1 hz2 hi hG
  go_enter Try.func56, Try.ntmps56
  go_wp2
  go_loopw [11] (fun i wr => Box (∃ (k : Nat), k ≤ L.length ∧ i = .int .i64 k ∧ Hid (OwnV wr G 9 (.slice (some ⟨G, 0, none⟩) L.length L.length) (strs (L.take k) ++ List.replicate (L.length - k) (.string ⟨#[]⟩))) ∧ Hid (Below G w wr)))
    (fun i _ => L.length - (intOf i).toNat)
  case atStart => exact ⟨⟨0, by omega, rfl, HO, HB⟩⟩
  case round =>
    obtain ⟨k, hk, rfl, HO1, HB1⟩ := hrel.out
    clear hrel HO HB hmk
    by_cases hlt : k < L.length
    · obtain ⟨g, off, hga, _, q0⟩ := (hA.below HB1.out (Nat.le_refl _)) k hlt
      have hsz := HZ.out _ (List.getElem_mem hlt)
      have HS := fun (W : World) (h : OwnV W G 9 (.slice (some ⟨G, 0, none⟩) L.length L.length) (strs (L.take k) ++ List.replicate (L.length - k) (.string ⟨#[]⟩))) => (h.stored (by rw [List.length_append, strs_length, List.length_take, List.length_replicate]; omega) k (.string L[k]))
      rw [set_part hlt] at HS
      obtain ⟨f, hf⟩ : ∃ f, L[k] = f := ⟨_, rfl⟩
      rw [hf] at q0 hsz HS
      have HSS : Hid _ := HS
      subst hga
      have HC : Hid (∀ wi, Calls Try.prog 64 #[.string f] wi fun e w' => e = .returned (.string f) ∧ Below wi.heap.size wi w') := fun wi => cloneS_any f wi hsz
      have hi1 : (0 : Int) ≤ (k : Int) := by omega
      have hi2 : (k : Int) < (L.length : Int) := by omega
      have HK : Hid (k < L.length) := hlt
      have hkb : k ≤ 1048576 := by omega
      clear hf hsz hlt hk HS
      go_wp2_with fail
      refine (HC.out _).mono ?_
      rintro e w3 ⟨rfl, hb3⟩
      have hO3 := HO1.out.below hb3 (Nat.le_refl _)
      have HB3 : Hid (Below G w w3) := HB1.out.trans (hb3.mono (by have := HB1.out.size; have := HG.out; omega))
      have HN := HSS.out w3 hO3
      have s0 : w3.cell? ⟨G, k, none⟩ = some (.string ⟨#[]⟩) := by
        obtain ⟨a', c', e', h'⟩ := hO3.shape
        have hlen : (strs (L.take k) ++ List.replicate (L.length - k) (Value.string ⟨#[]⟩)).length = L.length := by rw [List.length_append, strs_length, List.length_take, List.length_replicate]; have := HK.out; omega
        obtain ⟨g', e1, h1, _⟩ := h' k (by rw [hlen]; exact HK.out)
        simp only [Value.slice.injEq] at e'
        rw [← e'.1] at e1
        simp only [Option.some.injEq, Addr.mk.injEq, and_true] at e1
        rw [e1, h1, List.getElem_append_right (by rw [strs_length, List.length_take]; omega)]
        simp
      have s1 : w3.frozen? ⟨G, k, none⟩ = false := by
        obtain ⟨a', c', e', h'⟩ := hO3.shape
        have hlen : (strs (L.take k) ++ List.replicate (L.length - k) (Value.string ⟨#[]⟩)).length = L.length := by rw [List.length_append, strs_length, List.length_take, List.length_replicate]; have := HK.out; omega
        obtain ⟨g', e1, _, h1, _⟩ := h' k (by rw [hlen]; exact HK.out)
        simp only [Value.slice.injEq] at e'
        rw [← e'.1] at e1
        simp only [Option.some.injEq, Addr.mk.injEq, and_true] at e1
        rw [e1]
        exact h1
      have HNN : Hid _ := HN
      clear HN hO3 hb3 HC HO1 q0 HSS
      go_wp2_with fail
      go_roundw
      case rel =>
        try ((repeat apply Exists.intro); refine ⟨?_, rfl⟩)
        exact ⟨⟨k + 1, HK.out, by go_num, HNN.out.1, HB3.out.setCell (Nat.le_refl _) _⟩⟩
      case measure => have := HK.out; simp [intOf]; omega
    · have hke : k = L.length := by omega
      have HO2 : Hid (OwnV wr w.heap.size 9 (.slice (some ⟨G, 0, none⟩) L.length L.length) (strs L)) := by
        have := HO1.out
        rw [hke, List.take_length, Nat.sub_self, List.replicate_zero, List.append_nil] at this
        rw [HG.out]
        exact this
      clear hA HO1
      go_wp2_with fail
      go_ret
      exact ⟨_, rfl, HO2.out, by rw [HG.out]; exact HB1.out⟩
end Go.Proofs.Ytbcjkinalghokat
