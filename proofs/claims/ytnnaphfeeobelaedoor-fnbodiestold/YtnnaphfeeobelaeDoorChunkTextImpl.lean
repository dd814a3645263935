/- Parts are written: the program. -/
import Derived.Test.YtnnaphfeeobelaeDoorChunkSpecJ
import Derived.Test.YtnnaphfeeobelaeDoorHexPlainJ
import Derived.Test.YtnnaphfeeobelaeDoorShelf
namespace Go.Proofs.YtnnaphfeeobelaeDoor
open Go.RowKit Go.Sort
theorem figs_trim (n : Nat) (h1 : 1 ≤ n) (h2 : n ≤ 99) : Lib.trimLeftB (figs [UInt8.ofNat n]) 48 = figsL n := by
  obtain ⟨m, hm⟩ : ∃ m : Fin 100, m.val = n := ⟨⟨n, by omega⟩, rfl⟩
  subst hm
  revert m
  decide
theorem emptyC (s : ByteArray) : s.toList.isEmpty = decide (s.size = 0) := by
  rw [ByteArray.toList_eq, Lib.size_eq]
  cases s.data.toList <;> simp
set_option maxHeartbeats 2000000 in
theorem trimLeft_nought (s : ByteArray) (w : World) : Calls Tryd.prog 40 #[.string s, .string ⟨#[48]⟩] w fun e w' => e = .returned (.string ⟨(Lib.trimLeftB s.data.toList 48).toArray⟩) ∧ w' = w := by
  have em := emptyC s
  have c1 := Tryd.strings_trimLeftByte s 48 w
  have hx0 : ∀ W : World, (Instr.index 9 (.string ⟨#[48]⟩) (.int .i64 0)).run Tryd.prog W = .ok (.int .u8 48) W := fun W => by rw [run_index_string W 9 _ .i64 0 Tryd.underlying9]; rfl
  by_cases h0 : s.size = 0
  · rw [decide_eq_true h0] at em
    have hs : s = ⟨#[]⟩ := by
      rw [Lib.size_eq] at h0
      have := List.length_eq_zero_iff.1 h0
      rw [← Lib.mk_data s, this]
    subst hs
    clear h0 c1
    go_enter Tryd.func40, Tryd.ntmps40
    go_wp2_with fail
    go_ret
    exact ⟨rfl, rfl⟩
  · rw [decide_eq_false h0] at em
    have c2 : Calls Tryd.prog 51 #[.string s, .int .u8 48] w fun e w' => e = .returned (.string ⟨(Lib.trimLeftB s.data.toList 48).toArray⟩) ∧ w' = w := c1
    clear h0 c1
    generalize (⟨(Lib.trimLeftB s.data.toList 48).toArray⟩ : ByteArray) = R at c2
    go_enter Tryd.func40, Tryd.ntmps40
    go_wp2_with fail
    refine c2.mono ?_
    rintro e w1 ⟨rfl, hw⟩
    rw [hw]
    go_wp2_with fail
    go_ret
    exact ⟨rfl, rfl⟩
set_option maxHeartbeats 2000000 in
theorem chunkFigs_any (n : Nat) (h1 : 1 ≤ n) (h2 : n ≤ 99) (w : World) : Calls Tryd.prog 22 #[.int .i64 (n : Int)] w fun e w' => e = .returned (.string ⟨(figsL n).toArray⟩) ∧ Below w.heap.size w w' := by
  have hn : (UInt8.ofNat n).toNat = n := by simp; omega
  obtain ⟨w1, hw1⟩ : ∃ x, w.alloc (.cells #[.int .u8 (n : Int)] 5) = x := ⟨_, rfl⟩
  have hb1 : Below w.heap.size w w1 := by rw [← hw1]; exact (Below.refl _ _).alloc (Nat.le_refl _) _
  have hcv := one_text_of (P := Tryd.prog) w 22 9 5 (UInt8.ofNat n) (n : Int) (by rw [hn]) Tryd.underlying22 Tryd.underlying5 Tryd.underlying9
  have c1 := implHex_in ⟨[UInt8.ofNat n].toArray⟩ w1 (by show (1 : Nat) ≤ 20000; omega)
  have CT : Hid (∀ wi, Calls Tryd.prog 40 #[.string ⟨(figs [UInt8.ofNat n]).toArray⟩, .string ⟨#[48]⟩] wi fun e w' => e = .returned (.string ⟨(figsL n).toArray⟩) ∧ w' = wi) := by
    intro wi
    have h := trimLeft_nought ⟨(figs [UInt8.ofNat n]).toArray⟩ wi
    rw [show (⟨(figs [UInt8.ofNat n]).toArray⟩ : ByteArray).data.toList = figs [UInt8.ofNat n] from rfl, figs_trim n h1 h2] at h
    exact h
  rw [show (⟨[UInt8.ofNat n].toArray⟩ : ByteArray).data.toList = [UInt8.ofNat n] from rfl] at c1
  generalize (⟨(figs [UInt8.ofNat n]).toArray⟩ : ByteArray) = F at c1 CT
  generalize (⟨(figsL n).toArray⟩ : ByteArray) = G at CT
  generalize (⟨[UInt8.ofNat n].toArray⟩ : ByteArray) = U at c1 hcv
  have hi1 : (0 : Int) ≤ (n : Int) := by omega
  have hi2 : (n : Int) < 256 := by omega
  have HW : Hid (w.alloc (.cells #[.int .u8 (n : Int)] 5) = w1) := hw1
  have HB : Hid (Below w.heap.size w w1) := hb1
  clear hn hw1 hb1
  go_enter Tryd.func22, Tryd.ntmps22
  go_wp2_with fail
  rw [HW.out]
  refine c1.mono ?_
  rintro e w2 ⟨rfl, hb2⟩
  have HB2 : Hid (Below w.heap.size w w2) := HB.out.trans (hb2.mono HB.out.size)
  clear c1 hb2 hcv
  go_wp2_with fail
  refine (CT.out _).mono ?_
  rintro e w3 ⟨rfl, hw⟩
  rw [hw]
  clear CT
  go_wp2_with fail
  go_ret
  exact ⟨rfl, HB2.out⟩
set_option maxRecDepth 100000 in
set_option maxHeartbeats 8000000 in
theorem implChunkText_any (w : World) (a : Option Addr) (cap : Nat) (P : List ByteArray) (hA : LAt w a P w.heap.size) (hm : P.length ≤ 1048576) (hz : ∀ p ∈ P, p.size ≤ 1048576) :
    Calls Tryd.prog 8 #[.slice a P.length cap] w fun e w' => e = .returned (.tuple #[.string (chunkS P).1, .bool (chunkS P).2]) ∧ Below w.heap.size w w' := by
  obtain ⟨R, hR⟩ : ∃ R, chunkS P = R := ⟨_, rfl⟩
  rw [hR]
  have HR : Hid (chunkS P = R) := hR
  have HA : Hid (LAt w a P w.heap.size) := hA
  have HZ : Hid (∀ p ∈ P, p.size ≤ 1048576) := hz
  clear hR hA hz
  by_cases h10 : 10 < P.length
  · have h10i : (10 : Int) < (P.length : Int) := by omega
    have HE : Hid (R = (⟨#[]⟩, false)) := by show _ = _; rw [← HR.out]; exact partsOk_no (.inl h10)
    clear HR h10
    go_enter Tryd.func8, Tryd.ntmps8
    go_wp2_with fail
    go_ret2
    exact ⟨by rw [HE.out]; rfl, Below.refl _ _⟩
  have h10i : ¬ (10 : Int) < (P.length : Int) := by omega
  go_enter Tryd.func8, Tryd.ntmps8
  go_wp2_with fail
  go_loopw [4, 6, 12] (fun s _ i wr => Box (∃ k : Nat, k ≤ P.length ∧ i = .int .i64 k ∧ s = .string ⟨(partsT (bysL (P.take k))).toArray⟩ ∧ Hid (∀ q (hq : q < P.length), q < k → 1 ≤ P[q].size ∧ P[q].size ≤ 99) ∧ Below w.heap.size w wr))
    (fun _ _ i _ => P.length - (intOf i).toNat)
  case atStart => exact ⟨⟨0, by omega, rfl, by simp [bysL, partsT], fun q _ h => by omega, Below.refl _ _⟩⟩
  case round =>
    obtain ⟨k, hk, rfl, rfl, HQ, hbw⟩ := hrel.out
    clear hrel
    have HPL : Hid ((partsT (bysL (P.take k))).length ≤ 105 * k) := by
      show _ ≤ _
      have h := partsT_len (P := bysL (P.take k)) (by
        intro p hp
        unfold bysL at hp
        obtain ⟨x, hx, rfl⟩ := List.mem_map.1 hp
        obtain ⟨j, hj, rfl⟩ := List.getElem_of_mem hx
        rw [List.length_take] at hj
        have := HQ.out j (by omega) (by omega)
        rw [List.getElem_take, ← Lib.size_eq]
        omega)
      have e : (bysL (P.take k)).length = k := by unfold bysL; rw [List.length_map, List.length_take]; omega
      rw [e] at h
      exact h
    by_cases hlt : k < P.length
    · obtain ⟨g, off, ha, hg, hc⟩ := HA.out k hlt
      subst ha
      have hc2 : wr.cell? ⟨g, off + k, none⟩ = some (.string P[k]) := (hbw.cell (p := ⟨g, off + k, none⟩) hg).trans hc
      obtain ⟨p, hp⟩ : ∃ p, P[k] = p := ⟨_, rfl⟩
      rw [hp] at hc2
      have hpz : p.size ≤ 1048576 := by rw [← hp]; exact HZ.out _ (List.getElem_mem hlt)
      have hi : (k : Int) < (P.length : Int) := by omega
      have hi0 : (0 : Int) ≤ (k : Int) := by omega
      have em := emptyC p
      clear hc
      by_cases h0 : p.size = 0
      · rw [decide_eq_true h0] at em
        have HE : Hid (R = (⟨#[]⟩, false)) := by show _ = _; rw [← HR.out]; exact partsOk_no (.inr ⟨k, hlt, by rw [hp]; omega⟩)
        clear h0 hp
        go_wp2_with fail
        go_ret2
        exact ⟨by rw [HE.out]; rfl, hbw⟩
      rw [decide_eq_false h0] at em
      by_cases h99 : 99 < p.size
      · have h99i : (99 : Int) < (p.size : Int) := by omega
        have HE : Hid (R = (⟨#[]⟩, false)) := by show _ = _; rw [← HR.out]; exact partsOk_no (.inr ⟨k, hlt, by rw [hp]; omega⟩)
        clear h0 hp h99
        go_wp2_with fail
        go_ret2
        exact ⟨by rw [HE.out]; rfl, hbw⟩
      have h99i : ¬ (99 : Int) < (p.size : Int) := by omega
      have HN : Hid (∀ q (hq : q < P.length), q < k + 1 → 1 ≤ P[q].size ∧ P[q].size ≤ 99) := by
        intro q hq hqk
        by_cases e : q = k
        · subst e; rw [hp]; omega
        · exact HQ.out q hq (by omega)
      obtain ⟨S, hS⟩ : ∃ S : ByteArray, (⟨(partsT (bysL (P.take k))).toArray⟩ : ByteArray) = S := ⟨_, rfl⟩
      have hSz : S.size ≤ 1050 := by rw [← hS]; show (partsT (bysL (P.take k))).toArray.size ≤ _; have := HPL.out; simp; omega
      obtain ⟨F, hF⟩ : ∃ F : ByteArray, (⟨(figsL p.size).toArray⟩ : ByteArray) = F := ⟨_, rfl⟩
      have hFz : F.size ≤ 2 := by rw [← hF]; show (figsL p.size).toArray.size ≤ _; have := figsL_len p.size; simpa using this
      have HNX : Hid (S ++ (((F ++ ⟨#[13, 10]⟩) ++ p) ++ ⟨#[13, 10]⟩) = (⟨(partsT (bysL (P.take (k + 1)))).toArray⟩ : ByteArray)) := by
        show _ = _
        rw [bysL_take hlt, partsT_snoc, hp, ← hS, ← hF]
        rw [← Lib.mk_data (⟨(partsT (bysL (P.take k))).toArray⟩ ++ (((⟨(figsL p.size).toArray⟩ ++ ⟨#[13, 10]⟩) ++ p) ++ ⟨#[13, 10]⟩) : ByteArray)]
        first | (congr 1; done) | (congr 1; simp [partT, endL])
      have CF : Hid (∀ wi, Calls Tryd.prog 22 #[.int .i64 (p.size : Int)] wi fun e w' => e = .returned (.string F) ∧ Below wi.heap.size wi w') := by
        intro wi
        rw [← hF]
        exact chunkFigs_any p.size (by omega) (by omega) wi
      have a1 := fun w => run_string_add_sum (P := Tryd.prog) (w := w) F ⟨#[13, 10]⟩ (by show _ + 2 ≤ _; omega)
      have a2 := fun w => run_string_add_sum (P := Tryd.prog) (w := w) (F ++ ⟨#[13, 10]⟩) p (by rw [ByteArray.size_append]; show _ + 2 + _ ≤ _; omega)
      have a3 := fun w => run_string_add_sum (P := Tryd.prog) (w := w) ((F ++ ⟨#[13, 10]⟩) ++ p) ⟨#[13, 10]⟩ (by rw [ByteArray.size_append, ByteArray.size_append]; show _ + 2 + _ + 2 ≤ _; omega)
      have a4 := fun w => run_string_add_sum (P := Tryd.prog) (w := w) S (((F ++ ⟨#[13, 10]⟩) ++ p) ++ ⟨#[13, 10]⟩) (by rw [ByteArray.size_append, ByteArray.size_append, ByteArray.size_append]; show _ + (_ + 2 + _ + 2) ≤ _; omega)
      rw [hS]
      generalize S ++ (((F ++ ⟨#[13, 10]⟩) ++ p) ++ ⟨#[13, 10]⟩) = T4 at a4 HNX
      generalize ((F ++ ⟨#[13, 10]⟩) ++ p) ++ ⟨#[13, 10]⟩ = T3 at a3 a4
      generalize (F ++ ⟨#[13, 10]⟩) ++ p = T2 at a2 a3
      generalize F ++ ⟨#[13, 10]⟩ = T1 at a1 a2
      have HK : Hid (k < P.length) := hlt
      have HBW : Hid (Below w.heap.size w wr) := hbw
      clear hS hF hFz hSz h99 hp HQ HPL h0 hbw
      go_wp2_with fail
      refine (CF.out _).mono ?_
      rintro e w2 ⟨rfl, hb2⟩
      have HB2 : Hid (Below w.heap.size w w2) := HBW.out.trans (hb2.mono HBW.out.size)
      clear CF hb2
      go_wp2_with fail
      go_roundw
      case rel =>
        try ((repeat apply Exists.intro); refine ⟨?_, rfl⟩)
        exact ⟨⟨k + 1, HK.out, by go_num, by rw [HNX.out], HN, HB2.out⟩⟩
      case measure => have := HK.out; simp [intOf]; omega
    · have hi : ¬ (k : Int) < (P.length : Int) := by omega
      have hke : k = P.length := by omega
      obtain ⟨S, hS⟩ : ∃ S : ByteArray, (⟨(partsT (bysL (P.take k))).toArray⟩ : ByteArray) = S := ⟨_, rfl⟩
      have hSz : S.size ≤ 1050 := by rw [← hS]; show (partsT (bysL (P.take k))).toArray.size ≤ _; have := HPL.out; simp; omega
      have HE : Hid (R = (S ++ ⟨#[48, 13, 10, 13, 10]⟩, true)) := by
        show _ = _
        rw [← HR.out, partsOk_yes (by omega) (fun q hq => HQ.out q hq (by omega)), ← hS, hke, List.take_length]
        congr 1
      rw [hS]
      have a1 := fun w => run_string_add_sum (P := Tryd.prog) (w := w) S ⟨#[48, 13, 10, 13, 10]⟩ (by show _ + 5 ≤ _; omega)
      generalize S ++ ⟨#[48, 13, 10, 13, 10]⟩ = T at a1 HE
      clear hS hke
      go_wp2_with fail
      go_ret2
      exact ⟨by rw [HE.out]; rfl, hbw⟩
end Go.Proofs.YtnnaphfeeobelaeDoor
