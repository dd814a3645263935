/- Parts are written: the other text. -/
import Derived.Test.YtnnaphfeeobelarDoorChunkSpec
import Derived.Test.YtnnaphfeeobelarDoorStrs
import Derived.Lib.QuietBelow
namespace Go.Proofs.YtnnaphfeeobelarDoor
open Go.RowKit Go.Sort
theorem partsT_len {P : List (List UInt8)} (h : ∀ p ∈ P, p.length ≤ 99) : (partsT P).length ≤ 105 * P.length := by
  induction P with
  | nil => simp [partsT]
  | cons p r ih =>
    have h1 := ih (fun q hq => h q (List.mem_cons_of_mem _ hq))
    have h2 := h p List.mem_cons_self
    have h3 := partT_len p
    simp only [partsT, List.length_append, List.length_cons]
    omega
theorem bysL_take {P : List ByteArray} {k : Nat} (hk : k < P.length) : bysL (P.take (k + 1)) = bysL (P.take k) ++ [(P[k]).data.toList] := by
  unfold bysL
  rw [List.take_succ_eq_append_getElem hk, List.map_append]
  rfl
theorem partsOk_no {P : List ByteArray} (h : 10 < P.length ∨ ∃ k, ∃ hk : k < P.length, ¬ (1 ≤ P[k].size ∧ P[k].size ≤ 99)) : chunkS P = (⟨#[]⟩, false) := by
  unfold chunkS
  rw [if_neg]
  unfold partsOk
  rcases h with h | ⟨k, hk, h⟩
  · rw [decide_eq_false (by omega)]; simp
  · intro e
    simp only [Bool.and_eq_true, List.all_eq_true, decide_eq_true_eq] at e
    exact h (e.2 _ (List.getElem_mem hk))
theorem partsOk_yes {P : List ByteArray} (h1 : P.length ≤ 10) (h2 : ∀ k (hk : k < P.length), 1 ≤ P[k].size ∧ P[k].size ≤ 99) : chunkS P = (⟨(partsT (bysL P) ++ lastL).toArray⟩, true) := by
  unfold chunkS
  rw [if_pos]
  unfold partsOk
  rw [decide_eq_true h1, Bool.true_and, List.all_eq_true]
  intro p hp
  obtain ⟨j, hj, rfl⟩ := List.getElem_of_mem hp
  exact decide_eq_true (h2 j hj)
set_option maxRecDepth 100000 in
set_option maxHeartbeats 8000000 in
theorem specChunkText_any (w : World) (a : Option Addr) (cap : Nat) (P : List ByteArray) (hA : LAt w a P w.heap.size) (hm : P.length ≤ 1048576) (hz : ∀ p ∈ P, p.size ≤ 1048576) :
    Calls Tryd.prog 17 #[.slice a P.length cap] w fun e w' => e = .returned (.tuple #[.string (chunkS P).1, .bool (chunkS P).2]) ∧ Below w.heap.size w w' := by
  obtain ⟨R, hR⟩ : ∃ R, chunkS P = R := ⟨_, rfl⟩
  rw [hR]
  have HR : Hid (chunkS P = R) := hR
  have HA : Hid (LAt w a P w.heap.size) := hA
  have HZ : Hid (∀ p ∈ P, p.size ≤ 1048576) := hz
  clear hR hA hz
  go_enter Tryd.func17, Tryd.ntmps17
  go_wp2_with fail
  go_loopw [4, 5] (fun s i wr => Box (∃ k : Nat, k ≤ P.length ∧ k ≤ 10 ∧ i = .int .i64 k ∧ s = .string ⟨(partsT (bysL (P.take k))).toArray⟩ ∧ Hid (∀ q (hq : q < P.length), q < k → 1 ≤ P[q].size ∧ P[q].size ≤ 99) ∧ Below w.heap.size w wr))
    (fun _ i _ => P.length - (intOf i).toNat)
  case atStart => exact ⟨⟨0, by omega, by omega, rfl, by simp [bysL, partsT], fun q _ h => by omega, Below.refl _ _⟩⟩
  case round =>
    obtain ⟨k, hk, hk10, rfl, rfl, HQ, hbw⟩ := hrel.out
    clear hrel
    have HPL : Hid ((partsT (bysL (P.take k))).length ≤ 105 * k) := by
      show _ ≤ _
      have h := partsT_len (P := bysL (P.take k)) (by
        intro p hp
        unfold bysL at hp
        obtain ⟨x, hx, rfl⟩ := List.mem_map.1 hp
        obtain ⟨j, hj, rfl⟩ := List.getElem_of_mem hx
        rw [List.length_take] at hj
        have := HQ.out j (by omega) (by omega)
        rw [List.getElem_take, ← Lib.size_eq]
        omega)
      have e : (bysL (P.take k)).length = k := by unfold bysL; rw [List.length_map, List.length_take]; omega
      rw [e] at h
      exact h
    by_cases hlt : k < P.length
    · obtain ⟨g, off, ha, hg, hc⟩ := HA.out k hlt
      subst ha
      have hc2 : wr.cell? ⟨g, off + k, none⟩ = some (.string P[k]) := (hbw.cell (p := ⟨g, off + k, none⟩) hg).trans hc
      obtain ⟨p, hp⟩ : ∃ p, P[k] = p := ⟨_, rfl⟩
      rw [hp] at hc2
      have hpz : p.size ≤ 1048576 := by rw [← hp]; exact HZ.out _ (List.getElem_mem hlt)
      have hi : (k : Int) < (P.length : Int) := by omega
      have hi0 : (0 : Int) ≤ (k : Int) := by omega
      have cI := in_any (p.size : Int) 1 99 wr
      clear hc
      by_cases h99 : 1 ≤ p.size ∧ p.size ≤ 99
      case neg =>
        rw [show inN (p.size : Int) 1 99 = false from decide_eq_false (by omega)] at cI
        have HE : Hid (R = (⟨#[]⟩, false)) := by show _ = _; rw [← HR.out]; exact partsOk_no (.inr ⟨k, hlt, by rw [hp]; exact h99⟩)
        clear h99 hp
        go_wp2_with fail
        refine cI.mono ?_
        rintro e wv ⟨rfl, hwv⟩
        rw [hwv]
        clear hwv wv cI
        go_wp2_with fail
        go_ret2
        exact ⟨by rw [HE.out]; rfl, hbw⟩
      rw [show inN (p.size : Int) 1 99 = true from decide_eq_true (by omega)] at cI
      by_cases h10 : k < 10
      case neg =>
        have HE : Hid (R = (⟨#[]⟩, false)) := by show _ = _; rw [← HR.out]; exact partsOk_no (.inl (by omega))
        have hg10 : (10 : Int) ≤ (k : Int) := by omega
        clear h99 hp
        go_wp2_with fail
        refine cI.mono ?_
        rintro e wv ⟨rfl, hwv⟩
        rw [hwv]
        clear hwv wv cI
        go_wp2_with fail
        go_ret2
        exact ⟨by rw [HE.out]; rfl, hbw⟩
      have hg10 : ¬ (10 : Int) ≤ (k : Int) := by omega
      have hl10 : (k : Int) < 10 := by omega
      have HN : Hid (∀ q (hq : q < P.length), q < k + 1 → 1 ≤ P[q].size ∧ P[q].size ≤ 99) := by
        intro q hq hqk
        by_cases e : q = k
        · subst e; rw [hp]; exact h99
        · exact HQ.out q hq (by omega)
      obtain ⟨S, hS⟩ : ∃ S : ByteArray, (⟨(partsT (bysL (P.take k))).toArray⟩ : ByteArray) = S := ⟨_, rfl⟩
      have hSz : S.size ≤ 1050 := by rw [← hS]; show (partsT (bysL (P.take k))).toArray.size ≤ _; have := HPL.out; simp; omega
      obtain ⟨F, hF⟩ : ∃ F : ByteArray, (⟨(figsL p.size).toArray⟩ : ByteArray) = F := ⟨_, rfl⟩
      have hFz : F.size ≤ 2 := by rw [← hF]; show (figsL p.size).toArray.size ≤ _; have := figsL_len p.size; simpa using this
      have HNX : Hid ((((S ++ F) ++ ⟨#[13, 10]⟩) ++ p) ++ ⟨#[13, 10]⟩ = (⟨(partsT (bysL (P.take (k + 1)))).toArray⟩ : ByteArray)) := by
        show _ = _
        rw [bysL_take hlt, partsT_snoc, hp, ← hS, ← hF]
        rw [← Lib.mk_data ((((⟨(partsT (bysL (P.take k))).toArray⟩ ++ ⟨(figsL p.size).toArray⟩) ++ ⟨#[13, 10]⟩) ++ p) ++ ⟨#[13, 10]⟩ : ByteArray)]
        congr 1
        simp [partT, endL]
      have cF : ∀ d os, Calls Tryd.prog 43 #[.int .i64 (p.size : Int)] (grow (redrawn wr d) os) fun e w'' => e = .returned (.string F) ∧ ∃ x : Regrown, w'' = grow (redrawn wr x.d) x.os := fun d os => Calls.regrown_of (by rw [← hF]; exact specFigures_any p.size (by omega) _)
      have a1 := fun w => run_string_add_sum (P := Tryd.prog) (w := w) S F (by omega)
      have a2 := fun w => run_string_add_sum (P := Tryd.prog) (w := w) (S ++ F) ⟨#[13, 10]⟩ (by rw [ByteArray.size_append]; show _ + _ + 2 ≤ _; omega)
      have a3 := fun w => run_string_add_sum (P := Tryd.prog) (w := w) ((S ++ F) ++ ⟨#[13, 10]⟩) p (by rw [ByteArray.size_append, ByteArray.size_append]; show _ + _ + 2 + _ ≤ _; omega)
      have a4 := fun w => run_string_add_sum (P := Tryd.prog) (w := w) (((S ++ F) ++ ⟨#[13, 10]⟩) ++ p) ⟨#[13, 10]⟩ (by rw [ByteArray.size_append, ByteArray.size_append, ByteArray.size_append]; show _ + _ + 2 + _ + 2 ≤ _; omega)
      rw [hS]
      generalize (((S ++ F) ++ ⟨#[13, 10]⟩) ++ p) ++ ⟨#[13, 10]⟩ = T4 at a4 HNX
      generalize ((S ++ F) ++ ⟨#[13, 10]⟩) ++ p = T3 at a3 a4
      generalize (S ++ F) ++ ⟨#[13, 10]⟩ = T2 at a2 a3
      generalize S ++ F = T1 at a1 a2
      have zc := cell_regrown hc2
      clear hS hF hFz hSz h99 hp HQ HPL
      go_wp2_with fail
      refine cI.mono ?_
      rintro e wv ⟨rfl, hwv⟩
      rw [hwv]
      clear hwv wv cI
      go_wp2_with fail
      clear hc2
      refine wp_region_quiet_below (by kernel_rfl) (by kernel_rfl) ?_
      repeat (first | go_big_quiet_step (first | with_reducible exact cF _ _) | quiet_step (first | with_reducible exact cF _ _))
      refine wpQuiet_nil ?_
      intro _ hw'
      obtain ⟨⟨dq, osq⟩, hw''⟩ := hw'
      subst hw''
      have hbq : Below w.heap.size w (grow (redrawn wr dq) osq) := hbw.trans ((below_regrown wr dq osq).mono hbw.size)
      generalize grow (redrawn wr dq) osq = wq at hbq ⊢
      go_wp2_with fail
      go_roundw
      case rel =>
        try ((repeat apply Exists.intro); refine ⟨?_, rfl⟩)
        exact ⟨⟨k + 1, by omega, by omega, by go_num, by rw [HNX.out], HN, hbq⟩⟩
      case measure => simp [intOf]; omega
    · have hi : ¬ (k : Int) < (P.length : Int) := by omega
      have hke : k = P.length := by omega
      obtain ⟨S, hS⟩ : ∃ S : ByteArray, (⟨(partsT (bysL (P.take k))).toArray⟩ : ByteArray) = S := ⟨_, rfl⟩
      have hSz : S.size ≤ 1050 := by rw [← hS]; show (partsT (bysL (P.take k))).toArray.size ≤ _; have := HPL.out; simp; omega
      have HE : Hid (R = (S ++ ⟨#[48, 13, 10, 13, 10]⟩, true)) := by
        show _ = _
        rw [← HR.out, partsOk_yes (by omega) (fun q hq => HQ.out q hq (by omega)), ← hS, hke, List.take_length]
        congr 1
      rw [hS]
      have a1 := fun w => run_string_add_sum (P := Tryd.prog) (w := w) S ⟨#[48, 13, 10, 13, 10]⟩ (by show _ + 5 ≤ _; omega)
      generalize S ++ ⟨#[48, 13, 10, 13, 10]⟩ = T at a1 HE
      clear hS hke
      go_wp2_with fail
      go_ret2
      exact ⟨by rw [HE.out]; rfl, hbw⟩
end Go.Proofs.YtnnaphfeeobelarDoor
