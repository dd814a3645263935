/- A folder made of files: the program's. -/
import Derived.Test.YtghladeamdhlhalDoImpl2
namespace Go.Proofs.Ytghladeamdhlhal
open Go.RowKit Go.Sort

theorem putL_last {L : List Fil} {f : Fil} (h : ∀ g ∈ L, ltS g.nm f.nm = true) : putL L f = L ++ [f] := by
  have h1 : L.filter (fun g => ltS g.nm f.nm) = L := List.filter_eq_self.2 h
  have h2 : L.filter (fun g => !(ltS g.nm f.nm || eqS g.nm f.nm)) = [] := by
    rw [List.filter_eq_nil_iff]
    intro g hg
    simp [h g hg]
  unfold putL
  rw [h1, h2]
  simp
theorem rise_take {L : List Fil} (hr : Rise L) {k : Nat} (hk : k < L.length) : putL (L.take k) L[k] = L.take (k + 1) := by
  rw [putL_last, List.take_succ_eq_append_getElem hk]
  intro g hg
  obtain ⟨j, hj, rfl⟩ := List.getElem_of_mem hg
  rw [List.length_take] at hj
  rw [List.getElem_take]
  exact (List.pairwise_iff_getElem.1 hr) j k (by omega) hk (by omega)

theorem Fo.mono {w : World} {b base base' : Nat} {M : List (Fil × Nat)} (h : Fo w b base M) (hb : base' ≤ base) : Fo w b base' M :=
  ⟨h.own, fun p hp => ⟨Nat.le_trans hb (h.blk p hp).1, (h.blk p hp).2⟩, h.dis, Nat.le_trans hb h.le⟩

theorem run_makeMapN (n : Int) (w : World) : (Instr.makeMap 68 (some (.int .i64 n))).run Try.prog w = .ok (.map (some w.heap.size)) (w.alloc (.map #[] 0)) := by
  simp [Instr.makeMap, go_sem]

set_option maxRecDepth 100000 in
set_option maxHeartbeats 2000000 in
theorem folderOf_any (w : World) (a : Option Addr) (cap : Nat) (L : List Fil) (hL : FAt w a L w.heap.size) (hd : dOk L = true) :
    Calls Try.prog 40 #[.agg #[.slice a L.length cap]] w fun e w' => e = .returned (.map (some (w.heap.size + 1))) ∧ ∃ M, Fo w' (w.heap.size + 1) w.heap.size M ∧ M.map (·.1) = L ∧ Below w.heap.size w w' := by
  have hmm := run_makeMapN
  have hl30 := dOk_len hd
  have HR : Hid (Rise L) := dOk_rise hd
  have HO : Hid (∀ k (h : k < L.length), fOk L[k] = true) := fun k h => dOk_at hd h
  go_enter Try.func40, Try.ntmps40
  go_wp2
  have hF0 := Fo.made (w.alloc (.cells #[.slice a L.length cap] 31))
  rw [World.size_alloc] at hF0
  have hB0 : Below w.heap.size w ((w.alloc (.cells #[.slice a L.length cap] 31)).alloc (.map #[] 0)) := ((Below.refl _ w).alloc (Nat.le_refl _) _).alloc (by simp) _
  have HL : Hid (∀ wr, Below w.heap.size w wr → FAt wr a L w.heap.size) := fun wr hb => hL.below hb (Nat.le_refl _)
  clear hL hd hmm
  go_loopw [13] (fun i wr => Box (∃ (k : Nat) (M : List (Fil × Nat)), i = .int .i64 k ∧ k ≤ L.length ∧ Hid (M.map (·.1) = L.take k) ∧ Fo wr (w.heap.size + 1) w.heap.size M ∧ Below w.heap.size w wr))
    (fun i _ => L.length - (intOf i).toNat)
  case atStart => exact ⟨⟨0, [], rfl, by omega, by simp [Hid], hF0.mono (by omega), hB0⟩⟩
  case round =>
    obtain ⟨k, M, rfl, hk, HM, hF, hbel⟩ := hrel.out
    clear hrel hF0 hB0
    have hsz := hbel.size
    by_cases hlt : k < L.length
    · obtain ⟨g, off, rfl, hg, hc0, hc1, hc2⟩ := HL.out wr hbel k hlt
      have hfo := HO.out k hlt
      have HP : Hid (putL (L.take k) L[k] = L.take (k + 1)) := rise_take HR.out hlt
      obtain ⟨f, hf⟩ : ∃ f, L[k] = f := ⟨_, rfl⟩
      rw [hf] at hc0 hc1 hc2 hfo HP
      clear hf
      have hi1 : (0 : Int) ≤ (k : Int) := by omega
      have hi2 : (k : Int) < (L.length : Int) := by omega
      have hns := (fOk_nm hfo).2
      have hML : M.length ≤ 30 := by
        have := congrArg List.length HM.out
        rw [List.length_map, List.length_take] at this
        omega
      have hnew := heap_alloc_new wr (.cells #[.string f.nm, .string f.tx, .int .i64 f.kp] 63)
      have hb1 := (Below.refl wr.heap.size wr).alloc (Nat.le_refl _) (.cells #[.string f.nm, .string f.tx, .int .i64 f.kp] 63)
      have hF1 := hF.below hb1
      obtain ⟨w2, hrun, hF2, hgr⟩ := hF1.put (f := f) (g := wr.heap.size) hnew hsz (fun p hp => by have := (hF.blk p hp).2.lt; omega) (by unfold maxLen; omega) (by unfold maxLen; omega)
      have HF2 : Hid (Fo w2 (w.heap.size + 1) w.heap.size (putM M (f, wr.heap.size))) := hF2
      have HB : Hid (Below w.heap.size w w2) := hbel.trans ((hb1.mono hsz).trans (below_grown hgr (by omega) (by simp; omega)))
      have HM2 : Hid ((putM M (f, wr.heap.size)).map (·.1) = L.take (k + 1)) := by show _ = _; rw [putM_fst, HM.out]; exact HP.out
      clear hF hF1 hF2 hgr hnew hb1 hfo HM HP hML
      go_wp2
      go_roundw
      case rel =>
        try ((repeat apply Exists.intro); refine ⟨?_, rfl⟩)
        exact ⟨⟨k + 1, _, by go_num, by omega, HM2, HF2.out, HB.out⟩⟩
      case measure => simp [intOf]; omega
    · go_wp2
      go_ret
      refine ⟨rfl, M, hF, ?_, hbel⟩
      rw [HM.out, List.take_of_length_le (by omega)]
end Go.Proofs.Ytghladeamdhlhal
