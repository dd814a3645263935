/- slices.DeleteFunc of texts: all that are the key go. The program's predicate is a closure that reads the key. -/
import Derived.Test.YtbcjkinalghokatOwnCut
import Derived.Test.YtbcjkinalghokatPolSpec
import Derived.Lib.SliceRun
import Derived.Shelf.Abstract
import Derived.Deep.RegionLaw
namespace Go.Proofs.Ytbcjkinalghokat
open Go.RowKit Go.Sort

theorem Try.zeroStr : ∀ w, (zeroValue 9).run Try.prog w = .ok (.string ⟨#[]⟩) w := by intro w; kernel_rfl
theorem dropped_any (W : World) (T : Nat) (x key : ByteArray) (h : W.cell? ⟨T, 0, none⟩ = some (.string key)) :
    Calls Try.prog 42 #[.string x, .pointer (some ⟨T, 0, none⟩)] W fun e w' => e = .returned (.bool (decide (x = key))) ∧ w' = W := by
  by_cases hx : x = key
  · subst hx
    go_enter Try.func42, Try.ntmps42
    go_wp2
    go_ret
    exact ⟨by simp, rfl⟩
  · have hn := bytes_nk hx
    go_enter Try.func42, Try.ntmps42
    go_wp2
    go_ret
    exact ⟨by simp [hx], rfl⟩
theorem dropped_eg : ∀ args w, (callFunc 42 args).run Try.prog w = .ok (.enter 42 args) w := enters_of Try.func42 (by kernel_rfl) rfl
set_option maxHeartbeats 2000000 in
theorem indexF_any (w : World) (a : Option Addr) (c T : Nat) (L : List ByteArray) (s : ByteArray) (hA : LAt w a L w.heap.size) (hm : L.length ≤ 10000000) (hT : w.cell? ⟨T, 0, none⟩ = some (.string s)) :
    Calls Try.prog 58 #[.slice a L.length c, .func (.func 42) #[] #[.pointer (some ⟨T, 0, none⟩)]] w fun e w' => ∃ r : Int, e = .returned (.int .i64 r) ∧ w' = w ∧ ((r = -1 ∧ inL L s = false) ∨ ∃ k : Nat, ∃ hk : k < L.length, r = k ∧ L[k] = s ∧ inL (L.take k) s = false) := by
  have eg := dropped_eg
  go_enter Try.func58, Try.ntmps58
  go_wp2
  go_loopw [8] (fun i wr => Box (∃ (k : Nat), k ≤ L.length ∧ i = .int .i64 k ∧ Hid (inL (L.take k) s = false) ∧ w = wr))
    (fun i _ => L.length - (intOf i).toNat)
  case atStart => exact ⟨⟨0, by omega, rfl, rfl, rfl⟩⟩
  case round =>
    obtain ⟨k, hk, rfl, HN, rfl⟩ := hrel.out
    by_cases hlt : k < L.length
    · obtain ⟨g, off, rfl, hg, hc⟩ := hA k hlt
      have hi1 : (0 : Int) ≤ (k : Int) := by omega
      have hi2 : (k : Int) < (L.length : Int) := by omega
      have hcall := dropped_any w T L[k] s hT
      by_cases hz : L[k] = s
      · have HT : Hid (∃ k' : Nat, ∃ hk : k' < L.length, (k : Int) = k' ∧ L[k'] = s ∧ inL (L.take k') s = false) := ⟨k, hlt, rfl, hz, HN.out⟩
        rw [decide_eq_true hz] at hcall
        obtain ⟨z, hzz⟩ : ∃ z, L[k] = z := ⟨_, rfl⟩
        rw [hzz] at hc hcall
        clear hrel hz hzz hA
        go_wp2_with (go_at_fn 42; refine hcall.mono ?_; rintro e w' ⟨rfl, rfl⟩)
        go_ret
        exact ⟨_, rfl, rfl, .inr HT.out⟩
      · have HT : Hid (inL (L.take (k + 1)) s = false) := inL_take hlt HN.out hz
        rw [decide_eq_false hz] at hcall
        obtain ⟨z, hzz⟩ : ∃ z, L[k] = z := ⟨_, rfl⟩
        rw [hzz] at hc hcall
        clear hrel hz hzz hA
        go_wp2_with (go_at_fn 42; refine hcall.mono ?_; rintro e w' ⟨rfl, rfl⟩)
        go_roundw
        case rel =>
          try ((repeat apply Exists.intro); refine ⟨?_, rfl⟩)
          exact ⟨⟨k + 1, by omega, by go_num, HT, by first | rfl | trivial⟩⟩
        case measure => simp [intOf]; omega
    · go_wp2
      go_ret
      have hke : k = L.length := by omega
      have := HN.out
      rw [hke, List.take_length] at this
      exact ⟨_, rfl, rfl, .inl ⟨rfl, this⟩⟩
theorem without_step {L : List ByteArray} {key : ByteArray} {k : Nat} (hk : k < L.length) (h : inL (L.take k) key = false) (hz : L[k] = key) : without (L.take (k + 1)) key = L.take k := by
  rw [without_take hk, if_pos hz, List.append_nil]
  exact without_none (inL_false.1 h)
theorem strs_getD {M : List ByteArray} {j : Nat} (h : j < M.length) : (strs M)[j]'(by rw [strs_length]; exact h) = .string M[j] := strs_at h
set_option maxRecDepth 100000 in
set_option maxHeartbeats 4000000 in
theorem deleteF_row (w : World) (base G c T : Nat) (L : List ByteArray) (key : ByteArray) (ho : OwnV w base 9 (.slice (some ⟨G, 0, none⟩) L.length c) (strs L)) (hm : L.length ≤ 1048576) (hT : T < base) (hTb : T < w.heap.size) (hc : w.cell? ⟨T, 0, none⟩ = some (.string key)) :
    Calls Try.prog 43 #[.slice (some ⟨G, 0, none⟩) L.length c, .func (.func 42) #[] #[.pointer (some ⟨T, 0, none⟩)]] w fun e w' => ∃ n c', e = .returned (.slice (some ⟨G, 0, none⟩) n c') ∧ OwnV w' base 9 (.slice (some ⟨G, 0, none⟩) n c') (strs (without L key)) ∧ w.grownBy w' (some G) := by
  have eg := dropped_eg
  obtain ⟨a0, c0, e0, hL⟩ := ho.strsAt
  simp only [Value.slice.injEq, true_and] at e0
  obtain ⟨rfl, rfl⟩ := e0
  have c1 := indexF_any w (some ⟨G, 0, none⟩) c T L key hL (by omega) hc
  obtain ⟨hcp, hcm⟩ := ho.capOf
  have HT : Hid (∀ W, w.grownBy W (some G) → base ≤ G → W.cell? ⟨T, 0, none⟩ = some (.string key)) := fun W h hG => by
    rw [← hc]
    have hh := h.block T hTb (by simp; omega)
    simp only [World.cell?, hh]
  go_enter Try.func43, Try.ntmps43
  go_wp2_with fail
  refine c1.mono ?_
  rintro e w' ⟨r, rfl, hw', h⟩
  rw [hw']
  clear c1 hw'
  rcases h with ⟨rfl, h⟩ | ⟨k0, hk0, rfl, h1, h2⟩
  · have HW : Hid (without L key = L) := without_none (inL_false.1 h)
    clear h
    go_wp2_with fail
    go_ret
    exact ⟨_, _, rfl, by rw [HW.out]; exact ho, grownBy_refl _ _⟩
  · have hG : base ≤ G := (ho.cell (j := k0) (by rw [strs_length]; exact hk0)).2.2.1
    have hi0 : ¬ ((k0 : Int) = -1) := by omega
    have HS : Hid (without (L.take (k0 + 1)) key = L.take k0) := without_step hk0 h2 h1
    have hk0b : k0 ≤ 1048576 := by omega
    have HLK : Hid (k0 < L.length) := hk0
    clear h1 h2 hk0 hL hc
    go_wp2_with fail
    go_loopw [5, 6] (fun i j wr => Box (∃ (k n : Nat) (M : List ByteArray), k ≤ L.length ∧ j = .int .i64 k ∧ i = .int .i64 n ∧ n < k ∧ Hid (n = (without (L.take k) key).length) ∧ Hid (M.length = L.length) ∧ Hid (M.take n = without (L.take k) key) ∧ Hid (M.drop k = L.drop k) ∧ Hid (OwnV wr base 9 (.slice (some ⟨G, 0, none⟩) L.length c) (strs M)) ∧ Hid (w.grownBy wr (some G))))
      (fun _ j _ => L.length - (intOf j).toNat)
    case atStart => exact ⟨⟨k0 + 1, k0, L, HLK.out, by go_num, rfl, by omega, by show _ = _; rw [HS.out, List.length_take]; have := HLK.out; omega, rfl, by show _ = _; rw [HS.out], rfl, ho, grownBy_refl _ _⟩⟩
    case round =>
      obtain ⟨k, n, M, hk, rfl, rfl, hnk, HN, HML, HMT, HMD, HO, HG⟩ := hrel.out
      clear hrel ho HS
      by_cases hlt : k < L.length
      · have HMk : Hid (∃ h : k < M.length, M[k] = L[k]) := by
          have hx : k < M.length := by rw [HML.out]; exact hlt
          refine ⟨hx, ?_⟩
          have := congrArg (fun l => l[0]?) HMD.out
          simp only [List.getElem?_drop, Nat.add_zero] at this
          rw [List.getElem?_eq_getElem hx, List.getElem?_eq_getElem hlt] at this
          exact Option.some.inj this
        obtain ⟨z, hzz⟩ : ∃ z, L[k] = z := ⟨_, rfl⟩
        have HZ : Hid (without (L.take (k + 1)) key = without (L.take k) key ++ if z = key then [] else [z]) := by show _ = _; rw [without_take hlt, hzz]
        have hck : wr.cell? ⟨G, k, none⟩ = some (.string z) := by
          obtain ⟨h1, h2⟩ := HMk.out
          have := (HO.out.cell (j := k) (by rw [strs_length]; exact h1)).1
          rw [strs_getD h1, h2, hzz] at this
          exact this
        have hcn : ∃ y, wr.cell? ⟨G, n, none⟩ = some y := ⟨_, (HO.out.cell (j := n) (by rw [strs_length, HML.out]; omega)).1⟩
        obtain ⟨y, hcn⟩ := hcn
        have hfn : wr.frozen? ⟨G, n, none⟩ = false := (HO.out.cell (j := n) (by rw [strs_length, HML.out]; omega)).2.1
        have hcall := dropped_any wr T z key (HT.out wr HG.out hG)
        have hi1 : (0 : Int) ≤ (k : Int) := by omega
        have hi2 : (k : Int) < (L.length : Int) := by omega
        have hi3 : (0 : Int) ≤ (n : Int) := by omega
        have hi4 : (n : Int) < (L.length : Int) := by omega
        by_cases hz : z = key
        · rw [if_pos hz, List.append_nil] at HZ
          rw [decide_eq_true hz] at hcall
          clear hz hcn hfn hzz
          go_wp2_with (go_at_fn 42; refine hcall.mono ?_; rintro e w' ⟨rfl, rfl⟩)
          go_roundw
          case rel =>
            try ((repeat apply Exists.intro); refine ⟨?_, rfl⟩)
            refine ⟨⟨k + 1, n, M, by omega, by go_num, rfl, by omega, by show _ = _; rw [HZ.out]; exact HN.out, HML, by show _ = _; rw [HZ.out]; exact HMT.out, ?_, HO, HG⟩⟩
            show M.drop (k + 1) = L.drop (k + 1)
            rw [← List.drop_drop, HMD.out, List.drop_drop]
          case measure => simp [intOf]; omega
        · rw [if_neg hz] at HZ
          rw [decide_eq_false hz] at hcall
          have HST : Hid _ := HO.out.stored (by rw [strs_length, HML.out]) n (.string z)
          clear hz hzz
          go_wp2_with (go_at_fn 42; refine hcall.mono ?_; rintro e w' ⟨rfl, rfl⟩)
          go_roundw
          case rel =>
            try ((repeat apply Exists.intro); refine ⟨?_, rfl⟩)
            have hML := HML.out
            have hMT := HMT.out
            have hN := HN.out
            refine ⟨⟨k + 1, n + 1, M.set n z, by omega, by go_num, by go_num, by omega, ?_, by show _ = _; rw [List.length_set]; exact hML, ?_, ?_, ?_, grownBy_trans HG.out HST.out.2⟩⟩
            · show n + 1 = _
              rw [HZ.out, List.length_append, ← hN]
              rfl
            · show (M.set n z).take (n + 1) = _
              rw [HZ.out, ← hMT, List.take_succ_eq_append_getElem (by rw [List.length_set]; omega), List.getElem_set_self, List.take_set_of_le (Nat.le_refl _)]
            · show (M.set n z).drop (k + 1) = L.drop (k + 1)
              rw [List.drop_set_of_lt (by omega), ← List.drop_drop, HMD.out, List.drop_drop]
            · have h := HST.out.1
              rw [show (strs M).set n (.string z) = strs (M.set n z) by unfold strs; rw [List.map_set]] at h
              exact h
          case measure => simp [intOf]; omega
      · have hke : k = L.length := by omega
        subst hke
        have hML := HML.out
        have hMT := HMT.out
        rw [List.take_length] at hMT
        have hnl : n < L.length := hnk
        have hcl : ∀ ty cc, (Builtin.clear_ #[22] ty #[.slice (some ⟨G, n, none⟩) (L.length - n) cc]).run Try.prog wr = .ok (.tuple #[]) (wr.setCells G n (List.replicate (L.length - n) (.string ⟨#[]⟩))) := fun ty cc =>
          Lib.run_clear_slice wr 22 9 ty (.string ⟨#[]⟩) Try.underlying22 Try.zeroStr rfl rfl G n (L.length - n) cc (by omega)
            (fun j hj => by rw [(HO.out.cell (j := n + j) (by rw [strs_length, hML]; omega)).1]; rfl) (fun j hj => (HO.out.cell (j := n + j) (by rw [strs_length, hML]; omega)).2.1)
        obtain ⟨W2, hW2⟩ : ∃ W2, wr.setCells G n (List.replicate (L.length - n) (.string ⟨#[]⟩)) = W2 := ⟨_, rfl⟩
        rw [hW2] at hcl
        have HF : Hid (OwnV W2 base 9 (.slice (some ⟨G, 0, none⟩) n c) (strs (without L key)) ∧ w.grownBy W2 (some G)) := by
          obtain ⟨ys, e1, e2, _, _, e5, e6⟩ := OwnV.storedAll (List.replicate (L.length - n) (.string ⟨#[]⟩)) n wr (strs M) HO.out (by rw [strs_length, hML])
          rw [hW2] at e5 e6
          have h := e5.cut (by rw [e1, strs_length, hML]) n (by omega)
          rw [take_same e2, show (strs M).take n = strs (M.take n) by unfold strs; rw [List.map_take], hMT] at h
          exact ⟨h, grownBy_trans HG.out e6⟩
        have hi1 : (0 : Int) ≤ (n : Int) := by omega
        have hi2 : (n : Int) ≤ (L.length : Int) := by omega
        have hi3 : (n : Int) ≤ (c : Int) := by omega
        have hi4 : (L.length : Int) ≤ (c : Int) := by omega
        have hd1 : ¬ (c = n) := by omega
        clear hML hMT HN HML HMT HMD HO HG HT hW2
        go_wp2
        go_ret
        exact ⟨_, _, rfl, HF.out.1, HF.out.2⟩
/-- All that are the key go. -/
theorem deleteF_any (w : World) (base T : Nat) (v : Value) (L : List ByteArray) (key : ByteArray) (ho : OwnV w base 9 v (strs L)) (hm : L.length ≤ 1048576) (hT : T < base) (hTb : T < w.heap.size) (hc : w.cell? ⟨T, 0, none⟩ = some (.string key)) :
    Calls Try.prog 43 #[v, .func (.func 42) #[] #[.pointer (some ⟨T, 0, none⟩)]] w fun e w' => ∃ v', e = .returned v' ∧ OwnV w' base 9 v' (strs (without L key)) ∧ v'.ownBlock = v.ownBlock ∧ w.grownBy w' v.ownBlock := by
  rcases ho.2 with ⟨rfl, h0⟩ | ⟨G, c, cur, rfl, _⟩
  · rw [strs_length] at h0
    have hl : L = [] := List.length_eq_zero_iff.1 h0
    subst hl
    have c1 := indexF_any w none 0 T [] key (fun j hj => by simp at hj) (by simp) hc
    go_enter Try.func43, Try.ntmps43
    go_wp2_with fail
    refine c1.mono ?_
    rintro e w' ⟨r, rfl, rfl, h⟩
    clear c1
    rcases h with ⟨rfl, h⟩ | ⟨k0, hk0, _⟩
    · go_wp2_with fail
      go_ret
      exact ⟨_, rfl, ho, rfl, grownBy_refl _ _⟩
    · simp at hk0
  · rw [strs_length] at ho ⊢
    refine (deleteF_row w base G c T L key ho hm hT hTb hc).mono ?_
    rintro e w' ⟨n, c', rfl, h1, h2⟩
    exact ⟨_, rfl, h1, rfl, h2⟩
end Go.Proofs.Ytbcjkinalghokat
