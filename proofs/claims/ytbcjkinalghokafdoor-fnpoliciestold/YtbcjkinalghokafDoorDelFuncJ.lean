/- Texts that stand in one: DelFunc, PolDropImpl. -/
import Derived.Test.YtbcjkinalghokafDoorPolKitJ
import Derived.Test.YtbcjkinalghokafDoorSkNewSpecJ
import Derived.Lib.SliceRun
import Derived.Shelf.Abstract
import Derived.Deep.RegionLaw
import Derived.Test.YtbcjkinalghokafDoorPolCopyImplJ
import Derived.Test.YtbcjkinalghokafDoorPolHoldJ
namespace Go.Proofs.YtbcjkinalghokafDoor
open Go.RowKit Go.Sort

theorem Tryd.zeroStr : ∀ w, (zeroValue 9).run Tryd.prog w = .ok (.string ⟨#[]⟩) w := by intro w; kernel_rfl
theorem dropped_any (W : World) (T : Nat) (x key : ByteArray) (h : W.cell? ⟨T, 0, none⟩ = some (.string key)) :
    Calls Tryd.prog 47 #[.string x, .pointer (some ⟨T, 0, none⟩)] W fun e w' => e = .returned (.bool (decide (x = key))) ∧ w' = W := by
  by_cases hx : x = key
  · subst hx
    go_enter Tryd.func47, Tryd.ntmps47
    go_wp2
    go_ret
    exact ⟨by simp, rfl⟩
  · have hn := bytes_nk hx
    go_enter Tryd.func47, Tryd.ntmps47
    go_wp2
    go_ret
    exact ⟨by simp [hx], rfl⟩
theorem dropped_eg : ∀ args w, (callFunc 47 args).run Tryd.prog w = .ok (.enter 47 args) w := enters_of Tryd.func47 (by kernel_rfl) rfl
set_option maxHeartbeats 2000000 in
theorem indexF_any (w : World) (a : Option Addr) (c T : Nat) (L : List ByteArray) (s : ByteArray) (hA : LAt w a L w.heap.size) (hm : L.length ≤ 10000000) (hT : w.cell? ⟨T, 0, none⟩ = some (.string s)) :
    Calls Tryd.prog 71 #[.slice a L.length c, .func (.func 47) #[] #[.pointer (some ⟨T, 0, none⟩)]] w fun e w' => ∃ r : Int, e = .returned (.int .i64 r) ∧ w' = w ∧ ((r = -1 ∧ inL L s = false) ∨ ∃ k : Nat, ∃ hk : k < L.length, r = k ∧ L[k] = s ∧ inL (L.take k) s = false) := by
  have eg := dropped_eg
  go_enter Tryd.func71, Tryd.ntmps71
  go_wp2
  go_loopw [8] (fun i wr => Box (∃ (k : Nat), k ≤ L.length ∧ i = .int .i64 k ∧ Hid (inL (L.take k) s = false) ∧ w = wr))
    (fun i _ => L.length - (intOf i).toNat)
  case atStart => exact ⟨⟨0, by omega, rfl, rfl, rfl⟩⟩
  case round =>
    obtain ⟨k, hk, rfl, HN, rfl⟩ := hrel.out
    by_cases hlt : k < L.length
    · obtain ⟨g, off, rfl, hg, hc⟩ := hA k hlt
      have hi1 : (0 : Int) ≤ (k : Int) := by omega
      have hi2 : (k : Int) < (L.length : Int) := by omega
      have hcall := dropped_any w T L[k] s hT
      by_cases hz : L[k] = s
      · have HT : Hid (∃ k' : Nat, ∃ hk : k' < L.length, (k : Int) = k' ∧ L[k'] = s ∧ inL (L.take k') s = false) := ⟨k, hlt, rfl, hz, HN.out⟩
        rw [decide_eq_true hz] at hcall
        obtain ⟨z, hzz⟩ : ∃ z, L[k] = z := ⟨_, rfl⟩
        rw [hzz] at hc hcall
        clear hrel hz hzz hA
        go_wp2_with (go_at_fn 47; refine hcall.mono ?_; rintro e w' ⟨rfl, rfl⟩)
        go_ret
        exact ⟨_, rfl, rfl, .inr HT.out⟩
      · have HT : Hid (inL (L.take (k + 1)) s = false) := inL_take hlt HN.out hz
        rw [decide_eq_false hz] at hcall
        obtain ⟨z, hzz⟩ : ∃ z, L[k] = z := ⟨_, rfl⟩
        rw [hzz] at hc hcall
        clear hrel hz hzz hA
        go_wp2_with (go_at_fn 47; refine hcall.mono ?_; rintro e w' ⟨rfl, rfl⟩)
        go_roundw
        case rel =>
          try ((repeat apply Exists.intro); refine ⟨?_, rfl⟩)
          exact ⟨⟨k + 1, by omega, by go_num, HT, by first | rfl | trivial⟩⟩
        case measure => simp [intOf]; omega
    · go_wp2
      go_ret
      have hke : k = L.length := by omega
      have := HN.out
      rw [hke, List.take_length] at this
      exact ⟨_, rfl, rfl, .inl ⟨rfl, this⟩⟩
theorem without_step {L : List ByteArray} {key : ByteArray} {k : Nat} (hk : k < L.length) (h : inL (L.take k) key = false) (hz : L[k] = key) : without (L.take (k + 1)) key = L.take k := by
  rw [without_take hk, if_pos hz, List.append_nil]
  exact without_none (inL_false.1 h)
theorem strs_getD {M : List ByteArray} {j : Nat} (h : j < M.length) : (strs M)[j]'(by rw [strs_length]; exact h) = .string M[j] := strs_at h
set_option maxRecDepth 100000 in
set_option maxHeartbeats 4000000 in
theorem deleteF_row (w : World) (base G c T : Nat) (L : List ByteArray) (key : ByteArray) (ho : OwnV w base 9 (.slice (some ⟨G, 0, none⟩) L.length c) (strs L)) (hm : L.length ≤ 1048576) (hT : T < base) (hTb : T < w.heap.size) (hc : w.cell? ⟨T, 0, none⟩ = some (.string key)) :
    Calls Tryd.prog 48 #[.slice (some ⟨G, 0, none⟩) L.length c, .func (.func 47) #[] #[.pointer (some ⟨T, 0, none⟩)]] w fun e w' => ∃ n c', e = .returned (.slice (some ⟨G, 0, none⟩) n c') ∧ OwnV w' base 9 (.slice (some ⟨G, 0, none⟩) n c') (strs (without L key)) ∧ w.grownBy w' (some G) := by
  have eg := dropped_eg
  obtain ⟨a0, c0, e0, hL⟩ := ho.strsAt
  simp only [Value.slice.injEq, true_and] at e0
  obtain ⟨rfl, rfl⟩ := e0
  have c1 := indexF_any w (some ⟨G, 0, none⟩) c T L key hL (by omega) hc
  obtain ⟨hcp, hcm⟩ := ho.capOf
  have HT : Hid (∀ W, w.grownBy W (some G) → base ≤ G → W.cell? ⟨T, 0, none⟩ = some (.string key)) := fun W h hG => by
    rw [← hc]
    have hh := h.block T hTb (by simp; omega)
    simp only [World.cell?, hh]
  go_enter Tryd.func48, Tryd.ntmps48
  go_wp2_with fail
  refine c1.mono ?_
  rintro e w' ⟨r, rfl, hw', h⟩
  rw [hw']
  clear c1 hw'
  rcases h with ⟨rfl, h⟩ | ⟨k0, hk0, rfl, h1, h2⟩
  · have HW : Hid (without L key = L) := without_none (inL_false.1 h)
    clear h
    go_wp2_with fail
    go_ret
    exact ⟨_, _, rfl, by rw [HW.out]; exact ho, grownBy_refl _ _⟩
  · have hG : base ≤ G := (ho.cell (j := k0) (by rw [strs_length]; exact hk0)).2.2.1
    have hi0 : ¬ ((k0 : Int) = -1) := by omega
    have HS : Hid (without (L.take (k0 + 1)) key = L.take k0) := without_step hk0 h2 h1
    have hk0b : k0 ≤ 1048576 := by omega
    have HLK : Hid (k0 < L.length) := hk0
    clear h1 h2 hk0 hL hc
    go_wp2_with fail
    go_loopw [5, 6] (fun i j wr => Box (∃ (k n : Nat) (M : List ByteArray), k ≤ L.length ∧ j = .int .i64 k ∧ i = .int .i64 n ∧ n < k ∧ Hid (n = (without (L.take k) key).length) ∧ Hid (M.length = L.length) ∧ Hid (M.take n = without (L.take k) key) ∧ Hid (M.drop k = L.drop k) ∧ Hid (OwnV wr base 9 (.slice (some ⟨G, 0, none⟩) L.length c) (strs M)) ∧ Hid (w.grownBy wr (some G))))
      (fun _ j _ => L.length - (intOf j).toNat)
    case atStart => exact ⟨⟨k0 + 1, k0, L, HLK.out, by go_num, rfl, by omega, by show _ = _; rw [HS.out, List.length_take]; have := HLK.out; omega, rfl, by show _ = _; rw [HS.out], rfl, ho, grownBy_refl _ _⟩⟩
    case round =>
      obtain ⟨k, n, M, hk, rfl, rfl, hnk, HN, HML, HMT, HMD, HO, HG⟩ := hrel.out
      clear hrel ho HS
      by_cases hlt : k < L.length
      · have HMk : Hid (∃ h : k < M.length, M[k] = L[k]) := by
          have hx : k < M.length := by rw [HML.out]; exact hlt
          refine ⟨hx, ?_⟩
          have := congrArg (fun l => l[0]?) HMD.out
          simp only [List.getElem?_drop, Nat.add_zero] at this
          rw [List.getElem?_eq_getElem hx, List.getElem?_eq_getElem hlt] at this
          exact Option.some.inj this
        obtain ⟨z, hzz⟩ : ∃ z, L[k] = z := ⟨_, rfl⟩
        have HZ : Hid (without (L.take (k + 1)) key = without (L.take k) key ++ if z = key then [] else [z]) := by show _ = _; rw [without_take hlt, hzz]
        have hck : wr.cell? ⟨G, k, none⟩ = some (.string z) := by
          obtain ⟨h1, h2⟩ := HMk.out
          have := (HO.out.cell (j := k) (by rw [strs_length]; exact h1)).1
          rw [strs_getD h1, h2, hzz] at this
          exact this
        have hcn : ∃ y, wr.cell? ⟨G, n, none⟩ = some y := ⟨_, (HO.out.cell (j := n) (by rw [strs_length, HML.out]; omega)).1⟩
        obtain ⟨y, hcn⟩ := hcn
        have hfn : wr.frozen? ⟨G, n, none⟩ = false := (HO.out.cell (j := n) (by rw [strs_length, HML.out]; omega)).2.1
        have hcall := dropped_any wr T z key (HT.out wr HG.out hG)
        have hi1 : (0 : Int) ≤ (k : Int) := by omega
        have hi2 : (k : Int) < (L.length : Int) := by omega
        have hi3 : (0 : Int) ≤ (n : Int) := by omega
        have hi4 : (n : Int) < (L.length : Int) := by omega
        by_cases hz : z = key
        · rw [if_pos hz, List.append_nil] at HZ
          rw [decide_eq_true hz] at hcall
          clear hz hcn hfn hzz
          go_wp2_with (go_at_fn 47; refine hcall.mono ?_; rintro e w' ⟨rfl, rfl⟩)
          go_roundw
          case rel =>
            try ((repeat apply Exists.intro); refine ⟨?_, rfl⟩)
            refine ⟨⟨k + 1, n, M, by omega, by go_num, rfl, by omega, by show _ = _; rw [HZ.out]; exact HN.out, HML, by show _ = _; rw [HZ.out]; exact HMT.out, ?_, HO, HG⟩⟩
            show M.drop (k + 1) = L.drop (k + 1)
            rw [← List.drop_drop, HMD.out, List.drop_drop]
          case measure => simp [intOf]; omega
        · rw [if_neg hz] at HZ
          rw [decide_eq_false hz] at hcall
          have HST : Hid _ := HO.out.stored (by rw [strs_length, HML.out]) n (.string z)
          clear hz hzz
          go_wp2_with (go_at_fn 47; refine hcall.mono ?_; rintro e w' ⟨rfl, rfl⟩)
          go_roundw
          case rel =>
            try ((repeat apply Exists.intro); refine ⟨?_, rfl⟩)
            have hML := HML.out
            have hMT := HMT.out
            have hN := HN.out
            refine ⟨⟨k + 1, n + 1, M.set n z, by omega, by go_num, by go_num, by omega, ?_, by show _ = _; rw [List.length_set]; exact hML, ?_, ?_, ?_, grownBy_trans HG.out HST.out.2⟩⟩
            · show n + 1 = _
              rw [HZ.out, List.length_append, ← hN]
              rfl
            · show (M.set n z).take (n + 1) = _
              rw [HZ.out, ← hMT, List.take_succ_eq_append_getElem (by rw [List.length_set]; omega), List.getElem_set_self, List.take_set_of_le (Nat.le_refl _)]
            · show (M.set n z).drop (k + 1) = L.drop (k + 1)
              rw [List.drop_set_of_lt (by omega), ← List.drop_drop, HMD.out, List.drop_drop]
            · have h := HST.out.1
              rw [show (strs M).set n (.string z) = strs (M.set n z) by unfold strs; rw [List.map_set]] at h
              exact h
          case measure => simp [intOf]; omega
      · have hke : k = L.length := by omega
        subst hke
        have hML := HML.out
        have hMT := HMT.out
        rw [List.take_length] at hMT
        have hnl : n < L.length := hnk
        have hcl : ∀ ty cc, (Builtin.clear_ #[24] ty #[.slice (some ⟨G, n, none⟩) (L.length - n) cc]).run Tryd.prog wr = .ok (.tuple #[]) (wr.setCells G n (List.replicate (L.length - n) (.string ⟨#[]⟩))) := fun ty cc =>
          Lib.run_clear_slice wr 24 9 ty (.string ⟨#[]⟩) Tryd.underlying24 Tryd.zeroStr rfl rfl G n (L.length - n) cc (by omega)
            (fun j hj => by rw [(HO.out.cell (j := n + j) (by rw [strs_length, hML]; omega)).1]; rfl) (fun j hj => (HO.out.cell (j := n + j) (by rw [strs_length, hML]; omega)).2.1)
        obtain ⟨W2, hW2⟩ : ∃ W2, wr.setCells G n (List.replicate (L.length - n) (.string ⟨#[]⟩)) = W2 := ⟨_, rfl⟩
        rw [hW2] at hcl
        have HF : Hid (OwnV W2 base 9 (.slice (some ⟨G, 0, none⟩) n c) (strs (without L key)) ∧ w.grownBy W2 (some G)) := by
          obtain ⟨ys, e1, e2, _, _, e5, e6⟩ := OwnV.storedAll (List.replicate (L.length - n) (.string ⟨#[]⟩)) n wr (strs M) HO.out (by rw [strs_length, hML])
          rw [hW2] at e5 e6
          have h := e5.cut (by rw [e1, strs_length, hML]) n (by omega)
          rw [take_same e2, show (strs M).take n = strs (M.take n) by unfold strs; rw [List.map_take], hMT] at h
          exact ⟨h, grownBy_trans HG.out e6⟩
        have hi1 : (0 : Int) ≤ (n : Int) := by omega
        have hi2 : (n : Int) ≤ (L.length : Int) := by omega
        have hi3 : (n : Int) ≤ (c : Int) := by omega
        have hi4 : (L.length : Int) ≤ (c : Int) := by omega
        have hd1 : ¬ (c = n) := by omega
        clear hML hMT HN HML HMT HMD HO HG HT hW2
        go_wp2
        go_ret
        exact ⟨_, _, rfl, HF.out.1, HF.out.2⟩
/-- All that are the key go. -/
theorem deleteF_any (w : World) (base T : Nat) (v : Value) (L : List ByteArray) (key : ByteArray) (ho : OwnV w base 9 v (strs L)) (hm : L.length ≤ 1048576) (hT : T < base) (hTb : T < w.heap.size) (hc : w.cell? ⟨T, 0, none⟩ = some (.string key)) :
    Calls Tryd.prog 48 #[v, .func (.func 47) #[] #[.pointer (some ⟨T, 0, none⟩)]] w fun e w' => ∃ v', e = .returned v' ∧ OwnV w' base 9 v' (strs (without L key)) ∧ v'.ownBlock = v.ownBlock ∧ w.grownBy w' v.ownBlock := by
  rcases ho.2 with ⟨rfl, h0⟩ | ⟨G, c, cur, rfl, _⟩
  · rw [strs_length] at h0
    have hl : L = [] := List.length_eq_zero_iff.1 h0
    subst hl
    have c1 := indexF_any w none 0 T [] key (fun j hj => by simp at hj) (by simp) hc
    go_enter Tryd.func48, Tryd.ntmps48
    go_wp2_with fail
    refine c1.mono ?_
    rintro e w' ⟨r, rfl, rfl, h⟩
    clear c1
    rcases h with ⟨rfl, h⟩ | ⟨k0, hk0, _⟩
    · go_wp2_with fail
      go_ret
      exact ⟨_, rfl, ho, rfl, grownBy_refl _ _⟩
    · simp at hk0
  · rw [strs_length] at ho ⊢
    refine (deleteF_row w base G c T L key ho hm hT hTb hc).mono ?_
    rintro e w' ⟨n, c', rfl, h1, h2⟩
    exact ⟨_, rfl, h1, rfl, h2⟩
end Go.Proofs.YtbcjkinalghokafDoor

namespace Go.Proofs.YtbcjkinalghokafDoor
open Go.RowKit Go.Sort

set_option maxRecDepth 100000 in
set_option maxHeartbeats 8000000 in
theorem implPolicyDrop_any (w : World) (aw am ak : Option Addr) (cw cm ck : Nat) (P : Pol) (key : ByteArray) (hA : PolAt w aw am ak P w.heap.size) (hsz : PolSz P) :
    Calls Tryd.prog 16 #[.agg #[.slice aw P.win.length cw, .slice am P.main.length cm, .slice ak P.sk.rows.length ck, .int .i64 P.sk.added], .string key] w fun e w' => ∃ v, e = .returned v ∧ POwn w' w.heap.size w'.heap.size v (dropP P key) ∧ Below w.heap.size w w' := by
  obtain ⟨l1, l2, l3⟩ := hsz.parts
  obtain ⟨w1, hw1⟩ : ∃ x, ((w.alloc (.cells #[.slice aw P.win.length cw, .slice am P.main.length cm, .slice ak P.sk.rows.length ck, .int .i64 P.sk.added] 29)).alloc (.cells #[.string key] 9)).alloc (.cells #[.slice none 0 0, .slice none 0 0, .slice none 0 0, .int .i64 0] 29) = x := ⟨_, rfl⟩
  have hb1 : Below w.heap.size w w1 := by rw [← hw1]; exact (((Below.refl _ _).alloc (Nat.le_refl _) _).alloc (by simp) _).alloc (by simp; omega) _
  have s1 : w1.heap.size = w.heap.size + 3 := by rw [← hw1]; simp
  have hK : w1.heap[w.heap.size + 1]? = some (.cells #[.string key] 9 (0, 0)) := by
    have h := heap_alloc_new (w.alloc (.cells #[.slice aw P.win.length cw, .slice am P.main.length cm, .slice ak P.sk.rows.length ck, .int .i64 P.sk.added] 29)) (.cells #[.string key] 9)
    rw [← hw1]
    exact (((Below.refl _ _).alloc (Nat.le_refl _) _).block _ (by simp)).trans (by simpa using h)
  have hR : PBox w1 (w.heap.size + 2) (.slice none 0 0) (.slice none 0 0) (.slice none 0 0) (.int .i64 0) := by
    have h := PBox.new ((w.alloc (.cells #[.slice aw P.win.length cw, .slice am P.main.length cm, .slice ak P.sk.rows.length ck, .int .i64 P.sk.added] 29)).alloc (.cells #[.string key] 9)) (.slice none 0 0) (.slice none 0 0) (.slice none 0 0) (.int .i64 0)
    rw [hw1] at h
    simpa using h
  have c1 := policyCopy_any w1 aw am ak cw cm ck P (hA.on hb1) hsz
  have HW : Hid (((w.alloc (.cells #[.slice aw P.win.length cw, .slice am P.main.length cm, .slice ak P.sk.rows.length ck, .int .i64 P.sk.added] 29)).alloc (.cells #[.string key] 9)).alloc (.cells #[.slice none 0 0, .slice none 0 0, .slice none 0 0, .int .i64 0] 29) = w1) := hw1
  have HB1 : Hid (Below w.heap.size w w1 ∧ w1.heap.size = w.heap.size + 3) := ⟨hb1, s1⟩
  clear hw1 hb1 s1 hA
  go_enter Tryd.func16, Tryd.ntmps16
  go_wp2_with fail
  rw [HW.out]
  refine c1.mono ?_
  rintro e w2 ⟨v, rfl, hO, hb2⟩
  have hO0 := hO
  obtain ⟨v1, v2, v3, rfl, o1, o2, d1, d2, o3⟩ := hO
  obtain ⟨a2, k2, rfl, _⟩ := o1.strsAt
  obtain ⟨a3, k3, rfl, _⟩ := o2.strsAt
  obtain ⟨a4, k4, rfl, _⟩ := o3.at
  obtain ⟨hb1, s1⟩ := HB1.out
  have H3 := hO0.hold 29 []
  have ht : tyOk 29 := by unfold tyOk; decide
  obtain ⟨w3, hw3⟩ : ∃ x, w2.alloc (.cells #[.slice a2 P.win.length k2, .slice a3 P.main.length k3, .slice a4 P.sk.rows.length k4, .int .i64 P.sk.added] 29) = x := ⟨_, rfl⟩
  have hb3 : Below w1.heap.size w1 w3 := by
    rw [← hw3]
    exact hb2.alloc hb2.size _
  rw [hw3] at H3
  have HW3 : Hid (w2.alloc (.cells #[.slice a2 P.win.length k2, .slice a3 P.main.length k3, .slice a4 P.sk.rows.length k4, .int .i64 P.sk.added] 29) = w3) := hw3
  obtain ⟨V, hV⟩ : ∃ V, w2.heap.size = V := ⟨_, rfl⟩
  rw [hV] at H3
  have hVlo : w1.heap.size ≤ V := by rw [← hV]; exact hb2.size
  have hKc : ∀ W, Below w1.heap.size w1 W → W.cell? ⟨w.heap.size + 1, 0, none⟩ = some (.string key) := fun W h => by
    rw [cell_of_row W (w.heap.size + 1) 0 _ _ (0, 0) ((h.block _ (by omega)).trans hK)]; rfl
  have hs3 := hb3.size
  have c2 := deleteF_any w3 w1.heap.size (w.heap.size + 1) _ P.win key H3.2.1 l1 (by omega) (by omega) (hKc _ hb3)
  have HL : Hid (P.win.length ≤ 1048576 ∧ P.main.length ≤ 1048576) := ⟨l1, l2⟩
  have HKC : Hid _ := hKc
  have HV : Hid (w2.heap.size = V) := hV
  clear c1 hO0 o1 o2 d1 d2 o3 hw3 hKc hV hK hs3 l1 l2 l3 hsz hb2
  go_wp2_with fail
  rw [HW3.out]
  refine c2.mono ?_
  rintro e w4 ⟨v1', rfl, ho4, hn4, hg4⟩
  obtain ⟨a5, k5, rfl, _⟩ := ho4.strsAt
  obtain ⟨x0, xf⟩ := H3.var1 ht hg4
  have xf0 := xf 0
  have hb4 : Below w1.heap.size w1 w4 := hb3.grown hg4 hb3.size (fun k e => (H3.2.1.lt k e).1)
  have H5 := H3.setWin ht hg4 ho4 (fun k e => .inl (by rw [← hn4]; exact e))
  have hb5 : Below w1.heap.size w1 (w4.setCell ⟨V, 0, none⟩ (.slice a5 (without P.win key).length k5)) := hb4.setCell hVlo _
  obtain ⟨w5, hw5⟩ : ∃ x, w4.setCell ⟨V, 0, none⟩ (.slice a5 (without P.win key).length k5) = x := ⟨_, rfl⟩
  have HW5 : Hid (w4.setCell ⟨V, 0, none⟩ (.slice a5 (without P.win key).length k5) = w5) := hw5
  obtain ⟨n1, hn1⟩ : ∃ n, (without P.win key).length = n := ⟨_, rfl⟩
  rw [hw5] at H5 hb5
  rw [hn1] at H5 HW5 ⊢
  have c3 := deleteF_any w5 w1.heap.size (w.heap.size + 1) _ P.main key H5.2.2.1 HL.out.2 (by omega) (by have := hb5.size; omega) (HKC.out _ hb5)
  obtain ⟨y0, y1, y2, y3, _⟩ := H5.cells
  have HP5 : Hid (PHold w5 V 29 [] w1.heap.size (.slice a5 n1 k5) (.slice a3 P.main.length k3) (.slice a4 P.sk.rows.length k4) ⟨without P.win key, P.main, P.sk⟩) := H5
  have HQ5 : Hid (Below w1.heap.size w1 w5 ∧ w1.heap.size ≤ V ∧ Below w.heap.size w w1 ∧ w1.heap.size = w.heap.size + 3 ∧ PBox w1 (w.heap.size + 2) (.slice none 0 0) (.slice none 0 0) (.slice none 0 0) (.int .i64 0)) := ⟨hb5, hVlo, hb1, s1, hR⟩
  rw [← HW5.out] at y0 y1 y2 y3
  rw [HV.out]
  clear c2 hw5 hn1 H3 H5 hb3 hb4 hb5 ho4 hn4 hg4 xf hb1 s1 hVlo HB1 HW HW3 hR
  go_wp2_with fail
  rw [HW5.out] at y0 y1 y2 y3 ⊢
  refine c3.mono ?_
  rintro e w6 ⟨v2', rfl, ho6, hn6, hg6⟩
  obtain ⟨a6, k6, rfl, _⟩ := ho6.strsAt
  have H5 : PHold w5 V 29 [] w1.heap.size (.slice a5 n1 k5) (.slice a3 P.main.length k3) (.slice a4 P.sk.rows.length k4) ⟨without P.win key, P.main, P.sk⟩ := HP5.out
  obtain ⟨hb5, hVlo, hb1, s1, hR⟩ := HQ5.out
  obtain ⟨z0, zf⟩ := H5.var2 ht hg6
  have zf1 := zf 1
  have hb6 : Below w1.heap.size w1 w6 := hb5.grown hg6 hb5.size (fun k e => (H5.2.2.1.lt k e).1)
  have H7 := H5.setMain ht hg6 ho6 (fun k e => .inl (by rw [← hn6]; exact e))
  have hb7 : Below w1.heap.size w1 (w6.setCell ⟨V, 1, none⟩ (.slice a6 (without P.main key).length k6)) := hb6.setCell hVlo _
  obtain ⟨w7, hw7⟩ : ∃ x, w6.setCell ⟨V, 1, none⟩ (.slice a6 (without P.main key).length k6) = x := ⟨_, rfl⟩
  have HW7 : Hid (w6.setCell ⟨V, 1, none⟩ (.slice a6 (without P.main key).length k6) = w7) := hw7
  obtain ⟨n2, hn2⟩ : ∃ n, (without P.main key).length = n := ⟨_, rfl⟩
  rw [hw7] at H7 hb7
  rw [hn2] at H7 HW7 ⊢
  obtain ⟨u0, u1, u2, u3, _⟩ := H7.cells
  have hR7 := hR.on hb7
  obtain ⟨r0, r1, r2, r3⟩ := hR7.cells
  have f0 := hR7.thaw 0
  have f1 := hR7.thaw 1
  have f2 := hR7.thaw 2
  have f3 := hR7.thaw 3
  have HF : Hid (PHold w7 V 29 [] w1.heap.size (.slice a5 n1 k5) (.slice a6 n2 k6) (.slice a4 P.sk.rows.length k4) (dropP P key) ∧ PBox w7 (w.heap.size + 2) (.slice none 0 0) (.slice none 0 0) (.slice none 0 0) (.int .i64 0) ∧ Below w.heap.size w w7 ∧ w.heap.size ≤ w1.heap.size) := ⟨H7, hR7, hb1.trans (hb7.mono (by omega)), by omega⟩
  dsimp only at u3
  rw [← HW7.out] at u0 u1 u2 u3 r0 r1 r2 r3 f0 f1 f2 f3
  clear c3 hw7 hn2 H5 H7 hb5 hb6 hb7 ho6 hn6 hg6 zf hb1 s1 hVlo hR hR7 HP5 HQ5 y0 y1 y2 y3
  go_wp2_with fail
  rw [HW7.out]
  obtain ⟨H7', hR7, hbw, hlo⟩ := HF.out
  have H7 : PHold w7 V 29 [] w1.heap.size (.slice a5 n1 k5) (.slice a6 n2 k6) (.slice a4 P.sk.rows.length k4) (dropP P key) := H7'
  obtain ⟨q0, q1, q2, q3⟩ := (hR7.put (.slice a5 n1 k5) (.slice a6 n2 k6) (.slice a4 P.sk.rows.length k4) (.int .i64 P.sk.added)).cells
  refine bodyPost_ret (v := .agg #[.slice a5 n1 k5, .slice a6 n2 k6, .slice a4 P.sk.rows.length k4, .int .i64 P.sk.added]) (by simp [results, Tryd.results16, go_sem, q0, q1, q2, q3]) rfl ⟨_, rfl, ?_, Below.put4 hbw (by omega) _ _ _ _⟩
  refine POwn.mono (H7.own.put4 hR7 _ _ _ _) hlo ?_
  simp
end Go.Proofs.YtbcjkinalghokafDoor
