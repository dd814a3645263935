/- KeysOf, ValueOf: the other text. -/
import Derived.Test.YtockgojdmaladabNodeSpec
namespace Go.Proofs.Ytockgojdmaladab
open Go.RowKit Go.Sort

/-- Numbers that an int holds. -/
def Bd (l : List Int) : Prop := ∀ z ∈ l, -9223372036854775808 ≤ z ∧ z ≤ 9223372036854775807
theorem Bd.at {l : List Int} (h : Bd l) (j : Nat) : -9223372036854775808 ≤ l.getD j 0 ∧ l.getD j 0 ≤ 9223372036854775807 := by
  by_cases hj : j < l.length
  · have e : l.getD j 0 = l[j] := by simp [List.getD, hj]
    rw [e]
    exact h _ (List.getElem_mem hj)
  · have e : l.getD j 0 = 0 := by simp [List.getD, hj]
    rw [e]
    omega
theorem IAt.cellD {w : World} {a : Option Addr} {l : List Int} {B : Nat} (h : IAt w a l B) {j : Nat} (hj : j < l.length) : ∃ g off, a = some ⟨g, off, none⟩ ∧ w.cell? ⟨g, off + j, none⟩ = some (.int .i64 (l.getD j 0)) := by
  obtain ⟨g, off, ha, _, hc⟩ := h j hj
  exact ⟨g, off, ha, by rw [hc]; simp [List.getD, hj]⟩

theorem Try.infoI6 : (Try.prog.info? 3).map (fun i => (i.zero, i.size, i.bytes)) = some (some (.int .i64 0), 1, 8) := by kernel_rfl

set_option maxRecDepth 100000 in
set_option maxHeartbeats 2000000 in
theorem l06Nodes_any (w : World) (a : Option Addr) (cap : Nat) (l : List Int) (hL : IAt w a l w.heap.size) (hm : l.length ≤ 1048576) (hbd : Bd l) :
    Calls Try.prog 73 #[.slice a l.length cap] w fun e w' => ∃ v, e = .returned v ∧ OwnV w' w.heap.size 3 v (ints (liveL l)) ∧ Below w.heap.size w w' := by
  have hmade : OwnV (w.alloc (.cells #[] 3)) w.heap.size 3 (.slice (some ⟨w.heap.size, 0, none⟩) 0 0) (ints []) := World.ownsRow_made w #[] 0 (Nat.le_refl _) (by simp [maxLen]) (by simp)
  have hb1 : Below w.heap.size w (w.alloc (.cells #[] 3)) := (Below.refl _ _).alloc (Nat.le_refl _) _
  by_cases h63 : l.length = 63
  · have e1 : ((l.length : Int) != 63) = false := by simp; omega
    obtain ⟨w1, hw1⟩ : ∃ w1, w.alloc (.cells #[] 3) = w1 := ⟨_, rfl⟩
    rw [hw1] at hmade hb1
    have HW : Hid (w.alloc (.cells #[] 3) = w1) := hw1
    have hL1 := hL.on hb1
    have HL : Hid (∀ wi, Below w.heap.size w wi → IAt wi a l wi.heap.size) := fun wi hb => hL.on hb
    obtain ⟨g, off, rfl, hc0⟩ := hL1.cellD (j := 0) (by omega)
    have hx0 := hbd.at 0
    obtain ⟨x, hx⟩ : ∃ x, l.getD 0 0 = x := ⟨_, rfl⟩
    rw [hx] at hc0 hx0
    simp only [Nat.add_zero] at hc0
    rw [← hw1] at hc0
    have c1 := l06Node_any x hx0 w1
    obtain ⟨n0, hn0⟩ : ∃ n0, nodeC x = n0 := ⟨_, rfl⟩
    have hn0b := nodeC_bd x
    rw [hn0] at c1 hn0b
    have HLV : Hid (liveL l = nodesL l 20 n0) := by
      show _ = _
      rw [liveL_on h63, show cellL6 l 0 = x from hx, hn0]
    have HLL : Hid (l.length = 63) := h63
    have hlp : (0 : Int) < (l.length : Int) := by omega
    have hl63 : l.length ≤ 63 := by omega
    have hl63' : 63 ≤ l.length := by omega
    clear hw1 hx hn0 hx0 h63 hL
    go_enter Try.func73, Try.ntmps73
    go_wp2_with fail
    rw [HW.out]
    refine c1.mono ?_
    rintro e w1' ⟨rfl, rfl⟩
    clear c1 hc0
    go_wp2
    go_loopw [3, 4, 5] (fun v at_ i wr => Box (∃ (k : Nat) (n : Int) (out : List Int), k ≤ 20 ∧ i = .int .i64 k ∧ at_ = .int .i64 n ∧ (0 ≤ n ∧ n ≤ 20) ∧ Hid (liveL l = out ++ nodesL l (20 - k) n) ∧ OwnV wr w.heap.size 3 v (ints out) ∧ out.length ≤ k ∧ Below w.heap.size w wr))
      (fun _ _ i _ => 20 - (intOf i).toNat)
    case atStart => exact ⟨⟨0, n0, [], by omega, rfl, rfl, hn0b, HLV, hmade, by simp, hb1⟩⟩
    case round =>
      obtain ⟨k, n, out, hk, rfl, rfl, hn, HO, hown, hol, hB⟩ := hrel.out
      clear hrel hmade hb1 HLV
      by_cases hk20 : k < 20
      · by_cases hnz : n = 0
        · subst hnz
          have HE : Hid (liveL l = out) := by show _ = _; rw [HO.out, nodesL_end, List.append_nil]
          go_wp2
          go_ret
          exact ⟨_, rfl, by rw [HE.out]; exact hown, hB⟩
        · have dn : ((n : Int) != 0) = true := by simpa using hnz
          obtain ⟨j, hj, hj63⟩ := word_nat hn
          have c2 := l06Word_any n hn wr
          rw [hj] at c2
          obtain ⟨g2, off2, ha2, hcj⟩ := (HL.out wr hB).cellD (j := j) (by omega)
          simp only [Option.some.injEq, Addr.mk.injEq, and_true] at ha2
          obtain ⟨rfl, rfl⟩ := ha2
          have hyb := hbd.at j
          obtain ⟨y, hy⟩ : ∃ y, l.getD j 0 = y := ⟨_, rfl⟩
          rw [hy] at hcj hyb
          have HY : Hid (cellL6 l (wordC n) = y) := by show _ = _; rw [hj]; exact hy
          have hi1 : (0 : Int) ≤ (j : Int) := by omega
          have hi2 : (j : Int) < (l.length : Int) := by omega
          have hnb := nodeC_bd y
          have C3 : Hid (∀ wi, Calls Try.prog 104 #[.int .i64 y] wi fun e w' => e = .returned (.int .i64 (nodeC y)) ∧ w' = wi) := fun wi => l06Node_any y hyb wi
          obtain ⟨n', hn'⟩ : ∃ n', nodeC y = n' := ⟨_, rfl⟩
          rw [hn'] at C3 hnb
          have HN : Hid (nodeC y = n') := hn'
          have hil := ints_length out
          have hws := hB.size
          have hnn0 := hn.1
          have hnn1 := hn.2
          clear hj hy hn'
          by_cases hev : y % 2 = 0
          · have d2 : decide (y.tmod 2 = 0) = true := by
              apply decide_eq_true
              rcases Int.lt_or_le y 0 with h | h
              · have e : y.tmod 2 = -((-y).tmod 2) := by rw [Int.neg_tmod, Int.neg_neg]
                rw [e, Int.tmod_eq_emod_of_nonneg (by omega)]; omega
              · rw [Int.tmod_eq_emod_of_nonneg h]; exact hev
            have d3 : y.tmod 2 = 0 := of_decide_eq_true d2
            have HO2 : Hid (liveL l = (out ++ [n]) ++ nodesL l (20 - (k + 1)) n') := by
              show _ = _
              rw [HO.out, show 20 - k = (20 - (k + 1)) + 1 by omega, nodesL_even hnz (by rw [HY.out]; exact hev), HY.out, HN.out]
              simp
            go_wp2_with fail
            refine c2.mono ?_
            rintro e w3 ⟨rfl, rfl⟩
            clear c2
            go_wp2_with (at_builtin; refine wpList_snocV rfl (.tmp 32) (.tmp 34) 24 rfl w.heap.size 3 Try.underlying24 (.int .i64 0) 8 Try.infoI6 rfl _ (ints out) rfl hown (.int .i64 n) rfl rfl (by omega) (by omega) (by omega) ?_; intro v' w4 hown' hne' hbel' hsz')
            refine (C3.out w4).mono ?_
            rintro e w5 ⟨rfl, rfl⟩
            have hB5 := hbel' w hB
            go_wp2
            go_roundw
            case rel =>
              try ((repeat apply Exists.intro); refine ⟨?_, rfl⟩)
              exact ⟨⟨k + 1, n', out ++ [n], by omega, by go_num, rfl, hnb, HO2, by simpa [ints] using hown', by simp; omega, hB5⟩⟩
            case measure => simp [intOf]; omega
          · have d2 : ¬ y.tmod 2 = 0 := by
              rcases Int.lt_or_le y 0 with h | h
              · have e : y.tmod 2 = -((-y).tmod 2) := by rw [Int.neg_tmod, Int.neg_neg]
                rw [e, Int.tmod_eq_emod_of_nonneg (by omega)]; omega
              · rw [Int.tmod_eq_emod_of_nonneg h]; exact hev
            obtain ⟨r, hr⟩ : ∃ r, y.tmod 2 = r := ⟨_, rfl⟩
            rw [hr] at d2
            have HEV : Hid (¬ y % 2 = 0) := hev
            clear hev
            have HO2 : Hid (liveL l = out ++ nodesL l (20 - (k + 1)) n') := by
              show _ = _
              rw [HO.out, show 20 - k = (20 - (k + 1)) + 1 by omega, nodesL_odd hnz (by rw [HY.out]; exact HEV.out), HY.out, HN.out]
            go_wp2_with fail
            refine c2.mono ?_
            rintro e w3 ⟨rfl, rfl⟩
            clear c2
            go_wp2_with fail
            refine (C3.out _).mono ?_
            rintro e w5 ⟨rfl, rfl⟩
            go_wp2
            go_roundw
            case rel =>
              try ((repeat apply Exists.intro); refine ⟨?_, rfl⟩)
              exact ⟨⟨k + 1, n', out, by omega, by go_num, rfl, hnb, HO2, hown, by omega, hB⟩⟩
            case measure => simp [intOf]; omega
      · have hk' : k = 20 := by omega
        subst hk'
        have HE : Hid (liveL l = out) := by show _ = _; rw [HO.out]; simp [nodesL]
        go_wp2
        go_ret
        exact ⟨_, rfl, by rw [HE.out]; exact hown, hB⟩
  · rw [liveL_off h63]
    have e1 : ((l.length : Int) != 63) = true := by simp; omega
    go_enter Try.func73, Try.ntmps73
    go_wp2
    go_ret
    exact ⟨_, rfl, hmade, hb1⟩

set_option maxRecDepth 100000 in
set_option maxHeartbeats 2000000 in
theorem specKeys_any (w : World) (a : Option Addr) (cap : Nat) (l : List Int) (hL : IAt w a l w.heap.size) (hm : l.length ≤ 1048576) (hbd : Bd l) :
    Calls Try.prog 37 #[.slice a l.length cap] w fun e w' => ∃ v, e = .returned v ∧ OwnV w' w.heap.size 3 v (ints (keysL l)) ∧ Below w.heap.size w w' := by
  have c1 := l06Nodes_any w a cap l hL hm hbd
  go_enter Try.func37, Try.ntmps37
  go_wp2_with fail
  refine c1.mono ?_
  rintro e w1 ⟨v1, rfl, ho1, hb1⟩
  obtain ⟨a1, c1', rfl, hI1⟩ := ho1.ints
  have hmade : OwnV (w1.alloc (.cells #[] 3)) w1.heap.size 3 (.slice (some ⟨w1.heap.size, 0, none⟩) 0 0) (ints []) := World.ownsRow_made w1 #[] 0 (Nat.le_refl _) (by simp [maxLen]) (by simp)
  have hbx : Below w1.heap.size w1 (w1.alloc (.cells #[] 3)) := (Below.refl _ _).alloc (Nat.le_refl _) _
  have HL : Hid (∀ wi, Below w1.heap.size w1 wi → IAt wi a l wi.heap.size ∧ IAt wi a1 (liveL l) wi.heap.size) := fun wi hb => ⟨(hL.on hb1).on hb, hI1.on hb⟩
  have hll := liveL_len l
  clear c1 ho1 hI1 hL
  go_wp2
  go_loopw [4, 5] (fun v i wr => Box (∃ (k : Nat) (out : List Int), k ≤ (liveL l).length ∧ i = .int .i64 k ∧ Hid (out = ((liveL l).take k).map fun n => cellL6 l (3 * n)) ∧ out.length ≤ k ∧ OwnV wr w1.heap.size 3 v (ints out) ∧ Below w1.heap.size w1 wr))
    (fun _ i _ => (liveL l).length - (intOf i).toNat)
  case atStart => exact ⟨⟨0, [], by omega, rfl, by simp [Hid], by simp, hmade, hbx⟩⟩
  case round =>
    obtain ⟨k, out, hk, rfl, HO, hol, hown, hB⟩ := hrel.out
    clear hrel hmade hbx
    by_cases hlt : k < (liveL l).length
    · have h63 := liveL_at (l := l) (by omega)
      obtain ⟨hA, hN⟩ := HL.out wr hB
      obtain ⟨g1, off1, rfl, _, hn⟩ := hN k hlt
      have hnb := liveL_bd (List.getElem_mem hlt)
      obtain ⟨nd, hnd⟩ : ∃ nd : Nat, (liveL l)[k] = (nd : Int) := ⟨(liveL l)[k].toNat, by omega⟩
      rw [hnd] at hn hnb
      obtain ⟨g2, off2, rfl, hc2⟩ := hA.cellD (j := 3 * nd) (by omega)
      obtain ⟨x, hx⟩ : ∃ x, l.getD (3 * nd) 0 = x := ⟨_, rfl⟩
      rw [hx] at hc2
      have HO2 : Hid (out ++ [x] = ((liveL l).take (k + 1)).map fun n => cellL6 l (3 * n)) := by
        show _ = _
        rw [List.take_succ_eq_append_getElem hlt, List.map_append, ← HO.out, hnd]
        simp only [List.map_cons, List.map_nil, cellL6]
        rw [show (3 * (nd : Int)).toNat = 3 * nd by omega, hx]
      have hn0 := hnb.1
      have hn1 := hnb.2
      have hi1 : (0 : Int) ≤ (k : Int) := by omega
      have hi2 : (k : Int) < ((liveL l).length : Int) := by omega
      have hi3 : 3 * (nd : Int) < (l.length : Int) := by omega
      have hil := ints_length out
      have hws := hB.size
      clear hA hN hnd hx h63
      go_wp2_with (at_builtin; refine wpList_snocV rfl (.tmp 15) (.tmp 24) 24 rfl w1.heap.size 3 Try.underlying24 (.int .i64 0) 8 Try.infoI6 rfl _ (ints out) rfl hown (.int .i64 x) rfl rfl (by omega) (by omega) (by omega) ?_; intro v' w4 hown' hne' hbel' hsz')
      go_roundw
      case rel =>
        try ((repeat apply Exists.intro); refine ⟨?_, rfl⟩)
        exact ⟨⟨k + 1, out ++ [x], by omega, by go_num, HO2, by simp; omega, by simpa [ints] using hown', hbel' _ hB⟩⟩
      case measure => simp [intOf]; omega
    · have hke : k = (liveL l).length := by omega
      have HE : Hid (keysL l = out) := by show _ = _; rw [HO.out, hke, List.take_length]; rfl
      clear hke
      go_wp2
      go_ret
      exact ⟨_, rfl, by rw [HE.out]; exact hown.mono hb1.size, hb1.trans (hB.mono hb1.size)⟩

/-- None of the first k nodes has the key. -/
def NoKey (l : List Int) (key : Int) (k : Nat) : Prop := ∀ j (h : j < (liveL l).length), j < k → ¬ cellL6 l (3 * (liveL l)[j]) = key
theorem valueL_some {l : List Int} {key : Int} {k : Nat} (hk : k < (liveL l).length) (h : NoKey l key k) (he : cellL6 l (3 * (liveL l)[k]) = key) : valueL l key = wrap64 (cellL6 l (3 * (liveL l)[k] + 1) + 1) := by
  have : (liveL l).find? (fun n => decide (cellL6 l (3 * n) = key)) = some (liveL l)[k] := by
    rw [List.find?_eq_some_iff_getElem]
    refine ⟨by simpa using he, k, hk, rfl, fun j hj => ?_⟩
    simpa using h j (by omega) hj
  unfold valueL
  rw [this]
theorem valueL_none {l : List Int} {key : Int} (h : NoKey l key (liveL l).length) : valueL l key = 0 := by
  have : (liveL l).find? (fun n => decide (cellL6 l (3 * n) = key)) = none := by
    rw [List.find?_eq_none]
    intro n hn
    obtain ⟨j, hj, rfl⟩ := List.getElem_of_mem hn
    simpa using h j hj hj
  unfold valueL
  rw [this]

set_option maxRecDepth 100000 in
set_option maxHeartbeats 2000000 in
theorem specValue_any (w : World) (a : Option Addr) (cap : Nat) (l : List Int) (key : Int) (hL : IAt w a l w.heap.size) (hm : l.length ≤ 1048576) (hbd : Bd l) :
    Calls Try.prog 38 #[.slice a l.length cap, .int .i64 key] w fun e w' => e = .returned (.int .i64 (valueL l key)) ∧ Below w.heap.size w w' := by
  have c1 := l06Nodes_any w a cap l hL hm hbd
  go_enter Try.func38, Try.ntmps38
  go_wp2_with fail
  refine c1.mono ?_
  rintro e w1 ⟨v1, rfl, ho1, hb1⟩
  obtain ⟨a1, c1', rfl, hI1⟩ := ho1.ints
  have hL1 := hL.on hb1
  have hll := liveL_len l
  clear c1 ho1 hL
  go_wp2
  go_loopw [6] (fun i wr => Box (∃ (k : Nat), k ≤ (liveL l).length ∧ i = .int .i64 k ∧ Hid (NoKey l key k) ∧ w1 = wr))
    (fun i _ => (liveL l).length - (intOf i).toNat)
  case atStart => exact ⟨⟨0, by omega, rfl, fun j _ h => by omega, rfl⟩⟩
  case round =>
    obtain ⟨k, hk, rfl, HN, rfl⟩ := hrel.out
    clear hrel
    by_cases hlt : k < (liveL l).length
    · have h63 := liveL_at (l := l) (by omega)
      obtain ⟨g1, off1, rfl, _, hn⟩ := hI1 k hlt
      have hnb := liveL_bd (List.getElem_mem hlt)
      obtain ⟨nd, hnd⟩ : ∃ nd : Nat, (liveL l)[k] = (nd : Int) := ⟨(liveL l)[k].toNat, by omega⟩
      rw [hnd] at hn hnb
      obtain ⟨g2, off2, rfl, hc2⟩ := hL1.cellD (j := 3 * nd) (by omega)
      obtain ⟨g3, off3, ha3, hc3⟩ := hL1.cellD (j := 3 * nd + 1) (by omega)
      simp only [Option.some.injEq, Addr.mk.injEq, and_true] at ha3
      obtain ⟨rfl, rfl⟩ := ha3
      obtain ⟨x, hx⟩ : ∃ x, l.getD (3 * nd) 0 = x := ⟨_, rfl⟩
      obtain ⟨y, hy⟩ : ∃ y, l.getD (3 * nd + 1) 0 = y := ⟨_, rfl⟩
      rw [hx] at hc2
      rw [hy] at hc3
      have HX : Hid (cellL6 l (3 * (liveL l)[k]) = x) := by show _ = _; rw [hnd]; unfold cellL6; rw [show (3 * (nd : Int)).toNat = 3 * nd by omega, hx]
      have HY : Hid (cellL6 l (3 * (liveL l)[k] + 1) = y) := by show _ = _; rw [hnd]; unfold cellL6; rw [show (3 * (nd : Int) + 1).toNat = 3 * nd + 1 by omega, hy]
      have hn0 := hnb.1
      have hn1 := hnb.2
      have hi1 : (0 : Int) ≤ (k : Int) := by omega
      have hi2 : (k : Int) < ((liveL l).length : Int) := by omega
      have hi3 : 3 * (nd : Int) + 1 < (l.length : Int) := by omega
      clear hL1 hI1 hnd hx hy h63
      by_cases he : x = key
      · subst he
        have HV : Hid (valueL l x = wrap64 (y + 1)) := by show _ = _; rw [valueL_some hlt HN.out HX.out, HY.out]
        go_wp2
        go_ret
        exact ⟨by rw [HV.out]; rfl, hb1⟩
      · have HN2 : Hid (NoKey l key (k + 1)) := by
          intro j hj hjk
          rcases Nat.lt_or_eq_of_le (Nat.le_of_lt_succ hjk) with h | h
          · exact HN.out j hj h
          · subst h; rw [HX.out]; exact he
        go_wp2
        go_roundw
        case rel =>
          try ((repeat apply Exists.intro); refine ⟨?_, rfl⟩)
          exact ⟨⟨k + 1, by omega, by go_num, HN2, by first | rfl | trivial⟩⟩
        case measure => simp [intOf]; omega
    · have hke : k = (liveL l).length := by omega
      have HV : Hid (valueL l key = 0) := valueL_none (by rw [← hke]; exact HN.out)
      clear hke
      go_wp2
      go_ret
      exact ⟨by rw [HV.out]; rfl, hb1⟩
end Go.Proofs.Ytockgojdmaladab
