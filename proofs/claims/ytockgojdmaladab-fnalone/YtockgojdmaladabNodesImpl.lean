/- The nodes from the head on that are not gone, handed to a yield: the program's. -/
import Derived.Test.YtockgojdmaladabNodeImpl
import Derived.Test.YtockgojdmaladabKeysSpec
import Derived.Test.YtockgojdmaladabRowed
import Derived.RangeFuncNested
import Derived.RangeFuncBound
import Derived.RangeFuncCalls
import Derived.RangeFuncLeaves
import Derived.Shelf.Abstract
import Derived.Shelf.RegionOpen
import Derived.WalkKit
import Derived.OwnWalkIn
import Derived.TacticsInMore
import Derived.LoopNIn
import Derived.LoopIn
import Derived.Maps.AppendAt
import Derived.Sort.BigQuietIn
namespace Go.Proofs.Ytockgojdmaladab
open Go.RowKit Go.Shelf Go.Sort

attribute [local go_sem] Oper.semAt_some

/-- A node of a list. -/
abbrev Nd : Type := { n : Int // 1 ≤ n ∧ n ≤ 20 }
def ndv (ys : List Nd) : List Int := ys.map (fun y => y.1)
theorem ndv_snoc (ys : List Nd) (x : Nd) : ndv (ys ++ [x]) = ndv ys ++ [x.1] := by simp [ndv]
theorem ndv_length (ys : List Nd) : (ndv ys).length = ys.length := by simp [ndv]

/-- How many nodes are handed over at most. -/
def nbL (L : List Int) : Nat := if L.length = 63 then 20 else 0
theorem nbL_on {L : List Int} (h : L.length = 63) : nbL L = 20 := by unfold nbL; rw [if_pos h]
theorem nbL_lt {L : List Int} {k : Nat} (h : k < nbL L) : L.length = 63 ∧ k < 20 := by
  unfold nbL at h
  split at h
  · exact ⟨by assumption, h⟩
  · omega

/-- What a round keeps: all that lay below n₀, and the block in which the list lies. -/
def KeepN (n₀ Bn : Nat) (W W' : World) : Prop := Below n₀ W W' ∧ W'.heap[Bn]? = W.heap[Bn]?
theorem KeepN.refl (n₀ Bn : Nat) (W : World) : KeepN n₀ Bn W W := ⟨Below.refl _ _, rfl⟩
theorem KeepN.trans {n₀ Bn : Nat} {A B C : World} (h : KeepN n₀ Bn A B) (k : KeepN n₀ Bn B C) : KeepN n₀ Bn A C := ⟨h.1.trans k.1, k.2.trans h.2⟩
theorem KeepN.put {n₀ Bn : Nat} {w : World} (hn : n₀ ≤ w.heap.size) (hB : Bn < w.heap.size) (W : World) (l : Nat) (o o' : Obj) (hl : w.heap.size ≤ l) (h : W.heap[l]? = some o) (h1 : o.isCells = false) (h2 : o.isWalk = false) : KeepN n₀ Bn W (W.putObj l o') :=
  ⟨belowK_b hn W l o o' hl h h1 h2, World.putObj_heap_other (by omega)⟩
theorem KeepN.drew (n₀ Bn k : Nat) (W : World) : KeepN n₀ Bn W (W.drewN k) := ⟨⟨rfl, rfl, rfl, Nat.le_refl _, fun _ _ => rfl⟩, rfl⟩

set_option maxRecDepth 100000 in
set_option maxHeartbeats 2000000 in
theorem nodes1_in (n : Nat) (hn : 1 ≤ n) (l Bn n₀ : Nat) (a : Option Addr) (cap : Nat) (L : List Int) (hbd : Bd L) (J Jx : List Nd → World → Prop) (W : World) (hJ : AbidesFrom W.heap.size J)
    (hY : ∀ pre x W, J pre W → pre.length < nbL L → YieldAt Fence.wide (n - 1) Try.prog l #[.int .i64 x.1] W fun e W' =>
      (e = .returned (.bool true) ∧ J (pre ++ [x]) W' ∧ KeepN n₀ Bn W W') ∨ (e = .returned (.bool false) ∧ Jx (pre ++ [x]) W'))
    (hB : Boxed W Bn 24 (.slice a L.length cap)) (hLi : IAt W a L n₀) (h0 : J [] W) :
    CallsIn Fence.wide n Try.prog 99 #[.func (.yield l) #[] #[], .pointer (some ⟨Bn, 0, none⟩)] W fun e W' => (∃ v, e = .returned v) ∧
      ((∃ ys, ndv ys = liveL L ∧ J ys W') ∨ (∃ pre, (∃ rest, liveL L = ndv pre ++ rest) ∧ Jx pre W')) := by
  have HC : Hid (∀ wr, KeepN n₀ Bn W wr → Boxed wr Bn 24 (.slice a L.length cap) ∧ IAt wr a L n₀) := fun wr hk => ⟨hk.2.trans hB, hLi.below hk.1 (Nat.le_refl _)⟩
  have hc0 := hB.cell
  by_cases h63 : L.length = 63
  · have e1 : ((L.length : Int) != 63) = false := by simp; omega
    obtain ⟨g, off, rfl, q0⟩ := hLi.cellD (j := 0) (by omega)
    have hx0 := hbd.at 0
    obtain ⟨x, hx⟩ : ∃ x, L.getD 0 0 = x := ⟨_, rfl⟩
    rw [hx] at q0 hx0
    simp only [Nat.add_zero] at q0
    have c1 : Hid (∀ w, Calls Try.prog 101 #[.int .i64 0] w fun e w' => e = .returned (.int .i64 0) ∧ w' = w) := fun w => wordCell_any 0 (by omega) w
    have c2 : Hid (∀ w, Calls Try.prog 100 #[.int .i64 x] w fun e w' => e = .returned (.int .i64 (nodeC x)) ∧ w' = w) := nodeOf_any x hx0
    obtain ⟨n0, hn0⟩ : ∃ n0, nodeC x = n0 := ⟨_, rfl⟩
    have hn0b := nodeC_bd x
    rw [hn0] at c2 hn0b
    have HLV : Hid (liveL L = nodesL L 20 n0) := by
      show _ = _
      rw [liveL_on h63, show cellL6 L 0 = x from hx, hn0]
    have hlp : (0 : Int) < (L.length : Int) := by omega
    refine callsIn_of_wp Try.func99 rfl trivial ?_ rfl
    simp only [Try.ntmps99, List.size_toArray, List.length_cons, List.length_nil, Nat.reduceAdd, Nat.reduceSub, Array.replicate_succ, Array.replicate_zero, List.push_toArray, List.append_toArray, List.nil_append, List.cons_append]
    gi_wp2
    refine wpIn_region_quiet_lit rfl (by kernel_rfl) (by kernel_rfl) ?_
    repeat (gi_big_quiet_step (fail))
    refine BigFrame.wpQuietIn_want (fun _ _ _ _ => trivial) rfl (fun K hK => ?_)
    gi_big_quiet_op
    apply Exists.intro
    refine ⟨fun _ => CallsIn.quiet_of_same (callsIn_wide.2 (c1.out _)), hK _ ?_⟩
    clear hK K
    repeat (gi_big_quiet_step (fail))
    refine BigFrame.wpQuietIn_want (fun _ _ _ _ => trivial) rfl (fun K hK => ?_)
    gi_big_quiet_op
    apply Exists.intro
    refine ⟨fun _ => CallsIn.quiet_of_same (callsIn_wide.2 (c2.out _)), hK _ ?_⟩
    clear hK K
    repeat (gi_big_quiet_step (fail))
    refine wpQuietIn_nil ?_
    intro _ hw'
    obtain ⟨nq, hw''⟩ := hw'
    subst hw''
    have hk0 : KeepN n₀ Bn W (W.drewN nq) := KeepN.drew _ _ _ _
    have hJ0 : J [] (W.drewN nq) := hJ [] W _ none h0 (grownBy_below ⟨rfl, rfl, rfl, Nat.le_refl _, fun _ _ => rfl⟩) (fun r e => by cases e)
    clear hc0 q0 c1 c2 hx hn0 hx0
    have HLN : Hid (L.length = 63) := h63
    gi_wp2
    gi_loopw [3, 4, 5] (fun nd i _ wr => Box (∃ (k : Nat) (m : Int) (pre : List Nd), nd = .int .i64 m ∧ i = .int .i64 k ∧ k ≤ 20 ∧ (0 ≤ m ∧ m ≤ 20) ∧ Hid (liveL L = ndv pre ++ nodesL L (20 - k) m) ∧ pre.length ≤ k ∧ J pre wr ∧ KeepN n₀ Bn W wr))
      (fun _ i _ _ => 20 - (intOf i).toNat)
    case atStart => exact ⟨⟨0, n0, [], rfl, rfl, by omega, hn0b, by show _ = _; rw [HLV.out]; rfl, by simp, hJ0, hk0⟩⟩
    case round =>
      obtain ⟨k, m, pre, rfl, rfl, hk, hmb, hlv, hpre, hJs, hkeep⟩ := hrel.out
      clear hrel hJ0 hk0 h0
      obtain ⟨hBx, hLx⟩ := HC.out wr hkeep
      by_cases hkl : k < 20
      · by_cases hm0 : m = 0
        · subst hm0
          have HD : Hid (ndv pre = liveL L) := by show _ = _; rw [hlv.out, nodesL_end, List.append_nil]
          clear hlv
          gi_wp2
          go_end0
          exact ⟨⟨_, rfl⟩, .inl ⟨pre, HD.out, hJs⟩⟩
        · obtain ⟨j, hj, hj63⟩ : ∃ j : Nat, wordC m = (j : Int) ∧ j < 63 := ⟨(wordC m).toNat, by have := wordC_bd hmb; omega, by have := wordC_bd hmb; omega⟩
          obtain ⟨g', off', hga, q1⟩ := hLx.cellD (j := j) (by omega)
          simp only [Option.some.injEq, Addr.mk.injEq, and_true] at hga
          obtain ⟨rfl, rfl⟩ := hga
          have hx1 := hbd.at j
          obtain ⟨x, hx⟩ : ∃ x, L.getD j 0 = x := ⟨_, rfl⟩
          have HX : Hid (cellL6 L (wordC m) = x) := by show _ = _; rw [hj]; exact hx
          rw [hx] at q1 hx1
          have c1 : Hid (∀ w, Calls Try.prog 101 #[.int .i64 m] w fun e w' => e = .returned (.int .i64 j) ∧ w' = w) := fun w => by
            have := wordCell_any m hmb w
            rw [hj] at this
            exact this
          have c2 : Hid (∀ w, Calls Try.prog 100 #[.int .i64 x] w fun e w' => e = .returned (.int .i64 (nodeC x)) ∧ w' = w) := nodeOf_any x hx1
          have c3 : Hid (∀ w, Calls Try.prog 102 #[.int .i64 x] w fun e w' => e = .returned (.int .i64 (x % 2)) ∧ w' = w) := markOf_any x
          obtain ⟨nx, hnx⟩ : ∃ nx, nodeC x = nx := ⟨_, rfl⟩
          have hnxb := nodeC_bd x
          rw [hnx] at c2 hnxb
          have hb0 := hBx.cell
          have hji1 : (0 : Int) ≤ (j : Int) := by omega
          have hji2 : (j : Int) < 63 := by omega
          have HNX : Hid (nodeC x = nx) := hnx
          clear hx hj hnx hx1
          gi_wp2
          refine wpIn_region_quiet_lit rfl (by kernel_rfl) (by kernel_rfl) ?_
          repeat (gi_big_quiet_step (fail))
          refine BigFrame.wpQuietIn_want (fun _ _ _ _ => trivial) rfl (fun K hK => ?_)
          gi_big_quiet_op
          apply Exists.intro
          refine ⟨fun _ => CallsIn.quiet_of_same (callsIn_wide.2 (c1.out _)), hK _ ?_⟩
          clear hK K
          repeat (gi_big_quiet_step (fail))
          refine wpQuietIn_nil ?_
          intro _ hw'
          obtain ⟨nr, hw''⟩ := hw'
          subst hw''
          have hk1 : KeepN n₀ Bn W (wr.drewN nr) := hkeep.trans (KeepN.drew _ _ _ _)
          have hJ1 : J pre (wr.drewN nr) := hJ pre wr _ none hJs (grownBy_below ⟨rfl, rfl, rfl, Nat.le_refl _, fun _ _ => rfl⟩) (fun r e => by cases e)
          have hpl : pre.length < nbL L := by rw [nbL_on HLN.out]; omega
          have hm1 : 1 ≤ m ∧ m ≤ 20 := by omega
          clear hJs hkeep q1 hb0 hBx hLx c1
          by_cases he : x % 2 = 0
          · have HLV2 : Hid (liveL L = ndv (pre ++ [⟨m, hm1⟩]) ++ nodesL L (20 - (k + 1)) nx) := by
              show _ = _
              rw [hlv.out, ndv_snoc, show 20 - k = (20 - (k + 1)) + 1 by omega, nodesL_even hm0 (by rw [HX.out]; exact he), HX.out, HNX.out]
              simp
            clear hlv
            rw [he] at c3
            clear he
            obtain ⟨fn, tmps, assign, body, hy, hR⟩ := hY pre ⟨m, hm1⟩ (wr.drewN nr) hJ1 hpl
            dsimp only at hy
            gi_wp2_with (refine ⟨trivial, ?_⟩; gi_at_call 102; refine (callsIn_wide.2 (c3.out _)).mono ?_; rintro e w1 ⟨rfl, rfl⟩)
            refine hR.mono ?_
            rintro e W3 (⟨rfl, hJ3, hk3⟩ | ⟨rfl, hJx3⟩)
            · have hk4 := hk1.trans hk3
              gi_wp2_with (refine ⟨trivial, ?_⟩; gi_at_call 100; refine (callsIn_wide.2 (c2.out _)).mono ?_; rintro e w1 ⟨rfl, rfl⟩)
              go_roundw
              case rel =>
                try ((repeat apply Exists.intro); refine ⟨?_, rfl⟩)
                exact ⟨⟨k + 1, nx, pre ++ [⟨m, hm1⟩], rfl, by go_num, by omega, hnxb, HLV2, by simp; omega, hJ3, hk4⟩⟩
              case measure => simp [intOf]; omega
            · gi_wp2
              (try simp only [Exit.inBlock, Exit.then])
              refine bodyPost_ret (results_none rfl _ _ _) rfl ?_
              exact ⟨⟨_, rfl⟩, .inr ⟨pre ++ [⟨m, hm1⟩], ⟨_, HLV2.out⟩, hJx3⟩⟩
          · have HLV2 : Hid (liveL L = ndv pre ++ nodesL L (20 - (k + 1)) nx) := by
              show _ = _
              rw [hlv.out, show 20 - k = (20 - (k + 1)) + 1 by omega, nodesL_odd hm0 (by rw [HX.out]; exact he), HX.out, HNX.out]
            clear hlv
            have he1 : x % 2 = 1 := by omega
            rw [he1] at c3
            clear he he1
            gi_wp2_with (refine ⟨trivial, ?_⟩; gi_at_call 102; refine (callsIn_wide.2 (c3.out _)).mono ?_; rintro e w1 ⟨rfl, rfl⟩)
            refine ⟨fun _ h => (by cases h), ?_⟩
            gi_wp2_with (refine ⟨trivial, ?_⟩; gi_at_call 100; refine (callsIn_wide.2 (c2.out _)).mono ?_; rintro e w1 ⟨rfl, rfl⟩)
            go_roundw
            case rel =>
              try ((repeat apply Exists.intro); refine ⟨?_, rfl⟩)
              exact ⟨⟨k + 1, nx, pre, rfl, by go_num, by omega, hnxb, HLV2, by omega, hJ1, hk1⟩⟩
            case measure => simp [intOf]; omega
      · have hke : k = 20 := by omega
        have HD : Hid (ndv pre = liveL L) := by show _ = _; rw [hlv.out, hke]; simp [nodesL]
        subst hke
        clear hlv
        gi_wp2
        go_end0
        exact ⟨⟨_, rfl⟩, .inl ⟨pre, HD.out, hJs⟩⟩
  · have e1 : ((L.length : Int) != 63) = true := by simp; omega
    have HD : Hid (ndv [] = liveL L) := by show _ = _; rw [liveL_off h63]; rfl
    refine callsIn_of_wp Try.func99 rfl trivial ?_ rfl
    simp only [Try.ntmps99, List.size_toArray, List.length_cons, List.length_nil, Nat.reduceAdd, Nat.reduceSub, Array.replicate_succ, Array.replicate_zero, List.push_toArray, List.append_toArray, List.nil_append, List.cons_append]
    gi_wp2
    (try simp only [Exit.inBlock, Exit.then])
    refine bodyPost_ret (results_none rfl _ _ _) rfl ?_
    exact ⟨⟨_, rfl⟩, .inl ⟨[], HD.out, h0⟩⟩

theorem nodesThere_in (n : Nat) (a : Option Addr) (cap len : Nat) (w : World) :
    CallsIn Fence.wide n Try.prog 66 #[.slice a len cap] w fun e w' => e = .returned (.func (.func 99) #[] #[.pointer (some ⟨w.heap.size, 0, none⟩)]) ∧ w' = w.alloc (.cells #[.slice a len cap] 24) := by
  refine callsIn_of_wp Try.func66 rfl trivial ?_ rfl
  simp only [Try.ntmps66, List.size_toArray, List.length_cons, List.length_nil, Nat.reduceAdd, Nat.reduceSub, Array.replicate_succ, Array.replicate_zero, List.push_toArray, List.append_toArray, List.nil_append, List.cons_append]
  gi_wp2
  go_ret
  exact ⟨rfl, rfl⟩

theorem nodes_stops (n : Nat) (hn : 1 ≤ n) (Bn n₀ : Nat) (a : Option Addr) (cap : Nat) (L : List Int) (hbd : Bd L) (w : World) (hn₀ : n₀ ≤ w.heap.size) (hB : Boxed w Bn 24 (.slice a L.length cap)) (hLi : IAt w a L n₀) :
    SeqStopsK Fence.wide n Try.prog 99 #[.pointer (some ⟨Bn, 0, none⟩)] (fun x : Nd => #[Value.int .i64 x.1]) (KeepN n₀ Bn) (fun ys => ndv ys = liveL L) (fun pre => ∃ rest, liveL L = ndv pre ++ rest) (nbL L) w :=
  fun l J Jx W hW hJ _ hY h0 => nodes1_in n hn l Bn n₀ a cap L hbd J Jx W hJ hY ((hW.block Bn hB.lt).trans hB) (hLi.below hW hn₀) h0
end Go.Proofs.Ytockgojdmaladab
