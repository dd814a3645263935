/- The walk over the function that hands the frames of a file to a yield: the program's own text. -/
import Derived.Test.YtepfblabdibggabDoorSealImplJ
import Derived.Test.YtepfblabdibggabDoorRowed
import Derived.RangeFuncNested
import Derived.RangeFuncBound
import Derived.RangeFuncCalls
import Derived.RangeFuncLeaves
import Derived.Shelf.Abstract
import Derived.Shelf.RegionOpen
import Derived.WalkKit
import Derived.OwnWalkIn
import Derived.TacticsInMore
import Derived.LoopNIn
import Derived.LoopIn
import Derived.Maps.AppendAt
namespace Go.Proofs.YtepfblabdibggabDoor
open Go.RowKit Go.Shelf Go.Sort

attribute [local go_sem] Oper.semAt_some

theorem Tab.keep {w w' : World} {B : Nat} (h : Tab w) (hb : Below B w w') (hB : 1 < B) : Tab w' := var?_below hb gFour hB h

/-- What a round keeps: all that lay below n₀, and the block in which the file lies. -/
def KeepF (n₀ Bn : Nat) (W W' : World) : Prop := Below n₀ W W' ∧ W'.heap[Bn]? = W.heap[Bn]?
theorem KeepF.refl (n₀ Bn : Nat) (W : World) : KeepF n₀ Bn W W := ⟨Below.refl _ _, rfl⟩
theorem KeepF.trans {n₀ Bn : Nat} {A B C : World} (h : KeepF n₀ Bn A B) (k : KeepF n₀ Bn B C) : KeepF n₀ Bn A C := ⟨h.1.trans k.1, k.2.trans h.2⟩
theorem KeepF.put {n₀ Bn : Nat} {w : World} (hn : n₀ ≤ w.heap.size) (hB : Bn < w.heap.size) (W : World) (l : Nat) (o o' : Obj) (hl : w.heap.size ≤ l) (h : W.heap[l]? = some o) (h1 : o.isCells = false) (h2 : o.isWalk = false) : KeepF n₀ Bn W (W.putObj l o') :=
  ⟨belowK_b hn W l o o' hl h h1 h2, World.putObj_heap_other (by omega)⟩
theorem KeepF.grown {n₀ Bn : Nat} {W W' : World} (h : Below W.heap.size W W') (hn : n₀ ≤ W.heap.size) (hB : Bn < W.heap.size) : KeepF n₀ Bn W W' := ⟨h.mono hn, h.block Bn hB⟩

/-- What the reader of one frame hands over. -/
def ufLeft (s : ByteArray) (b ok : Value) : Nat := match ok with | .bool true => s.size + 1 - (intOf b).toNat | _ => 0

set_option maxRecDepth 100000 in
set_option maxHeartbeats 2000000 in
theorem frames1_in (n : Nat) (hn : 1 ≤ n) (l Bn n₀ : Nat) (s : ByteArray) (hs : s.size ≤ 20000) (hg : 1 < n₀) (J Jx : List (ByteArray × Nat) → World → Prop) (W : World) (hJ : AbidesFrom W.heap.size J)
    (hY : ∀ pre x W, J pre W → pre.length < s.size + 1 → YieldAt Fence.wide (n - 1) Tryd.prog l #[.string x.1, .int .i64 (x.2 : Int)] W fun e W' =>
      (e = .returned (.bool true) ∧ J (pre ++ [x]) W' ∧ KeepF n₀ Bn W W') ∨ (e = .returned (.bool false) ∧ Jx (pre ++ [x]) W'))
    (hn₀ : n₀ ≤ W.heap.size) (hB : Boxed W Bn 9 (.string s)) (ht : Tab W) (h0 : J [] W) :
    CallsIn Fence.wide n Tryd.prog 82 #[.func (.yield l) #[] #[], .pointer (some ⟨Bn, 0, none⟩)] W fun e W' => (∃ v, e = .returned v) ∧
      ((∃ ys, ys = ufAll s ∧ J ys W') ∨ (∃ pre, True ∧ Jx pre W')) := by
  have HT : Hid (∀ wr, KeepF n₀ Bn W wr → Tab wr) := fun wr hk => ht.keep hk.1 hg
  have HC : Hid (∀ wr, KeepF n₀ Bn W wr → Boxed wr Bn 9 (.string s)) := fun wr hk => hk.2.trans hB
  have HR : Hid (∀ (a : Nat) (wr : World), a ≤ s.size → KeepF n₀ Bn W wr → Calls Tryd.prog 83 #[.string s, .int .i64 (a : Int)] wr fun e w' => e = .returned (.tuple #[.string (ufT (uf1 s a)), .int .i64 (ufB (uf1 s a) : Nat), .bool (uf1 s a).isSome]) ∧ Below wr.heap.size wr w') :=
    fun a wr ha hk => readFrame_any s a wr hs ha (HT.out wr hk)
  have hc0 := hB.cell
  have c0 := HR.out 0 W (by omega) (KeepF.refl _ _ _)
  have hlB := hB.lt
  refine callsIn_of_wp Tryd.func82 rfl trivial ?_ rfl
  simp only [Tryd.ntmps82, List.size_toArray, List.length_cons, List.length_nil, Nat.reduceAdd, Nat.reduceSub, Array.replicate_succ, Array.replicate_zero, List.push_toArray, List.append_toArray, List.nil_append, List.cons_append]
  gi_wp2_with (refine ⟨trivial, ?_⟩; gi_at_call 83; refine (callsIn_wide.2 c0).mono ?_; rintro e w1 ⟨rfl, hb1⟩)
  gi_loopw [3, 4, 5] (fun r b ok wr => Box (∃ (pre : List (ByteArray × Nat)) (a : Nat), r = .string (ufT (uf1 s a)) ∧ b = .int .i64 (ufB (uf1 s a) : Nat) ∧ ok = .bool (uf1 s a).isSome ∧ Hid (Stand s pre a) ∧ J pre wr ∧ KeepF n₀ Bn W wr))
    (fun _ b ok _ => ufLeft s b ok)
  case atStart => exact ⟨⟨[], 0, rfl, rfl, rfl, Stand.start s, hJ [] W w1 none h0 (grownBy_below hb1) (fun r e => by cases e), KeepF.grown hb1 hn₀ hlB⟩⟩
  case round =>
    obtain ⟨pre, a, rfl, rfl, rfl, hst, hJs, hk⟩ := hrel.out
    clear hrel hc0 c0
    have hc := (HC.out wr hk).cell
    cases hu : uf1 s a with
    | none =>
      have HD : Hid (pre = ufAll s) := (hst.out.done hu).1
      have e1 : ufT none = ⟨#[]⟩ := rfl
      have e2 : ufB none = 0 := rfl
      have e3 : (none : Option (ByteArray × Nat)).isSome = false := rfl
      clear hu
      simp only [e1, e2, e3]
      clear e1 e2 e3
      gi_wp2
      refine ⟨fun _ h => (by cases h), ?_⟩
      gi_wp2
      go_end0
      exact ⟨⟨_, rfl⟩, .inl ⟨pre, HD.out, hJs⟩⟩
    | some p =>
      obtain ⟨x, b⟩ := p
      have hbd := uf1_bound hst.out.le hu
      have HST : Hid (Stand s (pre ++ [(x, b)]) b) := hst.out.step hu
      have hpl : pre.length < s.size + 1 := by have := hst.out.len; have := hst.out.le; omega
      have hble : b ≤ s.size := hbd.2.1
      have e1 : ufT (some (x, b)) = x := rfl
      have e2 : ufB (some (x, b)) = b := rfl
      have e3 : (some (x, b)).isSome = true := rfl
      clear hbd hu
      simp only [e1, e2, e3]
      clear e1 e2 e3
      obtain ⟨fn, tmps, assign, body, hy, hR⟩ := hY pre (x, b) wr hJs hpl
      dsimp only at hy
      gi_wp2
      refine hR.mono ?_
      rintro e W3 (⟨rfl, hJ3, hk3⟩ | ⟨rfl, hJx3⟩)
      · have hk4 := hk.trans hk3
        have hc3 := (HC.out W3 hk4).cell
        have c3 := HR.out b W3 hble hk4
        have hl3 := (HC.out W3 hk4).lt
        have hn3 : n₀ ≤ W3.heap.size := Nat.le_trans hn₀ hk4.1.size
        gi_wp2_with (refine ⟨trivial, ?_⟩; gi_at_call 83; refine (callsIn_wide.2 c3).mono ?_; rintro e w4 ⟨rfl, hb4⟩)
        go_roundw
        case rel => exact ⟨⟨pre ++ [(x, b)], b, rfl, rfl, rfl, HST, hJ _ W3 w4 none hJ3 (grownBy_below hb4) (fun r e => by cases e), hk4.trans (KeepF.grown hb4 hn3 hl3)⟩⟩
        case measure =>
          cases hu : uf1 s b with
          | none => simp [ufLeft, intOf]; omega
          | some q =>
            obtain ⟨y, c⟩ := q
            have := uf1_bound hble hu
            simp [ufLeft, intOf, ufB]
            omega
      · gi_wp2
        go_end0
        exact ⟨⟨_, rfl⟩, .inr ⟨pre ++ [(x, b)], trivial, hJx3⟩⟩
end Go.Proofs.YtepfblabdibggabDoor
