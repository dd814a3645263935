/- Texts that stand in one: Ints, Touch. -/
import Derived.Test.YtpgcfgbhkodmeaaRowedJ
import Derived.Laws.OwnMore
import Derived.Lib.QuietBelow
import Derived.BigQuiet
namespace Go.Proofs.Ytpgcfgbhkodmeaa
open Go.RowKit Go.Sort

theorem Try.infoInt : (Try.prog.info? 3).map (fun i => (i.zero, i.size, i.bytes)) = some (some (.int .i64 0), 1, 8) := by kernel_rfl


/-- The numbers l lie at the address a, below the block B. -/
def IAt (w : World) (a : Option Addr) (l : List Int) (B : Nat) : Prop :=
  ∀ j (hj : j < l.length), ∃ g off, a = some ⟨g, off, none⟩ ∧ g < B ∧ w.cell? ⟨g, off + j, none⟩ = some (.int .i64 l[j])
theorem IAt.below {w w' : World} {a : Option Addr} {l : List Int} {B B' : Nat} (h : IAt w a l B) (hb : Below B' w w') (hB : B ≤ B') : IAt w' a l B := by
  intro j hj
  obtain ⟨g, off, ha, hg, h1⟩ := h j hj
  exact ⟨g, off, ha, hg, (hb.cell (Nat.lt_of_lt_of_le hg hB)).trans h1⟩
theorem IAt.mono {w : World} {a : Option Addr} {l : List Int} {B B' : Nat} (h : IAt w a l B) (hB : B ≤ B') : IAt w a l B' := by
  intro j hj
  obtain ⟨g, off, ha, hg, r⟩ := h j hj
  exact ⟨g, off, ha, Nat.lt_of_lt_of_le hg hB, r⟩
theorem IAt.on {w w' : World} {a : Option Addr} {l : List Int} (h : IAt w a l w.heap.size) (hb : Below w.heap.size w w') : IAt w' a l w'.heap.size := (h.below hb (Nat.le_refl _)).mono hb.size
theorem OwnV.ints {w : World} {base : Nat} {e : TypeId} {v : Value} {l : List Int} (h : OwnV w base e v (ints l)) : ∃ a cap, v = .slice a l.length cap ∧ IAt w a l w.heap.size := by
  obtain ⟨a, cap, hv, hc⟩ := h.shape
  rw [ints_length] at hv
  refine ⟨a, cap, hv, fun j hj => ?_⟩
  obtain ⟨g, ha, hcell, _, _, hg⟩ := hc j (by rw [ints_length]; exact hj)
  rw [ints_at hj] at hcell
  exact ⟨g, 0, ha, hg, by simpa using hcell⟩

set_option maxHeartbeats 1000000 in
theorem toIntS_any (w : World) (a : Option Addr) (cap : Nat) (l : List Int) (hL : IAt w a l w.heap.size) (hm : l.length ≤ 1048576) :
    Calls Try.prog 38 #[.slice a l.length cap] w fun e w' => ∃ v, e = .returned v ∧ OwnV w' w.heap.size 3 v (ints l) ∧ Below w.heap.size w w' := by
  obtain ⟨i0, hi, hz0, hz1, hz2⟩ := info_parts Try.infoInt
  obtain ⟨w0, hmk, hown0, hgr0⟩ := run_make_full (P := Try.prog) w w.heap.size 49 3 i0 (.int .i64 0) 1 Try.underlying49 hi hz0 hz1 .i64 .i64 l.length (by rw [hz2]; omega) (by unfold maxLen; omega) (Nat.le_refl _)
  have hb0 : Below w.heap.size w w0 := ⟨hgr0.os, hgr0.tape, hgr0.output, hgr0.size, fun j hj => hgr0.block j hj (by simp)⟩
  obtain ⟨G, hG⟩ : ∃ G, w.heap.size = G := ⟨_, rfl⟩
  have hown : OwnV w0 G 3 (.slice (some ⟨G, 0, none⟩) l.length l.length) (ints [] ++ List.replicate l.length (.int .i64 0)) := by
    rw [← hG]
    have := hown0
    simp only [Value.cells, Nat.mul_one, toList_madeCells_one] at this
    unfold OwnV
    simpa [Go.Proofs.Ytpgcfgbhkodmeaa.ints] using this
  rw [hG] at hmk
  clear hown0 hgr0 hi hz0 hz1 hz2
  go_enter Try.func38, Try.ntmps38
  go_wp2
  go_loopw [4] (fun i wr => Box (∃ (k : Nat), k ≤ l.length ∧ i = .int .i64 k ∧ OwnV wr G 3 (.slice (some ⟨G, 0, none⟩) l.length l.length) (ints (l.take k) ++ List.replicate (l.length - k) (.int .i64 0)) ∧ Below w.heap.size w wr))
    (fun i _ => l.length - (intOf i).toNat)
  case atStart => exact ⟨⟨0, by omega, rfl, by simpa using hown, hb0⟩⟩
  case round =>
    obtain ⟨k, hk, rfl, hown1, hbel⟩ := hrel.out
    by_cases hlt : k < l.length
    · obtain ⟨g, off, rfl, hg, hc0⟩ := (hL.below hbel (Nat.le_refl _)) k hlt
      have hlen : l.length = (ints (l.take k) ++ List.replicate (l.length - k) (Value.int .i64 0)).length := by simp [ints_length]; omega
      have hst := hown1.stored hlen k (.int .i64 l[k])
      have hset : (ints (l.take k) ++ List.replicate (l.length - k) (Value.int .i64 0)).set k (.int .i64 l[k]) = ints (l.take (k + 1)) ++ List.replicate (l.length - (k + 1)) (.int .i64 0) := by
        rw [List.set_append_right _ _ (by simp [ints_length]; omega), ints_length, List.length_take, show k - min k l.length = 0 by omega, show l.length - k = (l.length - (k + 1)) + 1 by omega, List.replicate_succ, List.set_cons_zero, List.take_succ_eq_append_getElem hlt]
        simp only [Go.Proofs.Ytpgcfgbhkodmeaa.ints, List.map_append, List.map_cons, List.map_nil, List.append_assoc]
        rfl
      rw [hset] at hst
      obtain ⟨a', cap', hv, hc⟩ := hown1.shape
      obtain ⟨g', hg', hcell, hfr, _, hgs⟩ := hc k (by omega)
      rw [hg'] at hv
      simp only [Value.slice.injEq, Option.some.injEq, Addr.mk.injEq, and_true] at hv
      obtain ⟨rfl, e1, e2⟩ := hv
      clear e1 e2
      obtain ⟨x, hx⟩ : ∃ x, l[k] = x := ⟨_, rfl⟩
      obtain ⟨u, hu⟩ : ∃ u, (ints (l.take k) ++ List.replicate (l.length - k) (Value.int .i64 0))[k]'(by omega) = u := ⟨_, rfl⟩
      rw [hx] at hc0 hst
      rw [hu] at hcell
      have HST : Hid (OwnV (wr.setCell ⟨G, k, none⟩ (.int .i64 x)) G 3 (.slice (some ⟨G, 0, none⟩) l.length l.length) (ints (l.take (k + 1)) ++ List.replicate (l.length - (k + 1)) (.int .i64 0)) ∧ Below w.heap.size w (wr.setCell ⟨G, k, none⟩ (.int .i64 x))) := ⟨hst.1, hbel.setCell (by simp; omega) _⟩
      have hi1 : (0 : Int) ≤ (k : Int) := by omega
      have hi2 : (k : Int) < (l.length : Int) := by omega
      clear hrel hL hst hset hlen hc hu hx hg' hown1 hmk hown hb0
      go_wp2
      go_roundw
      case rel =>
        try ((repeat apply Exists.intro); refine ⟨?_, rfl⟩)
        exact ⟨⟨k + 1, by omega, by go_num, HST.out.1, HST.out.2⟩⟩
      case measure => simp [intOf]; omega
    · go_wp2
      go_ret
      have hke : k = l.length := by omega
      subst hke
      simp only [List.take_length, Nat.sub_self, List.replicate_zero, List.append_nil] at hown1
      exact ⟨_, rfl, by rw [hG]; exact hown1, hbel⟩

set_option maxHeartbeats 1000000 in
theorem eqIntS_same (w : World) (a b : Option Addr) (c1 c2 : Nat) (l : List Int) (hA : IAt w a l w.heap.size) (hB : IAt w b l w.heap.size) (hl : l.length ≤ 1048576) :
    Calls Try.prog 41 #[.slice a l.length c1, .slice b l.length c2] w fun e w' => e = .returned (.bool true) ∧ Below w.heap.size w w' := by
  go_enter Try.func41, Try.ntmps41
  go_wp2
  go_loopw [5] (fun i wr => Box (∃ (k nq : Nat), k ≤ l.length ∧ i = .int .i64 k ∧ wr = w.drewN nq))
    (fun i _ => l.length - (intOf i).toNat)
  case atStart => exact ⟨⟨0, 0, by omega, rfl, rfl⟩⟩
  case round =>
    obtain ⟨k, nq, hk, rfl, rfl⟩ := hrel.out
    by_cases hlt : k < l.length
    · obtain ⟨g, off, rfl, _, hc1⟩ := hA k hlt
      obtain ⟨g2, off2, rfl, _, hc2⟩ := hB k hlt
      obtain ⟨x, hx⟩ : ∃ x, l[k] = x := ⟨_, rfl⟩
      rw [hx] at hc1 hc2
      clear hA hB hx hrel
      have hi1 : (0 : Int) ≤ (k : Int) := by omega
      have hi2 : (k : Int) < (l.length : Int) := by omega
      go_wp2
      go_quiet (fail)
      go_wp2
      go_roundw
      case rel =>
        try ((repeat apply Exists.intro); refine ⟨?_, rfl⟩)
        exact ⟨⟨k + 1, _, by omega, by go_num, rfl⟩⟩
      case measure => simp [intOf]; omega
    · go_wp2
      go_ret
      exact ⟨rfl, ⟨rfl, rfl, rfl, Nat.le_refl _, fun _ _ => rfl⟩⟩

end Go.Proofs.Ytpgcfgbhkodmeaa

namespace Go.Proofs.Ytpgcfgbhkodmeaa
open Go.RowKit

/-- Of the blocks that were there only those of S may be others. -/
def Tch (S : Nat → Prop) (w w' : World) : Prop := Below 0 w w' ∧ ∀ k, k < w.heap.size → ¬ S k → w'.heap[k]? = w.heap[k]?
theorem Tch.size {S : Nat → Prop} {w w' : World} (h : Tch S w w') : w.heap.size ≤ w'.heap.size := h.1.size
theorem Tch.of_below {S : Nat → Prop} {w w' : World} (h : Below w.heap.size w w') : Tch S w w' := ⟨h.mono (Nat.zero_le _), fun k hk _ => h.block k hk⟩
theorem Tch.of_grown {S : Nat → Prop} {w w' : World} {row : Option Nat} (h : w.grownBy w' row) (hS : ∀ k, row = some k → S k) : Tch S w w' :=
  ⟨⟨h.os, h.tape, h.output, h.size, fun _ hk => absurd hk (Nat.not_lt_zero _)⟩, fun k hk hn => h.block k hk (fun e => hn (hS k e.symm))⟩
theorem Tch.trans {S : Nat → Prop} {a b c : World} (h : Tch S a b) (k : Tch S b c) : Tch S a c :=
  ⟨h.1.trans k.1, fun j hj hn => (k.2 j (Nat.lt_of_lt_of_le hj h.size) hn).trans (h.2 j hj hn)⟩
theorem Tch.weak {S S' : Nat → Prop} {w w' : World} (h : Tch S w w') (hS : ∀ k, S k → S' k) : Tch S' w w' := ⟨h.1, fun k hk hn => h.2 k hk (fun e => hn (hS k e))⟩
theorem Tch.below {S : Nat → Prop} {w0 w w' : World} {B : Nat} (hb : Below B w0 w) (h : Tch S w w') (hB : B ≤ w.heap.size) (hS : ∀ k, S k → B ≤ k) : Below B w0 w' :=
  ⟨h.1.os.trans hb.os, h.1.tape.trans hb.tape, h.1.output.trans hb.output, Nat.le_trans hb.size h.size, fun k hk => (h.2 k (by omega) (fun e => by have := hS k e; omega)).trans (hb.block k hk)⟩
theorem Tch.keep {S : Nat → Prop} {w w' : World} (h : Tch S w w') {k : Nat} {o : Obj} (hk : w.heap[k]? = some o) (hn : ¬ S k) : w'.heap[k]? = some o := (h.2 k (Array.getElem?_eq_some_iff.1 hk).1 hn).trans hk
theorem OwnV.tch {S : Nat → Prop} {w w' : World} {base : Nat} {e : TypeId} {v : Value} {xs : List Value} (h : OwnV w base e v xs) (ht : Tch S w w') (hn : ∀ k, v.ownBlock = some k → ¬ S k) : OwnV w' base e v xs := h.kept fun k hk => ht.2 k (h.lt k hk).2 (hn k hk)
end Go.Proofs.Ytpgcfgbhkodmeaa
