/- Texts that stand in one: SkLaw3, StrsLaw, FigPlain. -/
import Derived.Test.YtpgcfgbhkodmeaaSkLaw2
import Derived.Test.YtpgcfgbhkodmeaaStrsJ
import Derived.Laws.OwnMore
import Derived.Lib.QuietBelow
import Derived.BigQuiet
import Derived.Test.YtpgcfgbhkodmeaaSkBaseJ
namespace Go.Proofs.Ytpgcfgbhkodmeaa
open Go.RowKit

/-- A sketch in a variable whose rows hold other numbers. -/
structure SM (w : World) (lo T : Nat) (a : Option Addr) (c : Nat) (S : Sk) (MM : List (List Int)) : Prop where
  le : lo ≤ T
  box : SkBox w T (.slice a S.rows.length c) (.int .i64 S.added)
  own : OwnSS w lo T (.slice a S.rows.length c) MM
theorem SM.on {w w' : World} {lo T : Nat} {a : Option Addr} {c : Nat} {S : Sk} {MM : List (List Int)} (h : SM w lo T a c S MM) (hb : Below w.heap.size w w') : SM w' lo T a c S MM := ⟨h.le, h.box.on hb, h.own.below hb (Nat.le_refl _)⟩
end Go.Proofs.Ytpgcfgbhkodmeaa

namespace Go.Proofs.Ytpgcfgbhkodmeaa
open Go.RowKit Go.Sort
theorem Try.infoStr : (Try.prog.info? 9).map (fun i => (i.zero, i.size, i.bytes)) = some (some (.string ⟨#[]⟩), 1, 16) := by kernel_rfl
/-- How much the first k of them hold. -/
def wgtL (L : List ByteArray) : Nat := (L.map ByteArray.size).sum
theorem wgtL_take (L : List ByteArray) (k : Nat) (h : k < L.length) : wgtL (L.take (k + 1)) = wgtL (L.take k) + L[k].size := by
  unfold wgtL
  rw [List.take_succ_eq_append_getElem h, List.map_append, List.sum_append]
  simp
theorem wgtL_mem {L : List ByteArray} {p : ByteArray} (h : p ∈ L) : p.size ≤ wgtL L := by
  induction L with
  | nil => cases h
  | cons q r ih =>
    unfold wgtL at *
    rw [List.map_cons, List.sum_cons]
    rcases List.mem_cons.1 h with h | h
    · rw [h]; omega
    · have := ih h; omega
set_option maxHeartbeats 2000000 in
theorem szStringS_any (w : World) (a : Option Addr) (c : Nat) (L : List ByteArray) (left : Int) (h0 : 0 ≤ left) (h1 : left ≤ 1048576) (hA : LAt w a L w.heap.size) (hm : L.length ≤ maxLen) (hz : ∀ j (hj : j < L.length), L[j].size ≤ maxLen) :
    Calls Try.prog 54 #[.slice a L.length c, .int .i64 left] w fun e w' => ∃ r : Int, e = .returned (.int .i64 r) ∧ (r = -1 ∨ 0 ≤ r ∧ r + (L.length : Int) + (wgtL L : Int) = left) ∧ w' = w := by
  unfold maxLen at hm hz
  by_cases hC : left - (L.length : Int) < 0
  · go_enter Try.func54, Try.ntmps54
    go_wp2
    go_ret
    exact ⟨_, rfl, .inl rfl, rfl⟩
  · go_enter Try.func54, Try.ntmps54
    go_wp2
    go_loopw [1, 5] (fun r i wr => Box (∃ (k : Nat) (x : Int), k ≤ L.length ∧ 0 ≤ x ∧ x ≤ 1048576 ∧ r = .int .i64 x ∧ i = .int .i64 k ∧ Hid (x + (L.length : Int) + (wgtL (L.take k) : Int) = left) ∧ wr = w))
      (fun _ i _ => L.length - (intOf i).toNat)
    case atStart => exact ⟨⟨0, left - (L.length : Int), by omega, by omega, by omega, rfl, rfl, (by show _ = _; simp [wgtL]), rfl⟩⟩
    case round =>
      obtain ⟨k, x, hk, hx0, hx1, rfl, rfl, HX, hwr⟩ := hrel.out
      rw [hwr]
      clear hwr hrel
      by_cases hlt : k < L.length
      · obtain ⟨g, off, rfl, _, hc⟩ := hA k hlt
        obtain ⟨p, hp⟩ : ∃ p, L[k] = p := ⟨_, rfl⟩
        have hpz := hz k hlt
        rw [hp] at hc hpz
        have HW : Hid (wgtL (L.take (k + 1)) = wgtL (L.take k) + p.size) := by show _ = _; rw [wgtL_take L k hlt, hp]
        have hi1 : (0 : Int) ≤ (k : Int) := by omega
        have hi2 : (k : Int) < (L.length : Int) := by omega
        clear hA hz hp
        by_cases hn : x - (p.size : Int) < 0
        · go_wp2
          go_ret
          exact ⟨_, rfl, .inl rfl, rfl⟩
        · go_wp2
          go_roundw
          case rel =>
            try ((repeat apply Exists.intro); refine ⟨?_, rfl⟩)
            exact ⟨⟨k + 1, x - (p.size : Int), by omega, by omega, by omega, by go_num, by go_num, (by show _ = _; have h1 := HX.out; have h2 := HW.out; omega), by first | rfl | trivial⟩⟩
          case measure => simp [intOf]; omega
      · have hi2 : ¬ (k : Int) < (L.length : Int) := by omega
        have hke : k = L.length := by omega
        have HE : Hid (x + (L.length : Int) + (wgtL L : Int) = left) := by
          have h := HX.out
          rw [hke, List.take_length] at h
          exact h
        clear HX hke
        go_wp2
        go_ret
        exact ⟨x, rfl, .inr ⟨hx0, HE.out⟩, rfl⟩
set_option maxHeartbeats 1000000 in
theorem toStringS_any (w : World) (a : Option Addr) (cap : Nat) (l : List ByteArray) (hL : LAt w a l w.heap.size) (hm : l.length ≤ 1048576) :
    Calls Try.prog 59 #[.slice a l.length cap] w fun e w' => ∃ v, e = .returned v ∧ OwnV w' w.heap.size 9 v (strs l) ∧ Below w.heap.size w w' := by
  obtain ⟨i0, hi, hz0, hz1, hz2⟩ := info_parts Try.infoStr
  obtain ⟨w0, hmk, hown0, hgr0⟩ := run_make_full (P := Try.prog) w w.heap.size 23 9 i0 (.string ⟨#[]⟩) 1 Try.underlying23 hi hz0 hz1 .i64 .i64 l.length (by rw [hz2]; omega) (by unfold maxLen; omega) (Nat.le_refl _)
  have hb0 : Below w.heap.size w w0 := ⟨hgr0.os, hgr0.tape, hgr0.output, hgr0.size, fun j hj => hgr0.block j hj (by simp)⟩
  obtain ⟨G, hG⟩ : ∃ G, w.heap.size = G := ⟨_, rfl⟩
  have hown : OwnV w0 G 9 (.slice (some ⟨G, 0, none⟩) l.length l.length) (strs [] ++ List.replicate l.length (.string ⟨#[]⟩)) := by
    rw [← hG]
    have := hown0
    simp only [Value.cells, Nat.mul_one, toList_madeCells_one] at this
    unfold OwnV
    simpa [Go.Proofs.Ytpgcfgbhkodmeaa.strs] using this
  rw [hG] at hmk
  clear hown0 hgr0 hi hz0 hz1 hz2
  go_enter Try.func59, Try.ntmps59
  go_wp2
  go_loopw [4] (fun i wr => Box (∃ (k : Nat), k ≤ l.length ∧ i = .int .i64 k ∧ OwnV wr G 9 (.slice (some ⟨G, 0, none⟩) l.length l.length) (strs (l.take k) ++ List.replicate (l.length - k) (.string ⟨#[]⟩)) ∧ Below w.heap.size w wr))
    (fun i _ => l.length - (intOf i).toNat)
  case atStart => exact ⟨⟨0, by omega, rfl, by simpa using hown, hb0⟩⟩
  case round =>
    obtain ⟨k, hk, rfl, hown1, hbel⟩ := hrel.out
    by_cases hlt : k < l.length
    · obtain ⟨g, off, rfl, hg, hc0⟩ := (hL.below hbel (Nat.le_refl _)) k hlt
      have hlen : l.length = (strs (l.take k) ++ List.replicate (l.length - k) (Value.string ⟨#[]⟩)).length := by simp [strs_length]; omega
      have hst := hown1.stored hlen k (.string l[k])
      have hset : (strs (l.take k) ++ List.replicate (l.length - k) (Value.string ⟨#[]⟩)).set k (.string l[k]) = strs (l.take (k + 1)) ++ List.replicate (l.length - (k + 1)) (.string ⟨#[]⟩) := by
        rw [List.set_append_right _ _ (by simp [strs_length]; omega), strs_length, List.length_take, show k - min k l.length = 0 by omega, show l.length - k = (l.length - (k + 1)) + 1 by omega, List.replicate_succ, List.set_cons_zero, List.take_succ_eq_append_getElem hlt]
        simp only [Go.Proofs.Ytpgcfgbhkodmeaa.strs, List.map_append, List.map_cons, List.map_nil, List.append_assoc]
        rfl
      rw [hset] at hst
      obtain ⟨a', cap', hv, hc⟩ := hown1.shape
      obtain ⟨g', hg', hcell, hfr, _, hgs⟩ := hc k (by omega)
      rw [hg'] at hv
      simp only [Value.slice.injEq, Option.some.injEq, Addr.mk.injEq, and_true] at hv
      obtain ⟨rfl, e1, e2⟩ := hv
      clear e1 e2
      obtain ⟨x, hx⟩ : ∃ x, l[k] = x := ⟨_, rfl⟩
      obtain ⟨u, hu⟩ : ∃ u, (strs (l.take k) ++ List.replicate (l.length - k) (Value.string ⟨#[]⟩))[k]'(by omega) = u := ⟨_, rfl⟩
      rw [hx] at hc0 hst
      rw [hu] at hcell
      have HST : Hid (OwnV (wr.setCell ⟨G, k, none⟩ (.string x)) G 9 (.slice (some ⟨G, 0, none⟩) l.length l.length) (strs (l.take (k + 1)) ++ List.replicate (l.length - (k + 1)) (.string ⟨#[]⟩)) ∧ Below w.heap.size w (wr.setCell ⟨G, k, none⟩ (.string x))) := ⟨hst.1, hbel.setCell (by simp; omega) _⟩
      have hi1 : (0 : Int) ≤ (k : Int) := by omega
      have hi2 : (k : Int) < (l.length : Int) := by omega
      clear hrel hL hst hset hlen hc hu hx hg' hown1 hmk hown hb0
      go_wp2
      go_roundw
      case rel =>
        try ((repeat apply Exists.intro); refine ⟨?_, rfl⟩)
        exact ⟨⟨k + 1, by omega, by go_num, HST.out.1, HST.out.2⟩⟩
      case measure => simp [intOf]; omega
    · go_wp2
      go_ret
      have hke : k = l.length := by omega
      subst hke
      simp only [List.take_length, Nat.sub_self, List.replicate_zero, List.append_nil] at hown1
      exact ⟨_, rfl, by rw [hG]; exact hown1, hbel⟩

set_option maxHeartbeats 1000000 in
theorem eqStringS_same (w : World) (a b : Option Addr) (c1 c2 : Nat) (l : List ByteArray) (hA : LAt w a l w.heap.size) (hB : LAt w b l w.heap.size) (hl : l.length ≤ 1048576) :
    Calls Try.prog 65 #[.slice a l.length c1, .slice b l.length c2] w fun e w' => e = .returned (.bool true) ∧ Below w.heap.size w w' := by
  go_enter Try.func65, Try.ntmps65
  go_wp2
  go_loopw [5] (fun i wr => Box (∃ (k nq : Nat), k ≤ l.length ∧ i = .int .i64 k ∧ wr = w.drewN nq))
    (fun i _ => l.length - (intOf i).toNat)
  case atStart => exact ⟨⟨0, 0, by omega, rfl, rfl⟩⟩
  case round =>
    obtain ⟨k, nq, hk, rfl, rfl⟩ := hrel.out
    by_cases hlt : k < l.length
    · obtain ⟨g, off, rfl, _, hc1⟩ := hA k hlt
      obtain ⟨g2, off2, rfl, _, hc2⟩ := hB k hlt
      obtain ⟨x, hx⟩ : ∃ x, l[k] = x := ⟨_, rfl⟩
      rw [hx] at hc1 hc2
      clear hA hB hx hrel
      have hi1 : (0 : Int) ≤ (k : Int) := by omega
      have hi2 : (k : Int) < (l.length : Int) := by omega
      go_wp2
      go_quiet (fail)
      go_wp2
      go_roundw
      case rel =>
        try ((repeat apply Exists.intro); refine ⟨?_, rfl⟩)
        exact ⟨⟨k + 1, _, by omega, by go_num, rfl⟩⟩
      case measure => simp [intOf]; omega
    · go_wp2
      go_ret
      exact ⟨rfl, ⟨rfl, rfl, rfl, Nat.le_refl _, fun _ _ => rfl⟩⟩

end Go.Proofs.Ytpgcfgbhkodmeaa

namespace Go.Proofs.Ytpgcfgbhkodmeaa
open Go.RowKit

/-- A figure. -/
def fig (x : Nat) : UInt8 := if x < 10 then UInt8.ofNat (48 + x) else UInt8.ofNat (87 + x)

theorem fig_lo {x : Nat} (h : x < 10) : (fig x).toNat = 48 + x := by simp [fig, h]; omega

theorem fig_hi {x : Nat} (h : ¬ x < 10) (h2 : x < 16) : (fig x).toNat = 87 + x := by simp [fig, h]; omega
end Go.Proofs.Ytpgcfgbhkodmeaa
