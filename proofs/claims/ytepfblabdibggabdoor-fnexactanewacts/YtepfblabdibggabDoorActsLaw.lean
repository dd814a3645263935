/- What a law does with acts: it weighs them, copies them, compares them, marks them. -/
import Derived.Test.YtepfblabdibggabDoorActs
import Derived.Test.YtepfblabdibggabDoorFilesLaw
import Derived.Test.YtepfblabdibggabDoorMarkText
import Derived.Lib.QuietBelow
import Derived.BigQuiet
namespace Go.Proofs.YtepfblabdibggabDoor
open Go.RowKit Go.Sort

theorem Tryd.infoAct : (Tryd.prog.info? 57).map (fun i => (i.zero, i.size, i.bytes)) = some (some (.agg #[.int .i64 0, .string ⟨#[]⟩, .string ⟨#[]⟩, .string ⟨#[]⟩]), 4, 56) := by kernel_rfl



theorem eqAct_same (w : World) (f : Ac) :
    Calls Tryd.prog 30 #[.agg #[.int .i64 f.kd, .string f.nm, .string f.tx, .string f.to], .agg #[.int .i64 f.kd, .string f.nm, .string f.tx, .string f.to]] w fun e w' => e = .returned (.bool true) ∧ Below w.heap.size w w' := by
  go_enter Tryd.func30, Tryd.ntmps30
  go_wp2
  go_ret
  exact ⟨rfl, ((Below.refl w.heap.size w).alloc (Nat.le_refl _) _).alloc (by simp) _⟩

set_option maxHeartbeats 1000000 in
theorem eqActS_same (w : World) (a b : Option Addr) (c1 c2 : Nat) (L : List Ac) (hA : AAt w a L w.heap.size) (hB : AAt w b L w.heap.size) (hl : L.length ≤ 1048576) :
    Calls Tryd.prog 10 #[.slice a L.length c1, .slice b L.length c2] w fun e w' => e = .returned (.bool true) ∧ Below w.heap.size w w' := by
  go_enter Tryd.func10, Tryd.ntmps10
  go_wp2
  go_loopw [5] (fun i wr => Box (∃ (k : Nat), k ≤ L.length ∧ i = .int .i64 k ∧ Below w.heap.size w wr))
    (fun i _ => L.length - (intOf i).toNat)
  case atStart => exact ⟨⟨0, by omega, rfl, Below.refl _ _⟩⟩
  case round =>
    obtain ⟨k, hk, rfl, hbel⟩ := hrel.out
    by_cases hlt : k < L.length
    · obtain ⟨g, off, rfl, hg, hc0, hc1, hc2, hc3⟩ := (hA.below hbel (Nat.le_refl _)) k hlt
      obtain ⟨g', off', rfl, hg', hd0, hd1, hd2, hd3⟩ := (hB.below hbel (Nat.le_refl _)) k hlt
      obtain ⟨f, hf⟩ : ∃ f, L[k] = f := ⟨_, rfl⟩
      rw [hf] at hc0 hc1 hc2 hc3 hd0 hd1 hd2 hd3
      have k0 := cell_regrown hc0
      have k1 := cell_regrown hc1
      have k2 := cell_regrown hc2
      have k3 := cell_regrown hc3
      have l0 := cell_regrown hd0
      have l1 := cell_regrown hd1
      have l2 := cell_regrown hd2
      have l3 := cell_regrown hd3
      have cV : ∀ d os, Calls Tryd.prog 30 #[.agg #[.int .i64 f.kd, .string f.nm, .string f.tx, .string f.to], .agg #[.int .i64 f.kd, .string f.nm, .string f.tx, .string f.to]] (grow (redrawn wr d) os) fun e w'' => e = .returned (.bool true) ∧ ∃ p : Regrown, w'' = grow (redrawn wr p.d) p.os := fun d os => Calls.regrown_of (by have := eqAct_same (grow (redrawn wr d) os) f; simpa using this)
      clear hA hB hrel hc0 hc1 hc2 hc3 hd0 hd1 hd2 hd3
      have hi1 : (0 : Int) ≤ (k : Int) := by omega
      have hi2 : (k : Int) < (L.length : Int) := by omega
      go_wp2
      refine wp_region_quiet_below (by kernel_rfl) (by kernel_rfl) ?_
      repeat (first | go_big_quiet_step (exact cV _ _) | quiet_step (exact cV _ _))
      refine wpQuiet_nil ?_
      intro _ hw'
      obtain ⟨⟨dq, osq⟩, hw''⟩ := hw'
      subst hw''
      go_wp2
      go_roundw
      case rel =>
        try ((repeat apply Exists.intro); refine ⟨?_, rfl⟩)
        exact ⟨⟨k + 1, by omega, by go_num, hbel.trans ((below_regrown wr dq osq).mono hbel.size)⟩⟩
      case measure => simp [intOf]; omega
    · go_wp2
      go_ret
      exact ⟨rfl, hbel⟩
end Go.Proofs.YtepfblabdibggabDoor
