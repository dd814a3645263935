/- What a law does with Clients: it weighs them, copies them, compares them. Written by mkrowg.py. -/
import Derived.Test.YtpgcfgbhkodmeaaCliRows
import Derived.Test.YtpgcfgbhkodmeaaMarkTextJ
import Derived.Lib.QuietBelow
import Derived.BigQuiet
namespace Go.Proofs.Ytpgcfgbhkodmeaa
open Go.RowKit Go.Sort

theorem Try.infoCli : (Try.prog.info? 88).map (fun i => (i.zero, i.size, i.bytes)) = some (some (.agg #[.int .i64 0, .string ⟨#[]⟩, .int .i64 0, .int .i64 0, .int .i64 0, .string ⟨#[]⟩, .int .i64 0]), 7, 72) := by kernel_rfl

set_option maxHeartbeats 1000000 in
theorem szClient_any (w : World) (f : Cli) (left : Int) (h0 : 0 ≤ left) (h1 : left ≤ 1048576) (hn1 : f.key.size ≤ maxLen) (hn5 : f.got.size ≤ maxLen) :
    Calls Try.prog 57 #[.agg #[.int .i64 f.id, .string f.key, .int .i64 f.fe, .int .i64 f.fr, .int .i64 f.st, .string f.got, .int .i64 f.ag], .int .i64 left] w fun e w' => ∃ r : Int, e = .returned (.int .i64 r) ∧ (r = -1 ∨ 0 ≤ r ∧ r + (f.wg : Int) = left) ∧ Below w.heap.size w w' := by
  obtain ⟨a0, a1, a2, a3, a4, a5, a6⟩ := f
  dsimp only at *
  unfold maxLen at hn1 hn5
  have hb := (Below.refl w.heap.size w).alloc (Nat.le_refl _) (.cells #[.int .i64 a0, .string a1, .int .i64 a2, .int .i64 a3, .int .i64 a4, .string a5, .int .i64 a6] 104)
  by_cases hA : left - a1.size < 0
  · go_enter Try.func57, Try.ntmps57
    go_wp2
    go_ret
    exact ⟨_, rfl, .inl rfl, hb⟩
  · by_cases hB : left - a1.size - a5.size < 0
    · go_enter Try.func57, Try.ntmps57
      go_wp2
      go_ret
      exact ⟨_, rfl, .inl rfl, hb⟩
    · go_enter Try.func57, Try.ntmps57
      go_wp2
      go_ret
      exact ⟨_, rfl, .inr ⟨by omega, by simp only [Cli.wg]; omega⟩, hb⟩
theorem toClient_any (w : World) (f : Cli) :
    Calls Try.prog 62 #[.agg #[.int .i64 f.id, .string f.key, .int .i64 f.fe, .int .i64 f.fr, .int .i64 f.st, .string f.got, .int .i64 f.ag]] w fun e w' => e = .returned (.agg #[.int .i64 f.id, .string f.key, .int .i64 f.fe, .int .i64 f.fr, .int .i64 f.st, .string f.got, .int .i64 f.ag]) ∧ Below w.heap.size w w' := by
  go_enter Try.func62, Try.ntmps62
  go_wp2
  refine bodyPost_ret (v := .agg #[.int .i64 f.id, .string f.key, .int .i64 f.fe, .int .i64 f.fr, .int .i64 f.st, .string f.got, .int .i64 f.ag]) (by simp [results, Try.results62, go_sem]) rfl ⟨rfl, ?_⟩
  exact (((Below.refl w.heap.size w).alloc (Nat.le_refl _) _).alloc (by simp) _).alloc (by simp; omega) _
theorem eqClient_same (w : World) (f : Cli) :
    Calls Try.prog 68 #[.agg #[.int .i64 f.id, .string f.key, .int .i64 f.fe, .int .i64 f.fr, .int .i64 f.st, .string f.got, .int .i64 f.ag], .agg #[.int .i64 f.id, .string f.key, .int .i64 f.fe, .int .i64 f.fr, .int .i64 f.st, .string f.got, .int .i64 f.ag]] w fun e w' => e = .returned (.bool true) ∧ Below w.heap.size w w' := by
  go_enter Try.func68, Try.ntmps68
  go_wp2
  go_ret
  exact ⟨rfl, ((Below.refl w.heap.size w).alloc (Nat.le_refl _) _).alloc (by simp) _⟩
set_option maxHeartbeats 1000000 in
theorem szClientS_any (w : World) (a : Option Addr) (cap : Nat) (L : List Cli) (left : Int) (h0 : 0 ≤ left) (h1 : left ≤ 1048576) (hL : CliAt w a L w.heap.size) (hs : SizedCli L) (hm : L.length ≤ maxLen) :
    Calls Try.prog 24 #[.slice a L.length cap, .int .i64 left] w fun e w' => ∃ r : Int, e = .returned (.int .i64 r) ∧ (r = -1 ∨ 0 ≤ r ∧ r + ((L.length + clwg L : Nat) : Int) = left) ∧ Below w.heap.size w w' := by
  unfold maxLen at hm
  by_cases hA : left - L.length < 0
  · go_enter Try.func24, Try.ntmps24
    go_wp2
    go_ret
    exact ⟨_, rfl, .inl rfl, Below.refl _ _⟩
  · go_enter Try.func24, Try.ntmps24
    go_wp2
    go_loopw [1, 5] (fun n i wr => Box (∃ (k : Nat) (r : Int), k ≤ L.length ∧ i = .int .i64 k ∧ n = .int .i64 r ∧ 0 ≤ r ∧ r + ((L.length + clwg (L.take k) : Nat) : Int) = left ∧ Below w.heap.size w wr))
      (fun _ i _ => L.length - (intOf i).toNat)
    case atStart => exact ⟨⟨0, _, by omega, rfl, rfl, by omega, by simp [clwg], Below.refl _ _⟩⟩
    case round =>
      obtain ⟨k, r, hk, rfl, rfl, hr0, hr, hbel⟩ := hrel.out
      by_cases hlt : k < L.length
      · obtain ⟨g, off, rfl, hg, hc0, hc1, hc2, hc3, hc4, hc5, hc6⟩ := (hL.below hbel (Nat.le_refl _)) k hlt
        have hsz := hs k hlt
        have hstep := clwg_take_succ L k hlt
        obtain ⟨f, hf⟩ : ∃ f, L[k] = f := ⟨_, rfl⟩
        rw [hf] at hc0 hc1 hc2 hc3 hc4 hc5 hc6 hsz hstep
        have c1 := szClient_any wr f r (by omega) (by omega) hsz.1.1 hsz.1.2
        clear hL hs hsz hrel
        have hi1 : (0 : Int) ≤ (k : Int) := by omega
        have hi2 : (k : Int) < (L.length : Int) := by omega
        go_wp2_with fail
        refine c1.mono ?_
        rintro e w1 ⟨r1, rfl, hr1, hb1⟩
        have hbel1 := hbel.trans (hb1.mono hbel.size)
        rcases hr1 with rfl | ⟨hp, hr1⟩
        · go_wp2
          go_ret
          exact ⟨_, rfl, .inl rfl, hbel1⟩
        · go_wp2
          go_roundw
          case rel =>
            try ((repeat apply Exists.intro); refine ⟨?_, rfl⟩)
            exact ⟨⟨k + 1, _, by omega, by go_num, rfl, hp, by omega, hbel1⟩⟩
          case measure => simp [intOf]; omega
      · go_wp2
        go_ret
        have hke : k = L.length := by omega
        subst hke
        rw [List.take_length] at hr
        exact ⟨_, rfl, .inr ⟨hr0, hr⟩, hbel⟩

set_option maxHeartbeats 1000000 in
theorem toClientS_any (w : World) (a : Option Addr) (cap : Nat) (L : List Cli) (hL : CliAt w a L w.heap.size) (hm : L.length ≤ 1048576) :
    Calls Try.prog 28 #[.slice a L.length cap] w fun e w' => ∃ v, e = .returned v ∧ OwnCli w' w.heap.size 88 v L ∧ Below w.heap.size w w' := by
  obtain ⟨w0, hmk, hown, hb0⟩ := make_clis (P := Try.prog) w 40 88 Try.underlying40 Try.infoCli L.length hm
  obtain ⟨G, hG⟩ : ∃ G, w.heap.size = G := ⟨_, rfl⟩
  rw [hG] at hmk hown
  go_enter Try.func28, Try.ntmps28
  go_wp2
  go_loopw [4] (fun i wr => Box (∃ (k : Nat), k ≤ L.length ∧ i = .int .i64 k ∧ OwnCli wr G 88 (.slice (some ⟨G, 0, none⟩) L.length L.length) (L.take k ++ List.replicate (L.length - k) zCli) ∧ Below w.heap.size w wr))
    (fun i _ => L.length - (intOf i).toNat)
  case atStart => exact ⟨⟨0, by omega, rfl, by simpa using hown, hb0⟩⟩
  case round =>
    obtain ⟨k, hk, rfl, hown1, hbel⟩ := hrel.out
    by_cases hlt : k < L.length
    · obtain ⟨g, off, rfl, hg, hc0, hc1, hc2, hc3, hc4, hc5, hc6⟩ := (hL.below hbel (Nat.le_refl _)) k hlt
      have hset := take_set_zCli L k hlt
      obtain ⟨f, hf⟩ : ∃ f, L[k] = f := ⟨_, rfl⟩
      rw [hf] at hc0 hc1 hc2 hc3 hc4 hc5 hc6
      have c1 := toClient_any wr f
      have hlen : L.length = (L.take k ++ List.replicate (L.length - k) zCli).length := by simp; omega
      have HX : Hid (∀ w1, Below wr.heap.size wr w1 → OwnCli w1 G 88 (.slice (some ⟨G, 0, none⟩) L.length L.length) (L.take k ++ List.replicate (L.length - k) zCli)) := fun w1 hb => hown1.below hb (Nat.le_refl _)
      have HS : Hid (L.length = (L.take k ++ List.replicate (L.length - k) zCli).length ∧ (L.take k ++ List.replicate (L.length - k) zCli).set k f = L.take (k + 1) ++ List.replicate (L.length - (k + 1)) zCli) := ⟨hlen, hset f hf⟩
      clear hL hrel
      have hi1 : (0 : Int) ≤ (k : Int) := by omega
      have hi2 : (k : Int) < (L.length : Int) := by omega
      clear hmk hown hb0 hset hlen hown1
      go_wp2_with fail
      refine c1.mono ?_
      rintro e w1 ⟨rfl, hb1⟩
      have hown2 := HX.out w1 hb1
      have hrow2 : w1.ownsRow G 88 7 (.slice (some ⟨G, 0, none⟩) L.length L.length) L.length (cltl (L.take k ++ List.replicate (L.length - k) zCli)) := by
        have h := hown2
        unfold OwnCli at h
        rwa [← HS.out.1] at h
      obtain ⟨u0, k0, f0⟩ := row7_there hrow2 (k * 7) (by omega)
      obtain ⟨u1, k1, f1⟩ := row7_there hrow2 (k * 7 + 1) (by omega)
      obtain ⟨u2, k2, f2⟩ := row7_there hrow2 (k * 7 + 2) (by omega)
      obtain ⟨u3, k3, f3⟩ := row7_there hrow2 (k * 7 + 3) (by omega)
      obtain ⟨u4, k4, f4⟩ := row7_there hrow2 (k * 7 + 4) (by omega)
      obtain ⟨u5, k5, f5⟩ := row7_there hrow2 (k * 7 + 5) (by omega)
      obtain ⟨u6, k6, f6⟩ := row7_there hrow2 (k * 7 + 6) (by omega)
      clear hrow2
      go_wp2
      go_roundw
      case rel =>
        try ((repeat apply Exists.intro); refine ⟨?_, rfl⟩)
        have h2 := hown2.stored HS.out.1 k f
        rw [HS.out.2] at h2
        exact ⟨⟨k + 1, by omega, by go_num, h2.1, Below.grown (hbel.trans (hb1.mono hbel.size)) h2.2 (Nat.le_trans hbel.size hb1.size) (fun j hj => by simp at hj; omega)⟩⟩
      case measure => simp [intOf]; omega
    · go_wp2
      go_ret
      have hke : k = L.length := by omega
      subst hke
      simp only [List.take_length, Nat.sub_self, List.replicate_zero, List.append_nil] at hown1
      exact ⟨_, rfl, by rw [hG]; exact hown1, hbel⟩


set_option maxHeartbeats 1000000 in
theorem eqClientS_same (w : World) (a b : Option Addr) (c1 c2 : Nat) (L : List Cli) (hA : CliAt w a L w.heap.size) (hB : CliAt w b L w.heap.size) (hl : L.length ≤ 1048576) :
    Calls Try.prog 33 #[.slice a L.length c1, .slice b L.length c2] w fun e w' => e = .returned (.bool true) ∧ Below w.heap.size w w' := by
  go_enter Try.func33, Try.ntmps33
  go_wp2
  go_loopw [5] (fun i wr => Box (∃ (k : Nat), k ≤ L.length ∧ i = .int .i64 k ∧ Below w.heap.size w wr))
    (fun i _ => L.length - (intOf i).toNat)
  case atStart => exact ⟨⟨0, by omega, rfl, Below.refl _ _⟩⟩
  case round =>
    obtain ⟨k, hk, rfl, hbel⟩ := hrel.out
    by_cases hlt : k < L.length
    · obtain ⟨g, off, rfl, hg, hc0, hc1, hc2, hc3, hc4, hc5, hc6⟩ := (hA.below hbel (Nat.le_refl _)) k hlt
      obtain ⟨g', off', rfl, hg', hd0, hd1, hd2, hd3, hd4, hd5, hd6⟩ := (hB.below hbel (Nat.le_refl _)) k hlt
      obtain ⟨f, hf⟩ : ∃ f, L[k] = f := ⟨_, rfl⟩
      rw [hf] at hc0 hc1 hc2 hc3 hc4 hc5 hc6 hd0 hd1 hd2 hd3 hd4 hd5 hd6
      have k0 := cell_regrown hc0
      have k1 := cell_regrown hc1
      have k2 := cell_regrown hc2
      have k3 := cell_regrown hc3
      have k4 := cell_regrown hc4
      have k5 := cell_regrown hc5
      have k6 := cell_regrown hc6
      have l0 := cell_regrown hd0
      have l1 := cell_regrown hd1
      have l2 := cell_regrown hd2
      have l3 := cell_regrown hd3
      have l4 := cell_regrown hd4
      have l5 := cell_regrown hd5
      have l6 := cell_regrown hd6
      have cV : ∀ d os, Calls Try.prog 68 #[.agg #[.int .i64 f.id, .string f.key, .int .i64 f.fe, .int .i64 f.fr, .int .i64 f.st, .string f.got, .int .i64 f.ag], .agg #[.int .i64 f.id, .string f.key, .int .i64 f.fe, .int .i64 f.fr, .int .i64 f.st, .string f.got, .int .i64 f.ag]] (grow (redrawn wr d) os) fun e w'' => e = .returned (.bool true) ∧ ∃ p : Regrown, w'' = grow (redrawn wr p.d) p.os := fun d os => Calls.regrown_of (by have := eqClient_same (grow (redrawn wr d) os) f; simpa using this)
      clear hA hB hrel hc0 hc1 hc2 hc3 hc4 hc5 hc6 hd0 hd1 hd2 hd3 hd4 hd5 hd6
      have hi1 : (0 : Int) ≤ (k : Int) := by omega
      have hi2 : (k : Int) < (L.length : Int) := by omega
      go_wp2
      refine wp_region_quiet_below (by kernel_rfl) (by kernel_rfl) ?_
      repeat (first | go_big_quiet_step (exact cV _ _) | quiet_step (exact cV _ _))
      refine wpQuiet_nil ?_
      intro _ hw'
      obtain ⟨⟨dq, osq⟩, hw''⟩ := hw'
      subst hw''
      go_wp2
      go_roundw
      case rel =>
        try ((repeat apply Exists.intro); refine ⟨?_, rfl⟩)
        exact ⟨⟨k + 1, by omega, by go_num, hbel.trans ((below_regrown wr dq osq).mono hbel.size)⟩⟩
      case measure => simp [intOf]; omega
    · go_wp2
      go_ret
      exact ⟨rfl, hbel⟩
end Go.Proofs.Ytpgcfgbhkodmeaa
