/- Texts that stand in one: EnsLaw, FetLaw. -/
import Derived.Test.YtcaakommnglnbaaGreatDoorFilesJ
import Derived.Test.YtcaakommnglnbaaGreatDoorMarkTextJ
import Derived.Lib.QuietBelow
import Derived.BigQuiet
import Derived.Test.YtcaakommnglnbaaGreatDoorFetRowsJ
namespace Go.Proofs.YtcaakommnglnbaaGreatDoor
open Go.RowKit Go.Sort

theorem Tryz.infoEn : (Tryz.prog.info? 94).map (fun i => (i.zero, i.size, i.bytes)) = some (some (.agg #[.string ⟨#[]⟩, .int .i64 0, .int .i64 0, .string ⟨#[]⟩]), 4, 48) := by kernel_rfl

set_option maxHeartbeats 1000000 in
theorem szEntryS_any (w : World) (a : Option Addr) (cap : Nat) (L : List En) (left : Int) (h0 : 0 ≤ left) (h1 : left ≤ 1048576) (hL : NAt w a L w.heap.size) (hs : SizedN L) (hm : L.length ≤ maxLen) :
    Calls Tryz.prog 11 #[.slice a L.length cap, .int .i64 left] w fun e w' => ∃ r : Int, e = .returned (.int .i64 r) ∧ (r = -1 ∨ 0 ≤ r ∧ r + ((L.length + ewg L : Nat) : Int) = left) ∧ Below w.heap.size w w' := by
  unfold maxLen at hm
  by_cases hA : left - L.length < 0
  · go_enter Tryz.func11, Tryz.ntmps11
    go_wp2
    go_ret
    exact ⟨_, rfl, .inl rfl, Below.refl _ _⟩
  · go_enter Tryz.func11, Tryz.ntmps11
    go_wp2
    go_loopw [1, 5] (fun n i wr => Box (∃ (k : Nat) (r : Int), k ≤ L.length ∧ i = .int .i64 k ∧ n = .int .i64 r ∧ 0 ≤ r ∧ r + ((L.length + ewg (L.take k) : Nat) : Int) = left ∧ Below w.heap.size w wr))
      (fun _ i _ => L.length - (intOf i).toNat)
    case atStart => exact ⟨⟨0, _, by omega, rfl, rfl, by omega, by simp [ewg], Below.refl _ _⟩⟩
    case round =>
      obtain ⟨k, r, hk, rfl, rfl, hr0, hr, hbel⟩ := hrel.out
      by_cases hlt : k < L.length
      · obtain ⟨g, off, rfl, hg, hc0, hc1, hc2, hc3⟩ := (hL.below hbel (Nat.le_refl _)) k hlt
        have hsz := hs k hlt
        have hstep := ewg_take_succ L k hlt
        unfold En.wg at hstep
        obtain ⟨f, hf⟩ : ∃ f, L[k] = f := ⟨_, rfl⟩
        rw [hf] at hc0 hc1 hc2 hc3 hsz hstep
        have c1 := szEntry_any wr f.key f.bd f.st f.lf r (by omega) (by omega) hsz.1.1 hsz.1.2
        clear hL hs hsz hrel
        have hi1 : (0 : Int) ≤ (k : Int) := by omega
        have hi2 : (k : Int) < (L.length : Int) := by omega
        go_wp2_with fail
        refine c1.mono ?_
        rintro e w1 ⟨r1, rfl, hr1, hb1⟩
        have hbel1 := hbel.trans (hb1.mono hbel.size)
        rcases hr1 with rfl | ⟨hp, hr1⟩
        · go_wp2
          go_ret
          exact ⟨_, rfl, .inl rfl, hbel1⟩
        · go_wp2
          go_roundw
          case rel =>
            try ((repeat apply Exists.intro); refine ⟨?_, rfl⟩)
            exact ⟨⟨k + 1, _, by omega, by go_num, rfl, hp, by omega, hbel1⟩⟩
          case measure => simp [intOf]; omega
      · go_wp2
        go_ret
        have hke : k = L.length := by omega
        subst hke
        rw [List.take_length] at hr
        exact ⟨_, rfl, .inr ⟨hr0, hr⟩, hbel⟩

set_option maxHeartbeats 1000000 in
theorem toEntryS_any (w : World) (a : Option Addr) (cap : Nat) (L : List En) (hL : NAt w a L w.heap.size) (hm : L.length ≤ 1048576) :
    Calls Tryz.prog 19 #[.slice a L.length cap] w fun e w' => ∃ v, e = .returned v ∧ OwnN w' w.heap.size 94 v L ∧ Below w.heap.size w w' := by
  obtain ⟨w0, hmk, hown, hb0⟩ := make_entries (P := Tryz.prog) w 34 94 Tryz.underlying34 Tryz.infoEn L.length hm
  obtain ⟨G, hG⟩ : ∃ G, w.heap.size = G := ⟨_, rfl⟩
  rw [hG] at hmk hown
  go_enter Tryz.func19, Tryz.ntmps19
  go_wp2
  go_loopw [4] (fun i wr => Box (∃ (k : Nat), k ≤ L.length ∧ i = .int .i64 k ∧ OwnN wr G 94 (.slice (some ⟨G, 0, none⟩) L.length L.length) (L.take k ++ List.replicate (L.length - k) zen) ∧ Below w.heap.size w wr))
    (fun i _ => L.length - (intOf i).toNat)
  case atStart => exact ⟨⟨0, by omega, rfl, by simpa using hown, hb0⟩⟩
  case round =>
    obtain ⟨k, hk, rfl, hown1, hbel⟩ := hrel.out
    by_cases hlt : k < L.length
    · obtain ⟨g, off, rfl, hg, hc0, hc1, hc2, hc3⟩ := (hL.below hbel (Nat.le_refl _)) k hlt
      have hset := take_set_zen L k hlt
      obtain ⟨f, hf⟩ : ∃ f, L[k] = f := ⟨_, rfl⟩
      rw [hf] at hc0 hc1 hc2 hc3
      have c1 := toEntry_any wr f.key f.bd f.st f.lf
      have hlen : L.length = (L.take k ++ List.replicate (L.length - k) zen).length := by simp; omega
      have HX : Hid (∀ w1, Below wr.heap.size wr w1 → OwnN w1 G 94 (.slice (some ⟨G, 0, none⟩) L.length L.length) (L.take k ++ List.replicate (L.length - k) zen)) := fun w1 hb => hown1.below hb (Nat.le_refl _)
      have HS : Hid (L.length = (L.take k ++ List.replicate (L.length - k) zen).length ∧ (L.take k ++ List.replicate (L.length - k) zen).set k f = L.take (k + 1) ++ List.replicate (L.length - (k + 1)) zen) := ⟨hlen, hset f hf⟩
      clear hL hrel
      have hi1 : (0 : Int) ≤ (k : Int) := by omega
      have hi2 : (k : Int) < (L.length : Int) := by omega
      clear hmk hown hb0 hset hlen hown1
      go_wp2_with fail
      refine c1.mono ?_
      rintro e w1 ⟨rfl, hb1⟩
      have hown2 := HX.out w1 hb1
      have hrow2 : w1.ownsRow G 94 4 (.slice (some ⟨G, 0, none⟩) L.length L.length) L.length (enl (L.take k ++ List.replicate (L.length - k) zen)) := by
        have h := hown2
        unfold OwnN at h
        rwa [← HS.out.1] at h
      obtain ⟨u0, k0, f0⟩ := rowN_there hrow2 (k * 4) (by omega)
      obtain ⟨u1, k1, f1⟩ := rowN_there hrow2 (k * 4 + 1) (by omega)
      obtain ⟨u2, k2, f2⟩ := rowN_there hrow2 (k * 4 + 2) (by omega)
      obtain ⟨u3, k3, f3⟩ := rowN_there hrow2 (k * 4 + 3) (by omega)
      clear hrow2
      go_wp2
      go_roundw
      case rel =>
        try ((repeat apply Exists.intro); refine ⟨?_, rfl⟩)
        have h2 := hown2.stored HS.out.1 k f
        rw [HS.out.2] at h2
        exact ⟨⟨k + 1, by omega, by go_num, h2.1, Below.grown (hbel.trans (hb1.mono hbel.size)) h2.2 (Nat.le_trans hbel.size hb1.size) (fun j hj => by simp at hj; omega)⟩⟩
      case measure => simp [intOf]; omega
    · go_wp2
      go_ret
      have hke : k = L.length := by omega
      subst hke
      simp only [List.take_length, Nat.sub_self, List.replicate_zero, List.append_nil] at hown1
      exact ⟨_, rfl, by rw [hG]; exact hown1, hbel⟩


set_option maxHeartbeats 1000000 in
theorem eqEntryS_same (w : World) (a b : Option Addr) (c1 c2 : Nat) (L : List En) (hA : NAt w a L w.heap.size) (hB : NAt w b L w.heap.size) (hl : L.length ≤ 1048576) :
    Calls Tryz.prog 24 #[.slice a L.length c1, .slice b L.length c2] w fun e w' => e = .returned (.bool true) ∧ Below w.heap.size w w' := by
  go_enter Tryz.func24, Tryz.ntmps24
  go_wp2
  go_loopw [5] (fun i wr => Box (∃ (k : Nat), k ≤ L.length ∧ i = .int .i64 k ∧ Below w.heap.size w wr))
    (fun i _ => L.length - (intOf i).toNat)
  case atStart => exact ⟨⟨0, by omega, rfl, Below.refl _ _⟩⟩
  case round =>
    obtain ⟨k, hk, rfl, hbel⟩ := hrel.out
    by_cases hlt : k < L.length
    · obtain ⟨g, off, rfl, hg, hc0, hc1, hc2, hc3⟩ := (hA.below hbel (Nat.le_refl _)) k hlt
      obtain ⟨g', off', rfl, hg', hd0, hd1, hd2, hd3⟩ := (hB.below hbel (Nat.le_refl _)) k hlt
      obtain ⟨f, hf⟩ : ∃ f, L[k] = f := ⟨_, rfl⟩
      rw [hf] at hc0 hc1 hc2 hc3 hd0 hd1 hd2 hd3
      have k0 := cell_regrown hc0
      have k1 := cell_regrown hc1
      have k2 := cell_regrown hc2
      have k3 := cell_regrown hc3
      have l0 := cell_regrown hd0
      have l1 := cell_regrown hd1
      have l2 := cell_regrown hd2
      have l3 := cell_regrown hd3
      have cV : ∀ d os, Calls Tryz.prog 54 #[.agg #[.string f.key, .int .i64 f.st, .int .i64 f.lf, .string f.bd], .agg #[.string f.key, .int .i64 f.st, .int .i64 f.lf, .string f.bd]] (grow (redrawn wr d) os) fun e w'' => e = .returned (.bool true) ∧ ∃ p : Regrown, w'' = grow (redrawn wr p.d) p.os := fun d os => Calls.regrown_of (by have := eqEntry_same (grow (redrawn wr d) os) f.key f.bd f.st f.lf; simpa using this)
      clear hA hB hrel hc0 hc1 hc2 hc3 hd0 hd1 hd2 hd3
      have hi1 : (0 : Int) ≤ (k : Int) := by omega
      have hi2 : (k : Int) < (L.length : Int) := by omega
      go_wp2
      refine wp_region_quiet_below (by kernel_rfl) (by kernel_rfl) ?_
      repeat (first | go_big_quiet_step (exact cV _ _) | quiet_step (exact cV _ _))
      refine wpQuiet_nil ?_
      intro _ hw'
      obtain ⟨⟨dq, osq⟩, hw''⟩ := hw'
      subst hw''
      go_wp2
      go_roundw
      case rel =>
        try ((repeat apply Exists.intro); refine ⟨?_, rfl⟩)
        exact ⟨⟨k + 1, by omega, by go_num, hbel.trans ((below_regrown wr dq osq).mono hbel.size)⟩⟩
      case measure => simp [intOf]; omega
    · go_wp2
      go_ret
      exact ⟨rfl, hbel⟩
end Go.Proofs.YtcaakommnglnbaaGreatDoor

namespace Go.Proofs.YtcaakommnglnbaaGreatDoor
open Go.RowKit Go.Sort

theorem Tryz.infoFet : (Tryz.prog.info? 60).map (fun i => (i.zero, i.size, i.bytes)) = some (some (.agg #[.string ⟨#[]⟩, .string ⟨#[]⟩, .int .i64 0, .int .i64 0, .int .i64 0]), 5, 56) := by kernel_rfl

set_option maxHeartbeats 1000000 in
theorem szFetch_any (w : World) (f : Fet) (left : Int) (h0 : 0 ≤ left) (h1 : left ≤ 1048576) (hn0 : f.key.size ≤ maxLen) (hn1 : f.tx.size ≤ maxLen) :
    Calls Tryz.prog 39 #[.agg #[.string f.key, .string f.tx, .int .i64 f.st, .int .i64 f.lf, .int .i64 f.sto], .int .i64 left] w fun e w' => ∃ r : Int, e = .returned (.int .i64 r) ∧ (r = -1 ∨ 0 ≤ r ∧ r + (f.wg : Int) = left) ∧ Below w.heap.size w w' := by
  obtain ⟨a0, a1, a2, a3, a4⟩ := f
  dsimp only at *
  unfold maxLen at hn0 hn1
  have hb := (Below.refl w.heap.size w).alloc (Nat.le_refl _) (.cells #[.string a0, .string a1, .int .i64 a2, .int .i64 a3, .int .i64 a4] 84)
  by_cases hA : left - a0.size < 0
  · go_enter Tryz.func39, Tryz.ntmps39
    go_wp2
    go_ret
    exact ⟨_, rfl, .inl rfl, hb⟩
  · by_cases hB : left - a0.size - a1.size < 0
    · go_enter Tryz.func39, Tryz.ntmps39
      go_wp2
      go_ret
      exact ⟨_, rfl, .inl rfl, hb⟩
    · go_enter Tryz.func39, Tryz.ntmps39
      go_wp2
      go_ret
      exact ⟨_, rfl, .inr ⟨by omega, by simp only [Fet.wg]; omega⟩, hb⟩
theorem toFetch_any (w : World) (f : Fet) :
    Calls Tryz.prog 49 #[.agg #[.string f.key, .string f.tx, .int .i64 f.st, .int .i64 f.lf, .int .i64 f.sto]] w fun e w' => e = .returned (.agg #[.string f.key, .string f.tx, .int .i64 f.st, .int .i64 f.lf, .int .i64 f.sto]) ∧ Below w.heap.size w w' := by
  go_enter Tryz.func49, Tryz.ntmps49
  go_wp2
  refine bodyPost_ret (v := .agg #[.string f.key, .string f.tx, .int .i64 f.st, .int .i64 f.lf, .int .i64 f.sto]) (by simp [results, Tryz.results49, go_sem]) rfl ⟨rfl, ?_⟩
  exact (((Below.refl w.heap.size w).alloc (Nat.le_refl _) _).alloc (by simp) _).alloc (by simp; omega) _
theorem eqFetch_same (w : World) (f : Fet) :
    Calls Tryz.prog 57 #[.agg #[.string f.key, .string f.tx, .int .i64 f.st, .int .i64 f.lf, .int .i64 f.sto], .agg #[.string f.key, .string f.tx, .int .i64 f.st, .int .i64 f.lf, .int .i64 f.sto]] w fun e w' => e = .returned (.bool true) ∧ Below w.heap.size w w' := by
  go_enter Tryz.func57, Tryz.ntmps57
  go_wp2
  go_ret
  exact ⟨rfl, ((Below.refl w.heap.size w).alloc (Nat.le_refl _) _).alloc (by simp) _⟩
set_option maxHeartbeats 1000000 in
theorem szFetchS_any (w : World) (a : Option Addr) (cap : Nat) (L : List Fet) (left : Int) (h0 : 0 ≤ left) (h1 : left ≤ 1048576) (hL : FetAt w a L w.heap.size) (hs : SizedFet L) (hm : L.length ≤ maxLen) :
    Calls Tryz.prog 13 #[.slice a L.length cap, .int .i64 left] w fun e w' => ∃ r : Int, e = .returned (.int .i64 r) ∧ (r = -1 ∨ 0 ≤ r ∧ r + ((L.length + ftwg L : Nat) : Int) = left) ∧ Below w.heap.size w w' := by
  unfold maxLen at hm
  by_cases hA : left - L.length < 0
  · go_enter Tryz.func13, Tryz.ntmps13
    go_wp2
    go_ret
    exact ⟨_, rfl, .inl rfl, Below.refl _ _⟩
  · go_enter Tryz.func13, Tryz.ntmps13
    go_wp2
    go_loopw [1, 5] (fun n i wr => Box (∃ (k : Nat) (r : Int), k ≤ L.length ∧ i = .int .i64 k ∧ n = .int .i64 r ∧ 0 ≤ r ∧ r + ((L.length + ftwg (L.take k) : Nat) : Int) = left ∧ Below w.heap.size w wr))
      (fun _ i _ => L.length - (intOf i).toNat)
    case atStart => exact ⟨⟨0, _, by omega, rfl, rfl, by omega, by simp [ftwg], Below.refl _ _⟩⟩
    case round =>
      obtain ⟨k, r, hk, rfl, rfl, hr0, hr, hbel⟩ := hrel.out
      by_cases hlt : k < L.length
      · obtain ⟨g, off, rfl, hg, hc0, hc1, hc2, hc3, hc4⟩ := (hL.below hbel (Nat.le_refl _)) k hlt
        have hsz := hs k hlt
        have hstep := ftwg_take_succ L k hlt
        obtain ⟨f, hf⟩ : ∃ f, L[k] = f := ⟨_, rfl⟩
        rw [hf] at hc0 hc1 hc2 hc3 hc4 hsz hstep
        have c1 := szFetch_any wr f r (by omega) (by omega) hsz.1.1 hsz.1.2
        clear hL hs hsz hrel
        have hi1 : (0 : Int) ≤ (k : Int) := by omega
        have hi2 : (k : Int) < (L.length : Int) := by omega
        go_wp2_with fail
        refine c1.mono ?_
        rintro e w1 ⟨r1, rfl, hr1, hb1⟩
        have hbel1 := hbel.trans (hb1.mono hbel.size)
        rcases hr1 with rfl | ⟨hp, hr1⟩
        · go_wp2
          go_ret
          exact ⟨_, rfl, .inl rfl, hbel1⟩
        · go_wp2
          go_roundw
          case rel =>
            try ((repeat apply Exists.intro); refine ⟨?_, rfl⟩)
            exact ⟨⟨k + 1, _, by omega, by go_num, rfl, hp, by omega, hbel1⟩⟩
          case measure => simp [intOf]; omega
      · go_wp2
        go_ret
        have hke : k = L.length := by omega
        subst hke
        rw [List.take_length] at hr
        exact ⟨_, rfl, .inr ⟨hr0, hr⟩, hbel⟩

set_option maxHeartbeats 1000000 in
theorem toFetchS_any (w : World) (a : Option Addr) (cap : Nat) (L : List Fet) (hL : FetAt w a L w.heap.size) (hm : L.length ≤ 1048576) :
    Calls Tryz.prog 21 #[.slice a L.length cap] w fun e w' => ∃ v, e = .returned v ∧ OwnFet w' w.heap.size 60 v L ∧ Below w.heap.size w w' := by
  obtain ⟨w0, hmk, hown, hb0⟩ := make_fets (P := Tryz.prog) w 38 60 Tryz.underlying38 Tryz.infoFet L.length hm
  obtain ⟨G, hG⟩ : ∃ G, w.heap.size = G := ⟨_, rfl⟩
  rw [hG] at hmk hown
  go_enter Tryz.func21, Tryz.ntmps21
  go_wp2
  go_loopw [4] (fun i wr => Box (∃ (k : Nat), k ≤ L.length ∧ i = .int .i64 k ∧ OwnFet wr G 60 (.slice (some ⟨G, 0, none⟩) L.length L.length) (L.take k ++ List.replicate (L.length - k) zFet) ∧ Below w.heap.size w wr))
    (fun i _ => L.length - (intOf i).toNat)
  case atStart => exact ⟨⟨0, by omega, rfl, by simpa using hown, hb0⟩⟩
  case round =>
    obtain ⟨k, hk, rfl, hown1, hbel⟩ := hrel.out
    by_cases hlt : k < L.length
    · obtain ⟨g, off, rfl, hg, hc0, hc1, hc2, hc3, hc4⟩ := (hL.below hbel (Nat.le_refl _)) k hlt
      have hset := take_set_zFet L k hlt
      obtain ⟨f, hf⟩ : ∃ f, L[k] = f := ⟨_, rfl⟩
      rw [hf] at hc0 hc1 hc2 hc3 hc4
      have c1 := toFetch_any wr f
      have hlen : L.length = (L.take k ++ List.replicate (L.length - k) zFet).length := by simp; omega
      have HX : Hid (∀ w1, Below wr.heap.size wr w1 → OwnFet w1 G 60 (.slice (some ⟨G, 0, none⟩) L.length L.length) (L.take k ++ List.replicate (L.length - k) zFet)) := fun w1 hb => hown1.below hb (Nat.le_refl _)
      have HS : Hid (L.length = (L.take k ++ List.replicate (L.length - k) zFet).length ∧ (L.take k ++ List.replicate (L.length - k) zFet).set k f = L.take (k + 1) ++ List.replicate (L.length - (k + 1)) zFet) := ⟨hlen, hset f hf⟩
      clear hL hrel
      have hi1 : (0 : Int) ≤ (k : Int) := by omega
      have hi2 : (k : Int) < (L.length : Int) := by omega
      clear hmk hown hb0 hset hlen hown1
      go_wp2_with fail
      refine c1.mono ?_
      rintro e w1 ⟨rfl, hb1⟩
      have hown2 := HX.out w1 hb1
      have hrow2 : w1.ownsRow G 60 5 (.slice (some ⟨G, 0, none⟩) L.length L.length) L.length (ftl (L.take k ++ List.replicate (L.length - k) zFet)) := by
        have h := hown2
        unfold OwnFet at h
        rwa [← HS.out.1] at h
      obtain ⟨u0, k0, f0⟩ := row5_there hrow2 (k * 5) (by omega)
      obtain ⟨u1, k1, f1⟩ := row5_there hrow2 (k * 5 + 1) (by omega)
      obtain ⟨u2, k2, f2⟩ := row5_there hrow2 (k * 5 + 2) (by omega)
      obtain ⟨u3, k3, f3⟩ := row5_there hrow2 (k * 5 + 3) (by omega)
      obtain ⟨u4, k4, f4⟩ := row5_there hrow2 (k * 5 + 4) (by omega)
      clear hrow2
      go_wp2
      go_roundw
      case rel =>
        try ((repeat apply Exists.intro); refine ⟨?_, rfl⟩)
        have h2 := hown2.stored HS.out.1 k f
        rw [HS.out.2] at h2
        exact ⟨⟨k + 1, by omega, by go_num, h2.1, Below.grown (hbel.trans (hb1.mono hbel.size)) h2.2 (Nat.le_trans hbel.size hb1.size) (fun j hj => by simp at hj; omega)⟩⟩
      case measure => simp [intOf]; omega
    · go_wp2
      go_ret
      have hke : k = L.length := by omega
      subst hke
      simp only [List.take_length, Nat.sub_self, List.replicate_zero, List.append_nil] at hown1
      exact ⟨_, rfl, by rw [hG]; exact hown1, hbel⟩


set_option maxHeartbeats 1000000 in
theorem eqFetchS_same (w : World) (a b : Option Addr) (c1 c2 : Nat) (L : List Fet) (hA : FetAt w a L w.heap.size) (hB : FetAt w b L w.heap.size) (hl : L.length ≤ 1048576) :
    Calls Tryz.prog 26 #[.slice a L.length c1, .slice b L.length c2] w fun e w' => e = .returned (.bool true) ∧ Below w.heap.size w w' := by
  go_enter Tryz.func26, Tryz.ntmps26
  go_wp2
  go_loopw [5] (fun i wr => Box (∃ (k : Nat), k ≤ L.length ∧ i = .int .i64 k ∧ Below w.heap.size w wr))
    (fun i _ => L.length - (intOf i).toNat)
  case atStart => exact ⟨⟨0, by omega, rfl, Below.refl _ _⟩⟩
  case round =>
    obtain ⟨k, hk, rfl, hbel⟩ := hrel.out
    by_cases hlt : k < L.length
    · obtain ⟨g, off, rfl, hg, hc0, hc1, hc2, hc3, hc4⟩ := (hA.below hbel (Nat.le_refl _)) k hlt
      obtain ⟨g', off', rfl, hg', hd0, hd1, hd2, hd3, hd4⟩ := (hB.below hbel (Nat.le_refl _)) k hlt
      obtain ⟨f, hf⟩ : ∃ f, L[k] = f := ⟨_, rfl⟩
      rw [hf] at hc0 hc1 hc2 hc3 hc4 hd0 hd1 hd2 hd3 hd4
      have k0 := cell_regrown hc0
      have k1 := cell_regrown hc1
      have k2 := cell_regrown hc2
      have k3 := cell_regrown hc3
      have k4 := cell_regrown hc4
      have l0 := cell_regrown hd0
      have l1 := cell_regrown hd1
      have l2 := cell_regrown hd2
      have l3 := cell_regrown hd3
      have l4 := cell_regrown hd4
      have cV : ∀ d os, Calls Tryz.prog 57 #[.agg #[.string f.key, .string f.tx, .int .i64 f.st, .int .i64 f.lf, .int .i64 f.sto], .agg #[.string f.key, .string f.tx, .int .i64 f.st, .int .i64 f.lf, .int .i64 f.sto]] (grow (redrawn wr d) os) fun e w'' => e = .returned (.bool true) ∧ ∃ p : Regrown, w'' = grow (redrawn wr p.d) p.os := fun d os => Calls.regrown_of (by have := eqFetch_same (grow (redrawn wr d) os) f; simpa using this)
      clear hA hB hrel hc0 hc1 hc2 hc3 hc4 hd0 hd1 hd2 hd3 hd4
      have hi1 : (0 : Int) ≤ (k : Int) := by omega
      have hi2 : (k : Int) < (L.length : Int) := by omega
      go_wp2
      refine wp_region_quiet_below (by kernel_rfl) (by kernel_rfl) ?_
      repeat (first | go_big_quiet_step (exact cV _ _) | quiet_step (exact cV _ _))
      refine wpQuiet_nil ?_
      intro _ hw'
      obtain ⟨⟨dq, osq⟩, hw''⟩ := hw'
      subst hw''
      go_wp2
      go_roundw
      case rel =>
        try ((repeat apply Exists.intro); refine ⟨?_, rfl⟩)
        exact ⟨⟨k + 1, by omega, by go_num, hbel.trans ((below_regrown wr dq osq).mono hbel.size)⟩⟩
      case measure => simp [intOf]; omega
    · go_wp2
      go_ret
      exact ⟨rfl, hbel⟩
end Go.Proofs.YtcaakommnglnbaaGreatDoor
