/- What a law does with files: it weighs them, copies them, compares them. -/
import Derived.Test.YtpgcfgbhkodmeaaFiles
import Derived.Test.YtpgcfgbhkodmeaaRowedJ
import Derived.Laws.OwnMore
import Derived.Lib.QuietBelow
import Derived.BigQuiet
namespace Go.Proofs.Ytpgcfgbhkodmeaa
open Go.RowKit Go.Sort

theorem Try.infoFile : (Try.prog.info? 136).map (fun i => (i.zero, i.size, i.bytes)) = some (some (.agg #[.string ⟨#[]⟩, .string ⟨#[]⟩, .int .i64 0]), 3, 40) := by kernel_rfl

theorem szFile_any (w : World) (f : Fil) (left : Int) (h0 : 0 ≤ left) (h1 : left ≤ 1048576) (hn : f.nm.size ≤ maxLen) (ht : f.tx.size ≤ maxLen) :
    Calls Try.prog 92 #[.agg #[.string f.nm, .string f.tx, .int .i64 f.kp], .int .i64 left] w fun e w' => ∃ r : Int, e = .returned (.int .i64 r) ∧ (r = -1 ∨ 0 ≤ r ∧ r + ((f.nm.size + f.tx.size : Nat) : Int) = left) ∧ Below w.heap.size w w' := by
  unfold maxLen at hn ht
  have hb := (Below.refl w.heap.size w).alloc (Nat.le_refl _) (.cells #[.string f.nm, .string f.tx, .int .i64 f.kp] 135)
  by_cases hA : left - f.nm.size < 0
  · go_enter Try.func92, Try.ntmps92
    go_wp2
    go_ret
    exact ⟨_, rfl, .inl rfl, hb⟩
  · by_cases hB : left - f.nm.size - f.tx.size < 0
    · go_enter Try.func92, Try.ntmps92
      go_wp2
      go_ret
      exact ⟨_, rfl, .inl rfl, hb⟩
    · go_enter Try.func92, Try.ntmps92
      go_wp2
      go_ret
      exact ⟨_, rfl, .inr ⟨by omega, by omega⟩, hb⟩

/-- The sizes of the files of L are those of texts. -/
def Sized (L : List Fil) : Prop := ∀ j (hj : j < L.length), L[j].nm.size ≤ maxLen ∧ L[j].tx.size ≤ maxLen

set_option maxHeartbeats 1000000 in
theorem szFileS_any (w : World) (a : Option Addr) (cap : Nat) (L : List Fil) (left : Int) (h0 : 0 ≤ left) (h1 : left ≤ 1048576) (hL : FAt w a L w.heap.size) (hs : Sized L) (hm : L.length ≤ maxLen) :
    Calls Try.prog 69 #[.slice a L.length cap, .int .i64 left] w fun e w' => ∃ r : Int, e = .returned (.int .i64 r) ∧ (r = -1 ∨ 0 ≤ r ∧ r + ((L.length + wgt L : Nat) : Int) = left) ∧ Below w.heap.size w w' := by
  unfold maxLen at hm
  by_cases hA : left - L.length < 0
  · go_enter Try.func69, Try.ntmps69
    go_wp2
    go_ret
    exact ⟨_, rfl, .inl rfl, Below.refl _ _⟩
  · go_enter Try.func69, Try.ntmps69
    go_wp2
    go_loopw [1, 5] (fun n i wr => Box (∃ (k : Nat) (r : Int), k ≤ L.length ∧ i = .int .i64 k ∧ n = .int .i64 r ∧ 0 ≤ r ∧ r + ((L.length + wgt (L.take k) : Nat) : Int) = left ∧ Below w.heap.size w wr))
      (fun _ i _ => L.length - (intOf i).toNat)
    case atStart => exact ⟨⟨0, _, by omega, rfl, rfl, by omega, by simp [wgt], Below.refl _ _⟩⟩
    case round =>
      obtain ⟨k, r, hk, rfl, rfl, hr0, hr, hbel⟩ := hrel.out
      by_cases hlt : k < L.length
      · obtain ⟨g, off, rfl, hg, hc0, hc1, hc2⟩ := (hL.below hbel (Nat.le_refl _)) k hlt
        have hsz := hs k hlt
        have hstep := wgt_take_succ L k hlt
        obtain ⟨f, hf⟩ : ∃ f, L[k] = f := ⟨_, rfl⟩
        rw [hf] at hc0 hc1 hc2 hsz hstep
        have c1 := szFile_any wr f r (by omega) (by omega) hsz.1 hsz.2
        clear hL hs hsz hrel
        have hi1 : (0 : Int) ≤ (k : Int) := by omega
        have hi2 : (k : Int) < (L.length : Int) := by omega
        go_wp2_with fail
        refine c1.mono ?_
        rintro e w1 ⟨r1, rfl, hr1, hb1⟩
        have hbel1 := hbel.trans (hb1.mono hbel.size)
        rcases hr1 with rfl | ⟨hp, hr1⟩
        · go_wp2
          go_ret
          exact ⟨_, rfl, .inl rfl, hbel1⟩
        · go_wp2
          go_roundw
          case rel =>
            try ((repeat apply Exists.intro); refine ⟨?_, rfl⟩)
            exact ⟨⟨k + 1, _, by omega, by go_num, rfl, hp, by omega, hbel1⟩⟩
          case measure => simp [intOf]; omega
      · go_wp2
        go_ret
        have hke : k = L.length := by omega
        subst hke
        rw [List.take_length] at hr
        exact ⟨_, rfl, .inr ⟨hr0, hr⟩, hbel⟩

theorem szDisk_any (w : World) (a : Option Addr) (cap : Nat) (L : List Fil) (left : Int) (h0 : 0 ≤ left) (h1 : left ≤ 1048576) (hL : FAt w a L w.heap.size) (hs : Sized L) (hm : L.length ≤ maxLen) :
    Calls Try.prog 34 #[.agg #[.slice a L.length cap], .int .i64 left] w fun e w' => ∃ r : Int, e = .returned (.int .i64 r) ∧ (r = -1 ∨ 0 ≤ r ∧ r + ((L.length + wgt L : Nat) : Int) = left) ∧ Below w.heap.size w w' := by
  obtain ⟨w0, hw0⟩ : ∃ w0, w0 = w.alloc (.cells #[.slice a L.length cap] 48) := ⟨_, rfl⟩
  have hb : Below w.heap.size w w0 := by rw [hw0]; exact (Below.refl w.heap.size w).alloc (Nat.le_refl _) _
  have c1 := szFileS_any w0 a cap L left h0 h1 ((hL.below hb (Nat.le_refl _)).mono hb.size) hs hm
  rw [hw0] at c1
  go_enter Try.func34, Try.ntmps34
  go_wp2_with fail
  refine c1.mono ?_
  rintro e w1 ⟨r1, rfl, hr1, hb1⟩
  rw [← hw0] at hb1
  have hbel1 := hb.trans (hb1.mono hb.size)
  rcases hr1 with rfl | ⟨hp, hr1⟩
  · go_wp2
    go_ret
    exact ⟨_, rfl, .inl rfl, hbel1⟩
  · go_wp2
    go_ret
    exact ⟨_, rfl, .inr ⟨hp, hr1⟩, hbel1⟩

theorem toFile_any (w : World) (f : Fil) :
    Calls Try.prog 93 #[.agg #[.string f.nm, .string f.tx, .int .i64 f.kp]] w fun e w' => e = .returned (.agg #[.string f.nm, .string f.tx, .int .i64 f.kp]) ∧ Below w.heap.size w w' := by
  go_enter Try.func93, Try.ntmps93
  go_wp2
  refine bodyPost_ret (v := .agg #[.string f.nm, .string f.tx, .int .i64 f.kp]) (by simp [results, Try.results93, go_sem]) rfl ⟨rfl, ?_⟩
  exact (((Below.refl w.heap.size w).alloc (Nat.le_refl _) _).alloc (by simp) _).alloc (by simp; omega) _

theorem take_set_zero (L : List Fil) (k : Nat) (h : k < L.length) (f : Fil) (hf : L[k] = f) : (L.take k ++ List.replicate (L.length - k) zfil).set k f = L.take (k + 1) ++ List.replicate (L.length - (k + 1)) zfil := by
  subst hf
  rw [List.set_append_right _ _ (by simp; omega), List.length_take, show k - min k L.length = 0 by omega, show L.length - k = (L.length - (k + 1)) + 1 by omega, List.replicate_succ, List.set_cons_zero, List.take_succ_eq_append_getElem h]
  rw [List.append_assoc]
  rfl

set_option maxHeartbeats 1000000 in
theorem toFileS_any (w : World) (a : Option Addr) (cap : Nat) (L : List Fil) (hL : FAt w a L w.heap.size) (hm : L.length ≤ 1048576) :
    Calls Try.prog 70 #[.slice a L.length cap] w fun e w' => ∃ v, e = .returned v ∧ OwnF w' w.heap.size 136 v L ∧ Below w.heap.size w w' := by
  obtain ⟨w0, hmk, hown, hb0⟩ := make_files (P := Try.prog) w 54 136 Try.underlying54 Try.infoFile L.length hm
  obtain ⟨G, hG⟩ : ∃ G, w.heap.size = G := ⟨_, rfl⟩
  rw [hG] at hmk hown
  go_enter Try.func70, Try.ntmps70
  go_wp2
  go_loopw [4] (fun i wr => Box (∃ (k : Nat), k ≤ L.length ∧ i = .int .i64 k ∧ OwnF wr G 136 (.slice (some ⟨G, 0, none⟩) L.length L.length) (L.take k ++ List.replicate (L.length - k) zfil) ∧ Below w.heap.size w wr))
    (fun i _ => L.length - (intOf i).toNat)
  case atStart => exact ⟨⟨0, by omega, rfl, by simpa using hown, hb0⟩⟩
  case round =>
    obtain ⟨k, hk, rfl, hown1, hbel⟩ := hrel.out
    by_cases hlt : k < L.length
    · obtain ⟨g, off, rfl, hg, hc0, hc1, hc2⟩ := (hL.below hbel (Nat.le_refl _)) k hlt
      have hset := take_set_zero L k hlt
      obtain ⟨f, hf⟩ : ∃ f, L[k] = f := ⟨_, rfl⟩
      rw [hf] at hc0 hc1 hc2
      have c1 := toFile_any wr f
      have hlen : L.length = (L.take k ++ List.replicate (L.length - k) zfil).length := by simp; omega
      have HX : Hid (∀ w1, Below wr.heap.size wr w1 → OwnF w1 G 136 (.slice (some ⟨G, 0, none⟩) L.length L.length) (L.take k ++ List.replicate (L.length - k) zfil)) := fun w1 hb => hown1.below hb (Nat.le_refl _)
      have HS : Hid (L.length = (L.take k ++ List.replicate (L.length - k) zfil).length ∧ (L.take k ++ List.replicate (L.length - k) zfil).set k f = L.take (k + 1) ++ List.replicate (L.length - (k + 1)) zfil) := ⟨hlen, hset f hf⟩
      clear hL hrel
      have hi1 : (0 : Int) ≤ (k : Int) := by omega
      have hi2 : (k : Int) < (L.length : Int) := by omega
      clear hmk hown hb0 hset hlen hown1
      go_wp2_with fail
      refine c1.mono ?_
      rintro e w1 ⟨rfl, hb1⟩
      have hown2 := HX.out w1 hb1
      obtain ⟨u0, u1, u2, k0, k1, k2, f0, f1, f2⟩ := hown2.there k (by rw [← HS.out.1]; exact hlt)
      go_wp2
      go_roundw
      case rel =>
        try ((repeat apply Exists.intro); refine ⟨?_, rfl⟩)
        have h2 := hown2.stored HS.out.1 k f
        rw [HS.out.2] at h2
        exact ⟨⟨k + 1, by omega, by go_num, h2.1, Below.grown (hbel.trans (hb1.mono hbel.size)) h2.2 (Nat.le_trans hbel.size hb1.size) (fun j hj => by simp at hj; omega)⟩⟩
      case measure => simp [intOf]; omega
    · go_wp2
      go_ret
      have hke : k = L.length := by omega
      subst hke
      simp only [List.take_length, Nat.sub_self, List.replicate_zero, List.append_nil] at hown1
      exact ⟨_, rfl, by rw [hG]; exact hown1, hbel⟩

theorem new3 (w : World) (a b c : Obj) : (((w.alloc a).alloc b).alloc c).heap[w.heap.size]? = some a ∧ (((w.alloc a).alloc b).alloc c).heap[w.heap.size + 1]? = some b ∧ (((w.alloc a).alloc b).alloc c).heap[w.heap.size + 1 + 1]? = some c := by
  refine ⟨?_, ?_, ?_⟩
  · rw [Below.heap_alloc _ _ _ (by simp; omega), Below.heap_alloc _ _ _ (by simp), heap_alloc_new]
  · rw [Below.heap_alloc _ _ _ (by simp)]
    have := heap_alloc_new (w.alloc a) b
    simpa using this
  · have := heap_alloc_new ((w.alloc a).alloc b) c
    simpa using this

/-- One cell of a block of the call's own, written: what is read behind it. -/
theorem cell_set_same {w : World} {g i : Nat} {u v : Value} (h : w.cell? ⟨g, i, none⟩ = some u) : (w.setCell ⟨g, i, none⟩ v).cell? ⟨g, i, none⟩ = some v := World.cell?_setCell_same _ _ _ h
theorem cell_set_other {w : World} {g g' i i' : Nat} {u v : Value} (hne : g ≠ g') (h : w.cell? ⟨g', i', none⟩ = some u) : (w.setCell ⟨g, i, none⟩ v).cell? ⟨g', i', none⟩ = some u := by
  rw [World.cell?_setCell_other _ _ _ _ (by simp)]; exact h

theorem toDisk_any (w : World) (a : Option Addr) (cap : Nat) (L : List Fil) (hL : FAt w a L w.heap.size) (hm : L.length ≤ 1048576) :
    Calls Try.prog 37 #[.agg #[.slice a L.length cap]] w fun e w' => ∃ v, e = .returned (.agg #[v]) ∧ OwnF w' w.heap.size 136 v L ∧ Below w.heap.size w w' := by
  obtain ⟨w0, hw0⟩ : ∃ w0, w0 = ((w.alloc (.cells #[.slice a L.length cap] 48)).alloc (.cells #[.slice none 0 0] 56)).alloc (.cells #[.slice none 0 0] 56) := ⟨_, rfl⟩
  have hb : Below w.heap.size w w0 := by rw [hw0]; exact (((Below.refl w.heap.size w).alloc (Nat.le_refl _) _).alloc (by simp) _).alloc (by simp; omega) _
  have c1 := toFileS_any w0 a cap L ((hL.below hb (Nat.le_refl _)).mono hb.size) hm
  have hn3 := new3 w (.cells #[.slice a L.length cap] 48) (.cells #[.slice none 0 0] 56) (.cells #[.slice none 0 0] 56)
  rw [← hw0] at hn3
  have hs0 : w0.heap.size = w.heap.size + 1 + 1 + 1 := by rw [hw0]; simp
  go_enter Try.func37, Try.ntmps37
  rw [hw0] at c1
  go_wp2_with fail
  refine c1.mono ?_
  rw [← hw0]
  rintro e w1 ⟨v, rfl, hown, hb1⟩
  obtain ⟨a1, cap1, rfl, _⟩ := hown.shape
  have hB1 := (hb1.block (w.heap.size + 1) (by omega)).trans hn3.2.1
  have hB2 := (hb1.block (w.heap.size + 1 + 1) (by omega)).trans hn3.2.2
  have q1 : w1.cell? ⟨w.heap.size + 1, 0, none⟩ = some (.slice none 0 0) := by simp [World.cell?, hB1]
  have q2 : w1.cell? ⟨w.heap.size + 1 + 1, 0, none⟩ = some (.slice none 0 0) := by simp [World.cell?, hB2]
  have z1 : w1.frozen? ⟨w.heap.size + 1, 0, none⟩ = false := by simp [World.frozen?, hB1]
  have z2 : w1.frozen? ⟨w.heap.size + 1 + 1, 0, none⟩ = false := by simp [World.frozen?, hB2]
  have q3 := cell_set_other (v := .slice a1 L.length cap1) (g := w.heap.size + 1 + 1) (i := 0) (by omega) q1
  have q4 := cell_set_same (v := .slice a1 L.length cap1) q2
  have q5 := cell_set_same (v := .slice a1 L.length cap1) q3
  have HF : Hid (OwnF w1 w0.heap.size 136 (.slice a1 L.length cap1) L) := hown
  clear hn3 hw0 hB1 hB2 c1 hL
  go_wp2
  refine bodyPost_ret (v := .agg #[.slice a1 L.length cap1]) (by simp [results, Try.results37, go_sem, q5]) rfl ⟨_, rfl, ?_, ?_⟩
  · refine (HF.out.mono hb.size).kept fun k hk => ?_
    have := HF.out.lt k hk
    rw [heap_setCell_other _ _ _ _ (by simp; omega), heap_setCell_other _ _ _ _ (by simp; omega)]
  · exact ((hb.trans (hb1.mono hb.size)).setCell (by simp; omega) _).setCell (by simp) _

theorem eqFile_same (w : World) (f : Fil) :
    Calls Try.prog 94 #[.agg #[.string f.nm, .string f.tx, .int .i64 f.kp], .agg #[.string f.nm, .string f.tx, .int .i64 f.kp]] w fun e w' => e = .returned (.bool true) ∧ Below w.heap.size w w' := by
  go_enter Try.func94, Try.ntmps94
  go_wp2
  go_ret
  exact ⟨rfl, ((Below.refl w.heap.size w).alloc (Nat.le_refl _) _).alloc (by simp) _⟩

set_option maxHeartbeats 1000000 in
/-- Two rows of the same files are found alike. -/
theorem eqFileS_same (w : World) (a b : Option Addr) (c1 c2 : Nat) (L : List Fil) (hA : FAt w a L w.heap.size) (hB : FAt w b L w.heap.size) (hl : L.length ≤ 1048576) :
    Calls Try.prog 71 #[.slice a L.length c1, .slice b L.length c2] w fun e w' => e = .returned (.bool true) ∧ Below w.heap.size w w' := by
  go_enter Try.func71, Try.ntmps71
  go_wp2
  go_loopw [5] (fun i wr => Box (∃ (k : Nat), k ≤ L.length ∧ i = .int .i64 k ∧ Below w.heap.size w wr))
    (fun i _ => L.length - (intOf i).toNat)
  case atStart => exact ⟨⟨0, by omega, rfl, Below.refl _ _⟩⟩
  case round =>
    obtain ⟨k, hk, rfl, hbel⟩ := hrel.out
    by_cases hlt : k < L.length
    · obtain ⟨g, off, rfl, hg, hc0, hc1, hc2⟩ := (hA.below hbel (Nat.le_refl _)) k hlt
      obtain ⟨g', off', rfl, hg', hd0, hd1, hd2⟩ := (hB.below hbel (Nat.le_refl _)) k hlt
      obtain ⟨f, hf⟩ : ∃ f, L[k] = f := ⟨_, rfl⟩
      rw [hf] at hc0 hc1 hc2 hd0 hd1 hd2
      have k0 := cell_regrown hc0
      have k1 := cell_regrown hc1
      have k2 := cell_regrown hc2
      have l0 := cell_regrown hd0
      have l1 := cell_regrown hd1
      have l2 := cell_regrown hd2
      have cV : ∀ d os, Calls Try.prog 94 #[.agg #[.string f.nm, .string f.tx, .int .i64 f.kp], .agg #[.string f.nm, .string f.tx, .int .i64 f.kp]] (grow (redrawn wr d) os) fun e w'' => e = .returned (.bool true) ∧ ∃ p : Regrown, w'' = grow (redrawn wr p.d) p.os := fun d os => Calls.regrown_of (by have := eqFile_same (grow (redrawn wr d) os) f; simpa using this)
      clear hA hB hrel hc0 hc1 hc2 hd0 hd1 hd2
      have hi1 : (0 : Int) ≤ (k : Int) := by omega
      have hi2 : (k : Int) < (L.length : Int) := by omega
      go_wp2
      refine wp_region_quiet_below (by kernel_rfl) (by kernel_rfl) ?_
      repeat (first | go_big_quiet_step (exact cV _ _) | quiet_step (exact cV _ _))
      refine wpQuiet_nil ?_
      intro _ hw'
      obtain ⟨⟨dq, osq⟩, hw''⟩ := hw'
      subst hw''
      go_wp2
      go_roundw
      case rel =>
        try ((repeat apply Exists.intro); refine ⟨?_, rfl⟩)
        exact ⟨⟨k + 1, by omega, by go_num, hbel.trans ((below_regrown wr dq osq).mono hbel.size)⟩⟩
      case measure => simp [intOf]; omega
    · go_wp2
      go_ret
      exact ⟨rfl, hbel⟩

theorem eqDisk_same (w : World) (b1 b2 : Nat) (va vb : Value) (L : List Fil) (ha : OwnF w b1 136 va L) (hb : OwnF w b2 136 vb L) (hl : L.length ≤ 1048576) :
    Calls Try.prog 40 #[.agg #[va], .agg #[vb]] w fun e w' => e = .returned (.bool true) ∧ Below w.heap.size w w' := by
  obtain ⟨a, c1, rfl, _, _, hA, _⟩ := ha.shape
  obtain ⟨b, c2, rfl, _, _, hB, _⟩ := hb.shape
  obtain ⟨w0, hw0⟩ : ∃ w0, w0 = (w.alloc (.cells #[.slice a L.length c1] 56)).alloc (.cells #[.slice b L.length c2] 56) := ⟨_, rfl⟩
  have hb : Below w.heap.size w w0 := by rw [hw0]; exact ((Below.refl w.heap.size w).alloc (Nat.le_refl _) _).alloc (by simp) _
  have cE := eqFileS_same w0 a b c1 c2 L ((hA.below hb (Nat.le_refl _)).mono hb.size) ((hB.below hb (Nat.le_refl _)).mono hb.size) hl
  rw [hw0] at cE
  go_enter Try.func40, Try.ntmps40
  go_wp2_with fail
  refine cE.mono ?_
  rw [← hw0]
  rintro e w1 ⟨rfl, hb1⟩
  go_wp2
  go_ret
  exact ⟨rfl, hb.trans (hb1.mono hb.size)⟩
end Go.Proofs.Ytpgcfgbhkodmeaa
