/- slices.Grow and slices.Concat of calls. -/
import Derived.Test.YtogfkbkfcelgcaoCallKit
import Derived.Lib.AppendZerosOnto
import Derived.Deep.RegionLaw
namespace Go.Proofs.Ytogfkbkfcelgcao
open Go.RowKit Go.Sort

theorem Try.infoCl : (Try.prog.info? 50).map (fun i => (i.zero, i.size, i.bytes)) = some (some (.agg #[.int .i64 0, .int .i64 0, .int .i64 0, .int .i64 0, .int .i64 0, .int .i64 0, .int .i64 0, .int .i64 0, .int .i64 0, .bool false, .int .i64 0, .int .i64 0, .int .i64 0]), 13, 104) := by kernel_rfl
set_option maxRecDepth 100000 in
set_option maxHeartbeats 2000000 in
theorem growK_any (w : World) (n : Nat) (hn : n ≤ 1048576) :
    Calls Try.prog 57 #[.slice none 0 0, .int .i64 n] w fun e w' => ∃ v, e = .returned v ∧ OwnK w' w.heap.size 50 v [] ∧ Below w.heap.size w w' := by
  by_cases h0 : n = 0
  · subst h0
    go_enter Try.func57, Try.ntmps57
    go_wp2
    go_ret
    exact ⟨_, rfl, ⟨rfl, .inl ⟨rfl, rfl⟩⟩, Below.refl _ _⟩
  · obtain ⟨i0, hi0, hz0, hzs, hzb⟩ := info_parts Try.infoCl
    have hold : (Builtin.firstCells i0.size 0 (.slice none 0 0)).run Try.prog w.drew = .ok ([] : List Value).toArray w.drew := by
      rw [hzs]
      exact run_firstCells_none w.drew 13 0 0 0
    obtain ⟨G, hG⟩ : ∃ G, G = grownCap w (0 + n) 0 50 := ⟨_, rfl⟩
    have hGn : 0 + n ≤ G := by rw [hG]; exact grownCap_ge w _ _ _
    have hG63 : G ≤ maxLen := by rw [hG]; exact grownCap_le_maxLen w (0 + n) 0 50 (by unfold maxLen; omega)
    obtain ⟨ROW, hROW⟩ : ∃ ROW : Array Value, ROW = ([] : List Value).toArray ++ Builtin.zeroCells (Value.agg #[.int .i64 0, .int .i64 0, .int .i64 0, .int .i64 0, .int .i64 0, .int .i64 0, .int .i64 0, .int .i64 0, .int .i64 0, .bool false, .int .i64 0, .int .i64 0, .int .i64 0]).cells n ++ Builtin.zeroCells (Value.agg #[.int .i64 0, .int .i64 0, .int .i64 0, .int .i64 0, .int .i64 0, .int .i64 0, .int .i64 0, .int .i64 0, .int .i64 0, .bool false, .int .i64 0, .int .i64 0, .int .i64 0]).cells (G - (0 + n)) := ⟨_, rfl⟩
    have hRl : ROW.size = G * 13 := by
      have hzl : ∀ k, (Builtin.zeroCells (Value.agg #[.int .i64 0, .int .i64 0, .int .i64 0, .int .i64 0, .int .i64 0, .int .i64 0, .int .i64 0, .int .i64 0, .int .i64 0, .bool false, .int .i64 0, .int .i64 0, .int .i64 0]).cells k).size = k * 13 := fun k => by simp [Builtin.zeroCells, Value.cells]
      rw [hROW, Array.size_append, Array.size_append, hzl, hzl]
      simp
      omega
    have hrz : ∀ ty, (Builtin.append_ #[25, 3] ty #[.slice none 0 0, .int .i64 (n : Int)]).run Try.prog w = .ok (.slice (some ⟨w.heap.size, 0, none⟩) n G) (w.drew.alloc (.cells ROW 50)) := fun ty => by
      have h := Lib.run_append_grow_zeros w 25 3 ty 50 i0 _ .i64 .i64 Try.underlying25 Try.underlying3 hi0 hz0 none 0 0 [] hold n (by omega) (by omega) (by omega) (by omega) (by rw [hzb]; omega) (by rw [hzb]; exact growslice_fits (by omega) (by omega))
      rw [← hG, ← hROW, Nat.zero_add] at h
      exact h
    obtain ⟨W1, hW1⟩ : ∃ W1, w.drew.alloc (.cells ROW 50) = W1 := ⟨_, rfl⟩
    rw [hW1] at hrz
    have HW : Hid (OwnK W1 w.heap.size 50 (.slice (some ⟨w.heap.size, 0, none⟩) 0 G) [] ∧ Below w.heap.size w W1) := by
      rw [← hW1]
      refine ⟨⟨rfl, .inr ⟨w.heap.size, G, ROW, rfl, Nat.le_refl _, heap_alloc_new w.drew _, Nat.zero_le _, hG63, hRl, by simp [cll]⟩⟩, ?_⟩
      exact (show Below w.heap.size w w.drew from ⟨rfl, rfl, rfl, Nat.le_refl _, fun _ _ => rfl⟩).alloc (Nat.le_refl _) _
    obtain ⟨S, hS⟩ : ∃ S, w.heap.size = S := ⟨_, rfl⟩
    rw [hS] at hrz HW
    have HS : Hid (w.heap.size = S) := hS
    clear hold hROW hG hRl hW1 hS
    have hp : ¬ ((n : Int) < 0) := by omega
    have hp2 : (0 : Int) < (n : Int) := by omega
    have hw1 : IntKind.i64.wrap ((n : Int) - 0) = (n : Int) := by rw [IntKind.wrap_i64]; omega
    go_enter Try.func57, Try.ntmps57
    go_wp2_with (at_builtin; refine Lib.wpList_append_run _ rfl _ _ _ _ rfl _ _ rfl rfl _ _ (hrz _) ?_)
    go_ret
    rw [HS.out]
    exact ⟨_, rfl, HW.out.1, HW.out.2⟩
set_option maxRecDepth 100000 in
set_option maxHeartbeats 2000000 in
theorem concatK_any (w : World) (vb : Nat) (a1 a2 : Option Addr) (c1 c2 : Nat) (A B : List Cl) (hv0 : w.cell? ⟨vb, 0, none⟩ = some (.slice a1 A.length c1)) (hv1 : w.cell? ⟨vb, 1, none⟩ = some (.slice a2 B.length c2)) (hvb : vb < w.heap.size)
    (hA : KAt w a1 A w.heap.size) (hB : KAt w a2 B w.heap.size) (hm : A.length + B.length ≤ 1000) :
    Calls Try.prog 42 #[.slice (some ⟨vb, 0, none⟩) 2 2] w fun e w' => ∃ v, e = .returned v ∧ OwnK w' w.heap.size 50 v (A ++ B) ∧ Below w.heap.size w w' := by
  have HV : Hid (∀ wi, Below w.heap.size w wi → wi.cell? ⟨vb, 0, none⟩ = some (.slice a1 A.length c1) ∧ wi.cell? ⟨vb, 1, none⟩ = some (.slice a2 B.length c2) ∧ KAt wi a1 A w.heap.size ∧ KAt wi a2 B w.heap.size) := fun wi hi =>
    ⟨(hi.cell (p := ⟨vb, 0, none⟩) hvb).trans hv0, (hi.cell (p := ⟨vb, 1, none⟩) hvb).trans hv1, hA.below hi (Nat.le_refl _), hB.below hi (Nat.le_refl _)⟩
  clear hA hB
  have hn1 : (A.length : Int) ≤ 1000 := by omega
  have hn2 : (B.length : Int) ≤ 1000 := by omega
  go_enter Try.func42, Try.ntmps42
  go_wp2
  go_loopw [3, 11] (fun s k wr => Box (wr = w ∧ ((k = .int .i64 0 ∧ s = .int .i64 0) ∨ (k = .int .i64 1 ∧ s = .int .i64 A.length) ∨ (k = .int .i64 2 ∧ s = .int .i64 ((A.length : Int) + B.length)))))
    (fun _ k _ => 2 - (intOf k).toNat)
  case atStart => exact ⟨⟨rfl, .inl ⟨rfl, rfl⟩⟩⟩
  case round =>
    obtain ⟨hwr, ⟨rfl, rfl⟩ | ⟨rfl, rfl⟩ | ⟨rfl, rfl⟩⟩ := hrel.out
    all_goals rw [hwr]
    all_goals clear hwr
    · clear hrel
      go_wp2
      go_roundw
      case rel =>
        try ((repeat apply Exists.intro); refine ⟨?_, rfl⟩)
        exact ⟨⟨by first | rfl | trivial, .inr (.inl ⟨by go_num, by go_num⟩)⟩⟩
      case measure => simp [intOf]
    · clear hrel
      have hw1 : IntKind.i64.wrap ((A.length : Int) + (B.length : Int)) = (A.length : Int) + (B.length : Int) := by rw [IntKind.wrap_i64]; omega
      have hp : ¬ ((A.length : Int) + (B.length : Int) < 0) := by omega
      go_wp2
      go_roundw
      case rel =>
        try ((repeat apply Exists.intro); refine ⟨?_, rfl⟩)
        exact ⟨⟨by first | rfl | trivial, .inr (.inr ⟨by go_num, by go_num⟩)⟩⟩
      case measure => simp [intOf]
    · clear hrel
      have cg := growK_any w (A.length + B.length) (by omega)
      rw [show ((A.length + B.length : Nat) : Int) = (A.length : Int) + B.length by omega] at cg
      clear hv0 hv1
      go_wp2_with fail
      refine cg.mono ?_
      rintro e w1 ⟨v1, rfl, ho1, hb1⟩
      clear cg
      go_wp2
      go_loopw [6, 27] (fun v k w2 => Box (Below w.heap.size w w2 ∧ ((k = .int .i64 0 ∧ OwnK w2 w.heap.size 50 v []) ∨ (k = .int .i64 1 ∧ OwnK w2 w.heap.size 50 v A) ∨ (k = .int .i64 2 ∧ OwnK w2 w.heap.size 50 v (A ++ B)))))
        (fun _ k _ => 2 - (intOf k).toNat)
      case atStart => exact ⟨⟨hb1, .inl ⟨rfl, ho1⟩⟩⟩
      case round =>
        obtain ⟨hb2, ⟨rfl, ho2⟩ | ⟨rfl, ho2⟩ | ⟨rfl, ho2⟩⟩ := hrel.out
        · clear hrel
          obtain ⟨q0, q1, hA, hB⟩ := HV.out _ hb2
          have hsz := hb2.size
          go_wp2_with (at_builtin; refine wpList_allK rfl (.tmp 31) (.tmp 32) 25 rfl w.heap.size 50 Try.underlying25 Try.infoCl _ [] rfl ho2 a1 c1 A _ rfl hA (by simp; omega) hsz ?_; intro v4 w4 ho4 hgr4)
          go_roundw
          case rel =>
            try ((repeat apply Exists.intro); refine ⟨?_, rfl⟩)
            exact ⟨⟨hb2.grown hgr4 hsz (fun k e => (ho2.lt k e).1), .inr (.inl ⟨by go_num, by simpa using ho4⟩)⟩⟩
          case measure => simp [intOf]
        · clear hrel
          obtain ⟨q0, q1, hA, hB⟩ := HV.out _ hb2
          have hsz := hb2.size
          go_wp2_with (at_builtin; refine wpList_allK rfl (.tmp 31) (.tmp 32) 25 rfl w.heap.size 50 Try.underlying25 Try.infoCl _ A rfl ho2 a2 c2 B _ rfl hB (by omega) hsz ?_; intro v4 w4 ho4 hgr4)
          go_roundw
          case rel =>
            try ((repeat apply Exists.intro); refine ⟨?_, rfl⟩)
            exact ⟨⟨hb2.grown hgr4 hsz (fun k e => (ho2.lt k e).1), .inr (.inr ⟨by go_num, ho4⟩)⟩⟩
          case measure => simp [intOf]
        · clear hrel
          go_wp2
          go_ret
          exact ⟨_, rfl, ho2, hb2⟩
end Go.Proofs.Ytogfkbkfcelgcao
