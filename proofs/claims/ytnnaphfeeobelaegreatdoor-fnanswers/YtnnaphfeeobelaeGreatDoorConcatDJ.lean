/- Texts that stand in one: ConcatD, DecItoa, DecimalImpl. -/
import Derived.Test.YtnnaphfeeobelaeGreatDoorGoodReadJ
import Derived.Test.YtnnaphfeeobelaeGreatDoorFieldLawJ
import Derived.Lib.AppendZerosOnto
import Derived.Deep.RegionLaw
import Derived.Test.YtnnaphfeeobelaeGreatDoorDecPlain
import Derived.Lib.ItoaNum
import Derived.Test.YtnnaphfeeobelaeGreatDoorBaseJ
import Derived.Test.YtnnaphfeeobelaeGreatDoorShelf
import Derived.WalkSmall
import Derived.OpenShut
namespace Go.Proofs.YtnnaphfeeobelaeGreatDoor
open Go.RowKit Go.Sort

set_option maxRecDepth 100000 in
set_option maxHeartbeats 2000000 in
theorem growD_any (w : World) (n : Nat) (hn : n ≤ 1048600) :
    Calls Tryz.prog 37 #[.slice none 0 0, .int .i64 n] w fun e w' => ∃ v, e = .returned v ∧ OwnD w' w.heap.size 29 v [] ∧ Below w.heap.size w w' := by
  by_cases h0 : n = 0
  · subst h0
    go_enter Tryz.func37, Tryz.ntmps37
    go_wp2
    go_ret
    exact ⟨_, rfl, ⟨rfl, .inl ⟨rfl, rfl⟩⟩, Below.refl _ _⟩
  · obtain ⟨i0, hi0, hz0, hzs, hzb⟩ := info_parts Tryz.infoFd
    have hold : (Builtin.firstCells i0.size 0 (.slice none 0 0)).run Tryz.prog w.drew = .ok ([] : List Value).toArray w.drew := by
      rw [hzs]
      exact run_firstCells_none w.drew 2 0 0 0
    obtain ⟨G, hG⟩ : ∃ G, G = grownCap w (0 + n) 0 29 := ⟨_, rfl⟩
    have hGn : 0 + n ≤ G := by rw [hG]; exact grownCap_ge w _ _ _
    have hG63 : G ≤ maxLen := by rw [hG]; exact grownCap_le_maxLen w (0 + n) 0 29 (by unfold maxLen; omega)
    obtain ⟨ROW, hROW⟩ : ∃ ROW : Array Value, ROW = ([] : List Value).toArray ++ Builtin.zeroCells (Value.agg #[.string ⟨#[]⟩, .string ⟨#[]⟩]).cells n ++ Builtin.zeroCells (Value.agg #[.string ⟨#[]⟩, .string ⟨#[]⟩]).cells (G - (0 + n)) := ⟨_, rfl⟩
    have hRl : ROW.size = G * 2 := by
      have hzl : ∀ k, (Builtin.zeroCells (Value.agg #[.string ⟨#[]⟩, .string ⟨#[]⟩]).cells k).size = k * 2 := fun k => by simp [Builtin.zeroCells, Value.cells]
      rw [hROW, Array.size_append, Array.size_append, hzl, hzl]
      simp
      omega
    have hrz : ∀ ty, (Builtin.append_ #[30, 3] ty #[.slice none 0 0, .int .i64 (n : Int)]).run Tryz.prog w = .ok (.slice (some ⟨w.heap.size, 0, none⟩) n G) (w.drew.alloc (.cells ROW 29)) := fun ty => by
      have h := Lib.run_append_grow_zeros w 30 3 ty 29 i0 _ .i64 .i64 Tryz.underlying30 Tryz.underlying3 hi0 hz0 none 0 0 [] hold n (by omega) (by omega) (by omega) (by omega) (by rw [hzb]; omega) (by rw [hzb]; exact growslice_fits (by omega) (by omega))
      rw [← hG, ← hROW, Nat.zero_add] at h
      exact h
    obtain ⟨W1, hW1⟩ : ∃ W1, w.drew.alloc (.cells ROW 29) = W1 := ⟨_, rfl⟩
    rw [hW1] at hrz
    have HW : Hid (OwnD W1 w.heap.size 29 (.slice (some ⟨w.heap.size, 0, none⟩) 0 G) [] ∧ Below w.heap.size w W1) := by
      rw [← hW1]
      refine ⟨⟨rfl, .inr ⟨w.heap.size, G, ROW, rfl, Nat.le_refl _, heap_alloc_new w.drew _, Nat.zero_le _, hG63, hRl, by simp [fdl]⟩⟩, ?_⟩
      exact (show Below w.heap.size w w.drew from ⟨rfl, rfl, rfl, Nat.le_refl _, fun _ _ => rfl⟩).alloc (Nat.le_refl _) _
    obtain ⟨S, hS⟩ : ∃ S, w.heap.size = S := ⟨_, rfl⟩
    rw [hS] at hrz HW
    have HS : Hid (w.heap.size = S) := hS
    clear hold hROW hG hRl hW1 hS
    have hp : ¬ ((n : Int) < 0) := by omega
    have hp2 : (0 : Int) < (n : Int) := by omega
    have hw1 : IntKind.i64.wrap ((n : Int) - 0) = (n : Int) := by rw [IntKind.wrap_i64]; omega
    go_enter Tryz.func37, Tryz.ntmps37
    go_wp2_with (at_builtin; refine Lib.wpList_append_run _ rfl _ _ _ _ rfl _ _ rfl rfl _ _ (hrz _) ?_)
    go_ret
    rw [HS.out]
    exact ⟨_, rfl, HW.out.1, HW.out.2⟩
set_option maxRecDepth 100000 in
set_option maxHeartbeats 2000000 in
theorem concatD_any (w : World) (vb : Nat) (a1 a2 : Option Addr) (c1 c2 : Nat) (A B : List (ByteArray × ByteArray)) (hv0 : w.cell? ⟨vb, 0, none⟩ = some (.slice a1 A.length c1)) (hv1 : w.cell? ⟨vb, 1, none⟩ = some (.slice a2 B.length c2)) (hvb : vb < w.heap.size)
    (hA : DAt w a1 A w.heap.size) (hB : DAt w a2 B w.heap.size) (hm : A.length + B.length ≤ 1048600) :
    Calls Tryz.prog 21 #[.slice (some ⟨vb, 0, none⟩) 2 2] w fun e w' => ∃ v, e = .returned v ∧ OwnD w' w.heap.size 29 v (A ++ B) ∧ Below w.heap.size w w' := by
  have HV : Hid (∀ wi, Below w.heap.size w wi → wi.cell? ⟨vb, 0, none⟩ = some (.slice a1 A.length c1) ∧ wi.cell? ⟨vb, 1, none⟩ = some (.slice a2 B.length c2) ∧ DAt wi a1 A w.heap.size ∧ DAt wi a2 B w.heap.size) := fun wi hi =>
    ⟨(hi.cell (p := ⟨vb, 0, none⟩) hvb).trans hv0, (hi.cell (p := ⟨vb, 1, none⟩) hvb).trans hv1, hA.below hi (Nat.le_refl _), hB.below hi (Nat.le_refl _)⟩
  clear hA hB
  have hn1 : (A.length : Int) ≤ 1048600 := by omega
  have hn2 : (B.length : Int) ≤ 1048600 := by omega
  go_enter Tryz.func21, Tryz.ntmps21
  go_wp2
  go_loopw [3, 11] (fun s k wr => Box (wr = w ∧ ((k = .int .i64 0 ∧ s = .int .i64 0) ∨ (k = .int .i64 1 ∧ s = .int .i64 A.length) ∨ (k = .int .i64 2 ∧ s = .int .i64 ((A.length : Int) + B.length)))))
    (fun _ k _ => 2 - (intOf k).toNat)
  case atStart => exact ⟨⟨rfl, .inl ⟨rfl, rfl⟩⟩⟩
  case round =>
    obtain ⟨hwr, ⟨rfl, rfl⟩ | ⟨rfl, rfl⟩ | ⟨rfl, rfl⟩⟩ := hrel.out
    all_goals rw [hwr]
    all_goals clear hwr
    · clear hrel
      go_wp2
      go_roundw
      case rel =>
        try ((repeat apply Exists.intro); refine ⟨?_, rfl⟩)
        exact ⟨⟨by first | rfl | trivial, .inr (.inl ⟨by go_num, by go_num⟩)⟩⟩
      case measure => simp [intOf]
    · clear hrel
      have hw1 : IntKind.i64.wrap ((A.length : Int) + (B.length : Int)) = (A.length : Int) + (B.length : Int) := by rw [IntKind.wrap_i64]; omega
      have hp : ¬ ((A.length : Int) + (B.length : Int) < 0) := by omega
      go_wp2
      go_roundw
      case rel =>
        try ((repeat apply Exists.intro); refine ⟨?_, rfl⟩)
        exact ⟨⟨by first | rfl | trivial, .inr (.inr ⟨by go_num, by go_num⟩)⟩⟩
      case measure => simp [intOf]
    · clear hrel
      have cg := growD_any w (A.length + B.length) (by omega)
      rw [show ((A.length + B.length : Nat) : Int) = (A.length : Int) + B.length by omega] at cg
      clear hv0 hv1
      go_wp2_with fail
      refine cg.mono ?_
      rintro e w1 ⟨v1, rfl, ho1, hb1⟩
      clear cg
      go_wp2
      go_loopw [6, 27] (fun v k w2 => Box (Below w.heap.size w w2 ∧ ((k = .int .i64 0 ∧ OwnD w2 w.heap.size 29 v []) ∨ (k = .int .i64 1 ∧ OwnD w2 w.heap.size 29 v A) ∨ (k = .int .i64 2 ∧ OwnD w2 w.heap.size 29 v (A ++ B)))))
        (fun _ k _ => 2 - (intOf k).toNat)
      case atStart => exact ⟨⟨hb1, .inl ⟨rfl, ho1⟩⟩⟩
      case round =>
        obtain ⟨hb2, ⟨rfl, ho2⟩ | ⟨rfl, ho2⟩ | ⟨rfl, ho2⟩⟩ := hrel.out
        · clear hrel
          obtain ⟨q0, q1, hA, hB⟩ := HV.out _ hb2
          have hsz := hb2.size
          go_wp2_with (at_builtin; refine wpList_plusD rfl (.tmp 31) (.tmp 32) 30 rfl w.heap.size 29 Tryz.underlying30 Tryz.infoFd _ [] rfl ho2 a1 c1 A _ rfl hA (by simp; omega) hsz ?_; intro v4 w4 ho4 hgr4)
          go_roundw
          case rel =>
            try ((repeat apply Exists.intro); refine ⟨?_, rfl⟩)
            exact ⟨⟨hb2.grown hgr4 hsz (fun k e => (ho2.lt k e).1), .inr (.inl ⟨by go_num, by simpa using ho4⟩)⟩⟩
          case measure => simp [intOf]
        · clear hrel
          obtain ⟨q0, q1, hA, hB⟩ := HV.out _ hb2
          have hsz := hb2.size
          go_wp2_with (at_builtin; refine wpList_plusD rfl (.tmp 31) (.tmp 32) 30 rfl w.heap.size 29 Tryz.underlying30 Tryz.infoFd _ A rfl ho2 a2 c2 B _ rfl hB (by omega) hsz ?_; intro v4 w4 ho4 hgr4)
          go_roundw
          case rel =>
            try ((repeat apply Exists.intro); refine ⟨?_, rfl⟩)
            exact ⟨⟨hb2.grown hgr4 hsz (fun k e => (ho2.lt k e).1), .inr (.inr ⟨by go_num, ho4⟩)⟩⟩
          case measure => simp [intOf]
        · clear hrel
          go_wp2
          go_ret
          exact ⟨_, rfl, ho2, hb2⟩
end Go.Proofs.YtnnaphfeeobelaeGreatDoor

namespace Go.Proofs.YtnnaphfeeobelaeGreatDoor
open Go.RowKit

theorem decDigits_small {u : Nat} (h : u < 10) : Lib.decDigits u = [UInt8.ofNat (48 + u)] := by rw [Lib.decDigits, dif_pos h]
theorem decDigits_big {u : Nat} (h : ¬ u < 10) : Lib.decDigits u = Lib.decDigits (u / 10) ++ [UInt8.ofNat (48 + u % 10)] := by rw [Lib.decDigits, dif_neg h]

theorem digF_dec : ∀ (f u : Nat) (s : List UInt8), 0 < u → u < 10 ^ f → digF f u s = Lib.decDigits u ++ s
  | 0, u, s, h0, h1 => by simp at h1; omega
  | f + 1, u, s, h0, h1 => by
    rw [digF_on (by omega)]
    by_cases h : u < 10
    · rw [show u / 10 = 0 by omega, digF_zero, decDigits_small h, show u % 10 = u by omega]
      simp [fig, h]
    · rw [digF_dec f (u / 10) _ (by omega) (by rw [Nat.pow_succ] at h1; omega), decDigits_big h]
      have h10 : u % 10 < 10 := by omega
      simp [fig, h10]

theorem decOf_itoa (n : Int) (h1 : -9223372036854775808 ≤ n) (h2 : n ≤ 9223372036854775807) : decOf n = Lib.itoa n := by
  unfold decOf Lib.itoa
  by_cases h0 : n = 0
  · subst h0
    rw [if_pos rfl, if_neg (by omega)]
    exact (decDigits_small (u := 0) (by decide)).symm
  · rw [if_neg h0]
    by_cases hn : n < 0
    · rw [if_pos hn, if_pos hn, digF_dec 20 n.natAbs [] (by omega) (by omega), List.append_nil]
    · rw [if_neg hn, if_neg hn, digF_dec 20 n.natAbs [] (by omega) (by omega), List.append_nil, show n.toNat = n.natAbs by omega]
end Go.Proofs.YtnnaphfeeobelaeGreatDoor

namespace Go.Proofs.YtnnaphfeeobelaeGreatDoor
open Go.RowKit Go.Sort

theorem below_grow (w : World) (k : Nat) (os : Array Obj) : Below w.heap.size w (grow (w.drewN k) os) :=
  ⟨rfl, rfl, rfl, by simp [grow], fun j hj => by simp [grow, Array.getElem?_append, hj]⟩

theorem gPow : Tryz.prog.globalNamed "internal/strconv.uint64pow10" = some 1 := by kernel_rfl

theorem var_lt {P : Program} {w : World} {n : String} {g : Nat} {cs : Array Value} (hg : P.globalNamed n = some g) (h : w.var? P n = some cs) : g < w.heap.size := by
  unfold World.var? at h
  simp only [hg, Option.bind_some] at h
  cases hh : w.heap[g]? with
  | none => rw [hh] at h; cases h
  | some o => exact (Array.getElem?_eq_some_iff.1 hh).1

theorem tab_below {P : Program} {w w' : World} {n : String} {g : Nat} {k : IntKind} {zs : List Int} (hg : P.globalNamed n = some g) (h : Lib.TabIs P w n k zs) (hb : Below w.heap.size w w') : Lib.TabIs P w' n k zs :=
  var?_below hb hg (var_lt hg h) h

theorem implDecimal_any (n : Int) (w : World) (h1 : -9223372036854775808 ≤ n) (h2 : n ≤ 9223372036854775807) (htab : Lib.TabIs Tryz.prog w "internal/strconv.uint64pow10" .u64 Lib.pow10Tab) :
    Calls Tryz.prog 19 #[.int .i64 n] w fun e w' => e = .returned (.string ⟨(decOf n).toArray⟩) ∧ Below w.heap.size w w' := by
  rw [decOf_itoa n h1 h2]
  have c := Tryz.strconv_Itoa n h1 h2 w htab
  clear h1 h2 htab
  go_enter Tryz.func19, Tryz.ntmps19
  go_wp2_with (go_at_call 33; refine c.mono ?_; rintro e w' ⟨rfl, k, os, rfl⟩)
  go_ret
  exact ⟨rfl, below_grow _ _ _⟩
end Go.Proofs.YtnnaphfeeobelaeGreatDoor
