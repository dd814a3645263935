/- The walk of the law on AddCell. -/
import Derived.Test.YtogfkbkfcelgcamCellImpl
import Derived.Test.YtogfkbkfcelgcamCellSpec
import Derived.Test.YtogfkbkfcelgcamMarkInts
namespace Go.Proofs.Ytogfkbkfcelgcam
open Go.RowKit Go.Sort

theorem own_apart {w1 w2 : World} {b1 b2 : Nat} {e1 e2 : TypeId} {v1 v2 : Value} {xs ys : List Value} (h1 : OwnV w1 b1 e1 v1 xs) (h2 : OwnV w2 b2 e2 v2 ys) (hb : w1.heap.size ≤ b2) : ∀ k, v1.ownBlock = some k → v2.ownBlock ≠ some k := fun k hk he => by
  have := (h1.lt k hk).2
  have := (h2.lt k he).1
  omega
theorem thenB {a b c : World} (h : Below a.heap.size a b) (k : Below b.heap.size b c) : Below a.heap.size a c := h.trans (k.mono h.size)

set_option maxHeartbeats 4000000 in
theorem addCell_walk (a : Option Addr) (cap : Nat) (l : List Int) (p n : Int) (w : World) (hL : IAt w a l w.heap.size) (hi : l.length ≤ maxLen) (_hp : (Lit.int .i64 p).wf = true) (_hn : (Lit.int .i64 n).wf = true) :
    Calls Try.prog 7 #[.slice a l.length cap, .int .i64 p, .int .i64 n] w fun e w' => e = .returned (.bool true) ∧ Below w.heap.size w w' := by
  unfold maxLen at hi
  by_cases hlf : l.length ≤ 1048576
  case neg =>
    go_enter Try.func7, Try.ntmps7
    go_wp2
    go_ret
    exact ⟨rfl, Below.refl _ _⟩
  have HL : Hid (∀ wi, Below w.heap.size w wi → IAt wi a l wi.heap.size) := fun wi hb => IAt.on hL hb
  obtain ⟨M, hM⟩ : ∃ M, (adC l p n).1 = M := ⟨_, rfl⟩
  obtain ⟨r, hr⟩ : ∃ r, (adC l p n).2 = r := ⟨_, rfl⟩
  have hMl : M.length ≤ 1048576 := by rw [← hM, adC_len l p n]; exact hlf
  have CS : Hid (∀ (wi : World) (x : Option Addr) (cx : Nat), IAt wi x l wi.heap.size → Calls Try.prog 20 #[.slice x l.length cx, .int .i64 p, .int .i64 n] wi fun e w' => ∃ v, e = .returned (.tuple #[v, .int .i64 r]) ∧ OwnV w' wi.heap.size 3 v (ints M) ∧ Below wi.heap.size wi w') := by
    intro wi x cx h
    have := specAdd_any wi x cx l p n h hlf
    rw [hM, hr] at this
    exact this
  have CI : Hid (∀ (wi : World) (x : Option Addr) (cx : Nat), IAt wi x l wi.heap.size → Calls Try.prog 21 #[.slice x l.length cx, .int .i64 p, .int .i64 n] wi fun e w' => ∃ v, e = .returned (.tuple #[v, .int .i64 r]) ∧ OwnV w' wi.heap.size 3 v (ints M) ∧ Below wi.heap.size wi w') := by
    intro wi x cx h
    have := implAdd_any wi x cx l p n h hlf
    rw [hM, hr] at this
    exact this
  clear hM hr hL
  go_enter Try.func7, Try.ntmps7
  go_wp2_with fail
  refine (toIntS_any w a cap l (HL.out w (Below.refl _ _)) hlf).mono ?_
  rintro e w1 ⟨v1, rfl, ho1, hb1⟩
  obtain ⟨a1, cap1, rfl, hA1⟩ := ho1.ints
  go_wp2_with fail
  refine (CS.out w1 a1 cap1 hA1).mono ?_
  rintro e w2 ⟨v2, rfl, ho2, hb2⟩
  have hB2 := thenB hb1 hb2
  clear ho1 hA1
  go_wp2_with fail
  refine (toIntS_any w2 a cap l (HL.out w2 hB2) hlf).mono ?_
  rintro e w3 ⟨v3, rfl, ho3, hb3⟩
  have hB3 := thenB hB2 hb3
  have ho23 := ho2.below hb3 (Nat.le_refl _)
  obtain ⟨a3, cap3, hv3, hA3⟩ := ho3.ints
  subst hv3
  go_wp2_with fail
  refine (CI.out w3 a3 cap3 hA3).mono ?_
  rintro e w4 ⟨v4, rfl, ho4, hb4⟩
  have hB4 := thenB hB3 hb4
  have h24 := ho23.below hb4 (Nat.le_refl _)
  have h34 := ho3.below hb4 (Nat.le_refl _)
  have AP1 : Hid (∀ k, (Value.slice a3 l.length cap3).ownBlock = some k → v4.ownBlock ≠ some k ∧ v2.ownBlock ≠ some k ∧ w.heap.size ≤ k) := fun k hk => ⟨own_apart ho3 ho4 (Nat.le_refl _) k hk, fun e => own_apart ho2 ho3 (Nat.le_refl _) k e hk, Nat.le_trans hB2.size (ho3.lt k hk).1⟩
  have AP2 : Hid (∀ k, v4.ownBlock = some k → v2.ownBlock ≠ some k ∧ w.heap.size ≤ k) := fun k hk => ⟨fun e => own_apart ho2 ho4 hb3.size k e hk, Nat.le_trans hB3.size (ho4.lt k hk).1⟩
  clear ho2 ho3 ho23 hA3
  obtain ⟨a4, cap4, hv4, hA4⟩ := ho4.ints
  subst hv4
  obtain ⟨a2, cap2, hv2, hA2⟩ := h24.ints
  subst hv2
  go_wp2_with fail
  refine (eqIntS_same w4 a4 a2 cap4 cap2 M hA4 hA2 hMl).mono ?_
  rintro e w5 ⟨rfl, hb5⟩
  have hB5 := thenB hB4 hb5
  have h25 := h24.below hb5 (Nat.le_refl _)
  have h35 := h34.below hb5 (Nat.le_refl _)
  have h45 := ho4.below hb5 (Nat.le_refl _)
  clear h24 h34 ho4 hA4 hA2
  go_wp2_with fail
  refine (toIntS_any w5 a cap l (HL.out w5 hB5) hlf).mono ?_
  rintro e w6 ⟨v6, rfl, ho6, hb6⟩
  have hB6 := thenB hB5 hb6
  have h26 := h25.below hb6 (Nat.le_refl _)
  have h36 := h35.below hb6 (Nat.le_refl _)
  have h46 := h45.below hb6 (Nat.le_refl _)
  clear h25 h35 h45
  obtain ⟨a6, cap6, rfl, hA6⟩ := ho6.ints
  obtain ⟨y3, z3, hy3, hA3⟩ := h36.ints
  simp only [Value.slice.injEq] at hy3
  obtain ⟨rfl, _, rfl⟩ := hy3
  go_wp2_with fail
  refine (eqIntS_same w6 _ a6 _ cap6 l hA3 hA6 hlf).mono ?_
  rintro e w7 ⟨rfl, hb7⟩
  have hB7 := thenB hB6 hb7
  have h27 := h26.below hb7 (Nat.le_refl _)
  have h37 := h36.below hb7 (Nat.le_refl _)
  have h47 := h46.below hb7 (Nat.le_refl _)
  clear h26 h36 h46 hA6 hA3 ho6
  go_wp2_with fail
  refine (markI_any w7 _ _ l 1 h37 hlf (by omega)).mono ?_
  rintro e w8 ⟨he8, _, hg8⟩
  obtain ⟨k8, hk8⟩ : ∃ k8 : Nat, 1 + l.length = k8 := ⟨_, rfl⟩
  rw [hk8] at he8
  subst he8
  have hd8 : decide ((k8 : Int) < 0) = false := decide_eq_false (by omega)
  have hB8 : Below w.heap.size w w8 := Below.grown hB7 hg8 hB7.size (fun k hk => (AP1.out k hk).2.2)
  have h28 := h27.grown hg8 (fun k hk e => (AP1.out k e).2.1 hk)
  have h48 := h47.grown hg8 (fun k hk e => (AP1.out k e).1 hk)
  clear h27 h37 h47 hg8 hk8
  obtain ⟨y2, z2, hy2, hA2⟩ := h28.ints
  simp only [Value.slice.injEq] at hy2
  obtain ⟨rfl, _, rfl⟩ := hy2
  obtain ⟨y4, z4, hy4, hA4⟩ := h48.ints
  simp only [Value.slice.injEq] at hy4
  obtain ⟨rfl, _, rfl⟩ := hy4
  go_wp2_with fail
  refine (eqIntS_same w8 _ _ _ _ M hA4 hA2 hMl).mono ?_
  rintro e w9 ⟨rfl, hb9⟩
  have hB9 := thenB hB8 hb9
  have h29 := h28.below hb9 (Nat.le_refl _)
  have h49 := h48.below hb9 (Nat.le_refl _)
  clear h28 h48 hA4 hA2
  go_wp2_with fail
  refine (markI_any w9 _ _ M 1 h49 hMl (by omega)).mono ?_
  rintro e w10 ⟨he10, ⟨m, hml, hmm, h410⟩, hg10⟩
  obtain ⟨k10, hk10⟩ : ∃ k10 : Nat, 1 + M.length = k10 := ⟨_, rfl⟩
  rw [hk10] at he10
  subst he10
  have hd10 : decide ((k10 : Int) < 0) = false := decide_eq_false (by omega)
  have hB10 : Below w.heap.size w w10 := Below.grown hB9 hg10 hB9.size (fun k hk => (AP2.out k hk).2)
  have h210 := h29.grown hg10 (fun k hk e => (AP2.out k e).1 hk)
  have CH : Hid (∀ wi b, OwnV wi b 3 (.slice a4 M.length cap4) (ints m) → Calls Try.prog 17 #[.slice a4 M.length cap4, .int .i64 ((1 : Nat) : Int)] wi fun e w' => e = .returned (.int .i64 (k10 : Int)) ∧ w' = wi) := by
    intro wi b ho
    rw [← hk10]
    exact heldI_any wi b _ m M.length 1 hml ho hmm hMl (by omega)
  clear h29 h49 hg10 hk10 hml hmm
  go_wp2_with fail
  refine (CH.out w10 _ h410).mono ?_
  rintro e w10' ⟨rfl, rfl⟩
  go_wp2_with fail
  refine (toIntS_any _ a cap l (HL.out _ hB10) hlf).mono ?_
  rintro e w11 ⟨v11, rfl, ho11, hb11⟩
  have hB11 := thenB hB10 hb11
  have h211 := h210.below hb11 (Nat.le_refl _)
  have h411 := h410.below hb11 (Nat.le_refl _)
  obtain ⟨a11, cap11, rfl, hA11⟩ := ho11.ints
  clear h210 h410 ho11
  go_wp2_with fail
  refine (CI.out w11 a11 cap11 hA11).mono ?_
  rintro e w12 ⟨v12, rfl, ho12, hb12⟩
  have hB12 := thenB hB11 hb12
  have h212 := h211.below hb12 (Nat.le_refl _)
  have h412 := h411.below hb12 (Nat.le_refl _)
  clear h211 h411 hA11
  obtain ⟨a12, cap12, rfl, hA12⟩ := ho12.ints
  obtain ⟨x2, u2, hx2, hA2⟩ := h212.ints
  simp only [Value.slice.injEq] at hx2
  obtain ⟨rfl, _, rfl⟩ := hx2
  go_wp2_with fail
  refine (eqIntS_same w12 a12 _ cap12 _ M hA12 hA2 hMl).mono ?_
  rintro e w13 ⟨rfl, hb13⟩
  have hB13 := thenB hB12 hb13
  have h413 := h412.below hb13 (Nat.le_refl _)
  clear h212 h412 hA12 hA2 ho12
  go_wp2_with fail
  refine (CH.out w13 _ h413).mono ?_
  rintro e w13' ⟨rfl, rfl⟩
  go_wp2
  go_ret
  exact ⟨rfl, hB13⟩
end Go.Proofs.Ytogfkbkfcelgcam
