/- Pairs that are the same are told to be so; pairs and a task are drawn. -/
import Derived.Test.YtogfkbkfcelgcacTaskDraw
import Derived.Test.YtogfkbkfcelgcacPairsDraw
import Derived.Laws.StructEq
import Derived.Deep.RegionHeld3
namespace Go.Proofs.Ytogfkbkfcelgcac
open Go.RowKit Go.Sort

theorem pr_neq (x y : Int) (w : World) : (binOp .neq 73 (.agg #[.int .i64 x, .int .i64 y]) (.agg #[.int .i64 x, .int .i64 y])).run Try.prog w = .ok (.bool false) w := by
  have h0 := Try.underlying73
  have h2 : Try.prog.stoodInHeld 73 = false := by kernel_rfl
  rw [run_neq_struct, run_equalIn_agg w 9999 73 _ _ (by unfold Program.fieldsOf; rw [h0]) h2]
  simp [go_sem, h0, Op.eqFields]

set_option maxHeartbeats 1000000 in
theorem samePairs_same (w : World) (a b : Option Addr) (c1 c2 : Nat) (L : List (Int × Int)) (hA : PAt w a L w.heap.size) (hB : PAt w b L w.heap.size) (hl : L.length ≤ 1048576) :
    Calls Try.prog 20 #[.slice a L.length c1, .slice b L.length c2] w fun e w' => e = .returned (.bool true) ∧ Below w.heap.size w w' := by
  go_enter Try.func20, Try.ntmps20
  go_wp2
  go_loopw [5] (fun i wr => Box (∃ (k nq : Nat), k ≤ L.length ∧ i = .int .i64 k ∧ wr = w.drewN nq))
    (fun i _ => L.length - (intOf i).toNat)
  case atStart => exact ⟨⟨0, 0, by omega, rfl, rfl⟩⟩
  case round =>
    obtain ⟨k, nq, hk, rfl, rfl⟩ := hrel.out
    by_cases hlt : k < L.length
    · obtain ⟨g, off, rfl, _, hc0, hc1⟩ := hA k hlt
      obtain ⟨g2, off2, rfl, _, hd0, hd1⟩ := hB k hlt
      obtain ⟨f, hf⟩ : ∃ f, L[k] = f := ⟨_, rfl⟩
      rw [hf] at hc0 hc1 hd0 hd1
      clear hA hB hf hrel
      have hi1 : (0 : Int) ≤ (k : Int) := by omega
      have hi2 : (k : Int) < (L.length : Int) := by omega
      have hq := fun w => pr_neq f.1 f.2 w
      go_wp2
      go_quiet (fail)
      go_wp2
      go_roundw
      case rel =>
        try ((repeat apply Exists.intro); refine ⟨?_, rfl⟩)
        exact ⟨⟨k + 1, _, by omega, by go_num, rfl⟩⟩
      case measure => simp [intOf]; omega
    · go_wp2
      go_ret
      exact ⟨rfl, ⟨rfl, rfl, rfl, Nat.le_refl _, fun _ _ => rfl⟩⟩

set_option maxRecDepth 100000 in
set_option maxHeartbeats 4000000 in
theorem drawDoTask_any (w : World) (ca : Option Addr) (n cap : Nat) (hcode : CodeAt w ca n w.heap.size) (hn : n ≤ 1048576) :
    Calls Try.prog 18 #[.slice ca n cap] w fun e w' => ∃ (a : Option Addr) (c : Nat) (L : List (Int × Int)) (t : Tk), e = .returned (.tuple #[.slice a L.length c, .agg (tcs t)]) ∧ (L.length ≤ 4 ∧ NiceP L) ∧ PAt w' a L w'.heap.size ∧ Below w.heap.size w w' := by
  obtain ⟨w1, hw1⟩ : ∃ w1, w.alloc (.cells (tcs Tk.zero) 33) = w1 := ⟨_, rfl⟩
  have hb1 : Below w.heap.size w w1 := by rw [← hw1]; exact (Below.refl _ _).alloc (Nat.le_refl _) _
  have hR1 : TBox w1 w.heap.size Tk.zero := by rw [← hw1]; exact TBox.new _ _
  have HW : Hid (w.alloc (.cells #[.int .i64 0, .int .i64 0, .int .i64 0, .int .i64 0, .int .i64 0, .int .i64 0, .int .i64 0, .int .i64 0, .int .i64 0, .bool false, .int .i64 0] 33) = w1) := hw1
  have hcode1 : CodeAt w1 ca n w1.heap.size := by
    intro j hj
    obtain ⟨b, off, z, h1, h2, h3, h4⟩ := hcode j hj
    exact ⟨b, off, z, h1, Nat.lt_of_lt_of_le h2 hb1.size, (hb1.cell (p := ⟨b, off + j, none⟩) h2).trans h3, h4⟩
  have c1 := new_any w1 ca n cap hcode1 hn
  clear hcode hcode1 hw1
  go_enter Try.func18, Try.ntmps18
  go_wp2_with fail
  rw [HW.out]
  refine c1.mono ?_
  rintro e w2 ⟨p, rfl, hp1, hp2, hcur, hcd, hb2⟩
  have hR2 := hR1.on hb2
  have hB2 := hb1.trans (hb2.mono hb1.size)
  have hwp : w.heap.size < p := Nat.lt_of_lt_of_le hR1.lt hp2
  have c2 := l06Task_any w2 p ca n cap 1 hcur hcd hn
  unfold tcs at c2
  clear c1 hcur hcd
  go_wp2_with fail
  refine c2.mono ?_
  rintro e w3 ⟨t, rfl, hl3⟩
  have hR3 : TBox w3 w.heap.size Tk.zero := hR2.kept (hl3.2.2.block _ hR2.lt (by simp; omega))
  have hB3 : Below w.heap.size w w3 := below_of_left hB2 (by omega) hl3
  have hp3 : p < w3.heap.size := hl3.1.lt
  obtain ⟨V, hV⟩ : ∃ V, w3.heap.size = V := ⟨_, rfl⟩
  obtain ⟨w4, hw4⟩ : ∃ w4, w3.alloc (.cells (tcs t) 33) = w4 := ⟨_, rfl⟩
  have hb4 : Below w3.heap.size w3 w4 := by rw [← hw4]; exact (Below.refl _ _).alloc (Nat.le_refl _) _
  have hV4 : TBox w4 V t := by rw [← hw4, ← hV]; exact TBox.new _ _
  have hR4 := hR3.on hb4
  have hl4 : Left w3 w4 p ca n cap := (Left.refl hl3.1 hl3.2.1).below hb4 hp3
  have hB4 := hB3.trans (hb4.mono hB3.size)
  have HW4 : Hid (w3.alloc (.cells #[.int .i64 t.kind, .int .i64 t.key, .int .i64 t.val, .int .i64 t.node, .int .i64 t.pc, .int .i64 t.prev, .int .i64 t.cur, .int .i64 t.next, .int .i64 t.mark, .bool t.done, .int .i64 t.ans] 33) = w4) := hw4
  have HV : Hid (w3.heap.size = V) := hV
  have hpV : p < V := by omega
  have c5 := once_any w4 p ca n cap 12 hl4.1 hl4.2.1 hn (by omega) (by omega)
  clear c2 hw4 hV hR1 hR2 hR3 hB2 hB3 hb1 hb2 hb4 hl3
  go_wp2_with fail
  rw [HW4.out, HV.out]
  refine c5.mono ?_
  rintro e w5 ⟨b, rfl, hl5⟩
  have hR5 : TBox w5 w.heap.size Tk.zero := hR4.kept (hl5.2.2.block _ hR4.lt (by simp; omega))
  have hV5 : TBox w5 V t := hV4.kept (hl5.2.2.block _ hV4.lt (by simp; omega))
  have hB5 : Below w.heap.size w w5 := below_of_left hB4 (by omega) hl5
  have hl35 := hl4.trans hl5
  clear c5 hR4 hV4 hB4 hl4
  cases b
  case' false =>
    go_wp2_with fail
    obtain ⟨s, hs⟩ : ∃ s : Tk, s = t := ⟨_, rfl⟩
    obtain ⟨w6, hw6⟩ : ∃ w6 : World, w6 = w5 := ⟨_, rfl⟩
    rw [← hw6] at hR5 hV5 hB5 hl5
    have hc6 : Cur w6 p ca n cap ∧ CodeAt w6 ca n p := ⟨hl5.1, hl5.2.1⟩
    rw [← hs] at hV5
    rw [← hw6]
    have hR6 := hR5
    have hV6 := hV5
    have hB6 := hB5
    clear hs hw6 hl5 hR5 hV5 hB5
  case' true =>
    have c6 := below_any w5 p ca n cap 6 hl5.1 hl5.2.1 hn (by omega) (by omega)
    go_wp2_with fail
    refine c6.mono ?_
    rintro e w7 ⟨x, hx, _, rfl, hl7⟩
    have hR7 : TBox w7 w.heap.size Tk.zero := hR5.kept (hl7.2.2.block _ hR5.lt (by simp; omega))
    have hV7 : TBox w7 V t := hV5.kept (hl7.2.2.block _ hV5.lt (by simp; omega))
    have hB7 : Below w.heap.size w w7 := below_of_left hB5 (by omega) hl7
    obtain ⟨y0, y1, y2, y3, y4, y5, y6, y7, y8, y9, y10⟩ := hV7.cells
    have f0 := hV7.thaw 0
    obtain ⟨s, hs⟩ : ∃ s : Tk, ({ t with kind := (x : Int) } : Tk) = s := ⟨_, rfl⟩
    obtain ⟨w6, hw6⟩ : ∃ w6, w7.setCell ⟨V, 0, none⟩ (.int .i64 (x : Int)) = w6 := ⟨_, rfl⟩
    have hV6 : TBox w6 V s := by rw [← hw6, ← hs]; exact hV7.set 0 _ _ (by simp [tcs])
    have hR6 : TBox w6 w.heap.size Tk.zero := by rw [← hw6]; exact hR7.other (by show w.heap.size ≠ V; omega) _
    have hB6 : Below w.heap.size w w6 := by rw [← hw6]; exact Below.setCell hB7 (by show w.heap.size ≤ V; omega) _
    have hl6 : Left w3 w6 p ca n cap := by
      rw [← hw6]
      exact (hl35.trans hl7).set hp3 (by show w3.heap.size ≤ V; exact Nat.le_of_eq HV.out) _
    have hc6 : Cur w6 p ca n cap ∧ CodeAt w6 ca n p := ⟨hl6.1, hl6.2.1⟩
    have HW6 : Hid (w7.setCell ⟨V, 0, none⟩ (.int .i64 (x : Int)) = w6) := hw6
    clear c6 hR5 hV5 hB5 hl5 hR7 hV7 hB7 hw6 hs
    go_wp2_with fail
    rw [HW6.out]
  all_goals have cP : Calls Try.prog 40 #[.pointer (some ⟨p, 0, none⟩)] w6.drew fun e wn => ∃ (a : Option Addr) (c : Nat) (L : List (Int × Int)), e = .returned (.slice a L.length c) ∧ TBox wn V s ∧ TBox wn w.heap.size Tk.zero ∧ Hid ((L.length ≤ 4 ∧ NiceP L) ∧ PAt wn a L wn.heap.size ∧ (∀ g off, a = some ⟨g, off, none⟩ → w.heap.size < g) ∧ Below w.heap.size w wn) := (l07Pairs_any w6.drew p ca n cap hc6.1 hc6.2 hn).mono (by
    rintro e wn ⟨v, L, rfl, hL4, hNi, ho, hl⟩
    obtain ⟨a, c, rfl, hP⟩ := ho.at
    have hd : Below w.heap.size w w6.drew := hB6.trans ⟨rfl, rfl, rfl, Nat.le_refl _, fun _ _ => rfl⟩
    have hV6' : TBox w6.drew V s := hV6
    have hR6' : TBox w6.drew w.heap.size Tk.zero := hR6
    refine ⟨a, c, L, rfl, hV6'.kept (hl.2.2.block _ hV6'.lt (by simp; omega)), hR6'.kept (hl.2.2.block _ hR6'.lt (by simp; omega)), ⟨⟨hL4, hNi⟩, hP, ?_, below_of_left hd (by omega) hl⟩⟩
    intro g off e
    subst e
    have := (ho.lt g rfl).1
    exact Nat.lt_of_lt_of_le hR6'.lt this)
  all_goals obtain ⟨y0, y1, y2, y3, y4, y5, y6, y7, y8, y9, y10⟩ := hV6.cells
  all_goals clear hB6 hV6 hR6 hc6
  all_goals go_region_law (go_simp; go_at_call 40; refine Calls.mono cP ?_; rintro e wn ⟨aA, cA, L, rfl, hQ, hRn, HA⟩; obtain ⟨y0, y1, y2, y3, y4, y5, y6, y7, y8, y9, y10⟩ := hQ.cells; obtain ⟨r0, r1, r2, r3, r4, r5, r6, r7, r8, r9, r10⟩ := hRn.cells; dsimp only [Tk.zero] at r0 r1 r2 r3 r4 r5 r6 r7 r8 r9 r10; have z0 := hRn.thaw 0; have z1 := hRn.thaw 1; have z2 := hRn.thaw 2; have z3 := hRn.thaw 3; have z4 := hRn.thaw 4; have z5 := hRn.thaw 5; have z6 := hRn.thaw 6; have z7 := hRn.thaw 7; have z8 := hRn.thaw 8; have z9 := hRn.thaw 9; have z10 := hRn.thaw 10)
  all_goals (
    clear r0 r1 r2 r3 r4 r5 r6 r7 r8 r9 r10 z0 z1 z2 z3 z4 z5 z6 z7 z8 z9 z10 y0 y1 y2 y3 y4 y5 y6 y7 y8 y9 y10
    obtain ⟨s0, s1, s2, s3, s4, s5, s6, s7, s8, s9, s10⟩ := (put11_box hRn s).cells
    unfold put11 at s0 s1 s2 s3 s4 s5 s6 s7 s8 s9 s10
    have HF : Hid (PAt (put11 wn w.heap.size s) aA L (put11 wn w.heap.size s).heap.size ∧ Below w.heap.size w (put11 wn w.heap.size s)) := by
      refine ⟨?_, put11_below HA.out.2.2.2 (Nat.le_refl _) s⟩
      intro j hj
      obtain ⟨g, off, ha, hg, hc0, hc1⟩ := HA.out.2.1 j hj
      have hne : g ≠ w.heap.size := fun e => by have := HA.out.2.2.1 g off ha; omega
      refine ⟨g, off, ha, Nat.lt_of_lt_of_le hg (put11_below (Below.refl w.heap.size wn) (Nat.le_refl _) s).size, ?_, ?_⟩
      · rw [World.cell?_of_block (w := wn) (put11_other wn w.heap.size s hne)]
        exact hc0
      · rw [World.cell?_of_block (w := wn) (put11_other wn w.heap.size s hne)]
        exact hc1
    unfold put11 at HF
    clear hRn hQ cP
    go_wp2
    refine bodyPost_ret (v := .tuple #[.slice aA L.length cA, .agg #[.int .i64 s.kind, .int .i64 s.key, .int .i64 s.val, .int .i64 s.node, .int .i64 s.pc, .int .i64 s.prev, .int .i64 s.cur, .int .i64 s.next, .int .i64 s.mark, .bool s.done, .int .i64 s.ans]]) (by simp [results, Try.results18, go_sem, s0, s1, s2, s3, s4, s5, s6, s7, s8, s9, s10]) rfl ⟨aA, cA, L, s, rfl, HA.out.1, HF.out.1, HF.out.2⟩)
end Go.Proofs.Ytogfkbkfcelgcac
