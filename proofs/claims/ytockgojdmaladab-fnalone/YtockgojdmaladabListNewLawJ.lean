/- Texts that stand in one: ListNewLaw, ListNewWalk, AloneLaw, CodeOf, Leave. -/
import Derived.Test.YtockgojdmaladabMarkInts
import Derived.Test.YtockgojdmaladabAloneKit
import Derived.Test.YtockgojdmaladabStepImpl
import Derived.Test.YtockgojdmaladabKeysImpl
import Derived.Test.YtockgojdmaladabValueImpl
import Derived.Test.YtockgojdmaladabCursor
import Derived.WalkKit
import Derived.ProofKit
import Derived.OpenShut
import Derived.ChangeOld
import Derived.Below
import Derived.Conc.Holds
namespace Go.Proofs.Ytockgojdmaladab
open Go.RowKit Go.Sort

def newL : List Int := List.replicate 63 0
theorem specListNew_any (w : World) :
    Calls Try.prog 82 #[] w fun e w' => ∃ v, e = .returned v ∧ OwnV w' w.heap.size 3 v (ints newL) ∧ Below w.heap.size w w' := by
  obtain ⟨i0, hi, hz0, hz1, hz2⟩ := info_parts Try.infoInt
  obtain ⟨w0, hmk, hown0, hgr0⟩ := run_make_full (P := Try.prog) w w.heap.size 24 3 i0 (.int .i64 0) 1 Try.underlying24 hi hz0 hz1 .i64 .i64 63 (by rw [hz2]; omega) (by unfold maxLen; omega) (Nat.le_refl _)
  have hb0 : Below w.heap.size w w0 := ⟨hgr0.os, hgr0.tape, hgr0.output, hgr0.size, fun j hj => hgr0.block j hj (by simp)⟩
  have hown : OwnV w0 w.heap.size 3 (.slice (some ⟨w.heap.size, 0, none⟩) 63 63) (ints newL) := by
    have h := hown0
    rw [show (Value.int .i64 0).cells = #[Value.int .i64 0] from rfl, toList_madeCells_one, Nat.mul_one] at h
    have e : ints newL = List.replicate 63 (Value.int .i64 0) := by simp [ints, newL]
    unfold OwnV
    rw [e, List.length_replicate]
    exact h
  have hmk2 : (Instr.makeSlice 24 (.int .i64 63) (.int .i64 63)).run Try.prog w = .ok (.slice (some ⟨w.heap.size, 0, none⟩) 63 63) w0 := hmk
  clear hown0 hgr0 hi hz0 hz1 hz2 hmk
  go_enter Try.func82, Try.ntmps82
  go_wp2
  go_ret
  exact ⟨_, rfl, hown, hb0⟩

end Go.Proofs.Ytockgojdmaladab

namespace Go.Proofs.Ytockgojdmaladab
open Go.RowKit Go.Sort

theorem implListNew_any (w : World) :
    Calls Try.prog 25 #[] w fun e w' => ∃ v, e = .returned v ∧ OwnV w' w.heap.size 3 v (ints newL) ∧ Below w.heap.size w w' := by
  obtain ⟨i0, hi, hz0, hz1, hz2⟩ := info_parts Try.infoInt
  obtain ⟨w0, hmk, hown0, hgr0⟩ := run_make_full (P := Try.prog) w w.heap.size 24 3 i0 (.int .i64 0) 1 Try.underlying24 hi hz0 hz1 .i64 .i64 63 (by rw [hz2]; omega) (by unfold maxLen; omega) (Nat.le_refl _)
  have hb0 : Below w.heap.size w w0 := ⟨hgr0.os, hgr0.tape, hgr0.output, hgr0.size, fun j hj => hgr0.block j hj (by simp)⟩
  have hown : OwnV w0 w.heap.size 3 (.slice (some ⟨w.heap.size, 0, none⟩) 63 63) (ints newL) := by
    have h := hown0
    rw [show (Value.int .i64 0).cells = #[Value.int .i64 0] from rfl, toList_madeCells_one, Nat.mul_one] at h
    have e : ints newL = List.replicate 63 (Value.int .i64 0) := by simp [ints, newL]
    unfold OwnV
    rw [e, List.length_replicate]
    exact h
  have hmk2 : (Instr.makeSlice 24 (.int .i64 63) (.int .i64 63)).run Try.prog w = .ok (.slice (some ⟨w.heap.size, 0, none⟩) 63 63) w0 := hmk
  clear hown0 hgr0 hi hz0 hz1 hz2 hmk
  go_enter Try.func25, Try.ntmps25
  go_wp2
  go_ret
  exact ⟨_, rfl, hown, hb0⟩

end Go.Proofs.Ytockgojdmaladab

namespace Go.Proofs.Ytockgojdmaladab
open Go.RowKit Go.Sort

set_option maxHeartbeats 8000000 in
set_option maxRecDepth 100000 in
theorem alone_walk (ca : Option Addr) (n cap : Nat) (w : World) (hcode : CodeAt w ca n w.heap.size) (hlen : n ≤ maxLen) :
    Calls Try.prog 5 #[.slice ca n cap] w fun e w' => e = .returned (.bool true) ∧ Below w.heap.size w w' := by
  unfold maxLen at hlen
  by_cases hn : n ≤ 1048576
  · have c1 := drawPairs_any w ca n cap hcode hn
    have C2 : Hid (∀ w', Below w.heap.size w w' → Calls Try.prog 11 #[.slice ca n cap] w' fun e w'' => ∃ (v : Value) (l : List Int), e = .returned v ∧ l.length = 12 ∧ (∀ z ∈ l, 0 ≤ z ∧ z < 10000) ∧ OwnV w'' w'.heap.size 3 v (ints l) ∧ Below w'.heap.size w' w'') := by
      intro w' hb
      refine drawPlaces_any w' ca n cap (fun j hj => ?_) hn
      obtain ⟨b, off, z, h1, h2, h3, h4⟩ := hcode j hj
      exact ⟨b, off, z, h1, Nat.lt_of_lt_of_le h2 hb.size, (hb.cell (p := ⟨b, off + j, none⟩) h2).trans h3, h4⟩
    have HCT : Hid (∀ (kind key val node : Int) (w : World), Calls Try.prog 26 #[.int .i64 kind, .int .i64 key, .int .i64 val, .int .i64 node] w fun e w' => e = .returned (.agg (tcs (Tk.new kind key val node))) ∧ Below w.heap.size w w') := implTaskNew_any
    have HCS : Hid (∀ (w : World) (a : Option Addr) (cap : Nat) (l : List Int) (t : Tk), IAt w a l w.heap.size → l.length ≤ 1048576 → Calls Try.prog 27 #[.slice a l.length cap, .agg (tcs t)] w fun e w' => ∃ v, e = .returned (.tuple #[v, .agg (tcs (stepL l t).2)]) ∧ OwnV w' w.heap.size 3 v (ints (stepL l t).1) ∧ Below w.heap.size w w') := implStep_any
    clear hcode
    go_enter Try.func5, Try.ntmps5
    have cb := big_any ca n cap w hlen
    rw [show decide (1048576 < n) = false by simp; omega] at cb
    go_wp2_with fail
    refine cb.mono ?_
    rintro e w' ⟨rfl, rfl⟩
    go_wp2_with fail
    refine c1.mono ?_
    rintro e w1 ⟨vp, L, rfl, hL4, hnice, hownp, hb1⟩
    clear c1 cb
    go_wp2_with fail
    refine (C2.out _ hb1).mono ?_
    rintro e w2 ⟨v, lx, rfl, hl, hlz, hown, hb2⟩
    have hB2 : Below w.heap.size w w2 := hb1.trans (hb2.mono hb1.size)
    obtain ⟨pp, pc, rfl, hcells⟩ := hown.shape
    obtain ⟨g, rfl, hz0, _, _, hg⟩ := hcells 0 (by rw [ints_length]; omega)
    obtain ⟨g', hgg, hz1, _, _, _⟩ := hcells 1 (by rw [ints_length]; omega)
    simp at hgg
    subst hgg
    obtain ⟨g', hgg, hz2, _, _, _⟩ := hcells 2 (by rw [ints_length]; omega)
    simp at hgg
    subst hgg
    rw [ints_at (by omega)] at hz0 hz1 hz2
    obtain ⟨x0, hx0⟩ : ∃ x, lx[0] = x := ⟨_, rfl⟩
    obtain ⟨x1, hx1⟩ : ∃ x, lx[1] = x := ⟨_, rfl⟩
    obtain ⟨x2, hx2⟩ : ∃ x, lx[2] = x := ⟨_, rfl⟩
    have hxb0 := hlz lx[0] (List.getElem_mem _)
    have hxb1 := hlz lx[1] (List.getElem_mem _)
    have hxb2 := hlz lx[2] (List.getElem_mem _)
    rw [hx0] at hz0 hxb0
    rw [hx1] at hz1 hxb1
    rw [hx2] at hz2 hxb2
    rw [ints_length, hl]
    have hownp2 := hownp.below hb2 (Nat.le_refl _)
    obtain ⟨pa, pcap, rfl, hpa⟩ := hownp2.at
    have c3 := implListNew_any w2
    have hn1 : w.heap.size ≤ w2.heap.size := hB2.size
    clear hcells hown hlz hx0 hx1 hx2 hl C2 hownp hownp2
    go_wp2_with fail
    refine c3.mono ?_
    rintro e w3 ⟨v3, rfl, ho3, hb3⟩
    obtain ⟨n1, hn1e⟩ : ∃ n1, w2.heap.size = n1 := ⟨_, rfl⟩
    have H3 : Al w n1 pa L g x0 x1 x2 v3 newL w3 := Al.turn (v := .slice none 0 0) (l := []) ⟨hB2, by rw [← hn1e]; exact hpa, hz0, hz1, hz2, by rw [← hn1e]; exact hg, by rw [hn1e]; exact Nat.le_refl _, by rw [← hn1e]; exact hn1, OwnV.nil _ _ _⟩ hb3 ho3
    have hR3 : Rep newL (psL L 0) := by rw [psL_zero]; exact Rep.new
    clear c3 ho3 hb3 hb1 hb2 hB2 hz0 hz1 hz2 hg hpa hn1e hn1
    go_wp2
    go_loopw [5, 6] (fun u i wr => Box (∃ (k : Nat) (l : List Int), k ≤ L.length ∧ i = .int .i64 k ∧ Rep l (psL L k) ∧ Al w n1 pa L g x0 x1 x2 u l wr))
      (fun _ i _ => L.length - (intOf i).toNat)
    case atStart => exact ⟨⟨0, newL, by omega, rfl, hR3, H3⟩⟩
    case round =>
      obtain ⟨k, l, hk, rfl, hR, H⟩ := hrel.out
      clear hrel H3 hR3
      by_cases hlt : k < L.length
      · obtain ⟨gp, off, rfl, hgp, q0, q1⟩ := H.pairs k hlt
        obtain ⟨l2, s2, hrun, hdone, hans, hR2⟩ := put_next hR hnice hL4 hlt
        obtain ⟨⟨pk, pv⟩, hpp⟩ : ∃ p, L[k] = p := ⟨_, rfl⟩
        rw [hpp] at q0 q1 hrun
        dsimp only at q0 q1 hrun
        have hi1 : (0 : Int) ≤ (k : Int) := by omega
        have hi2 : (k : Int) < (L.length : Int) := by omega
        have hwr : IntKind.i64.wrap (10 + (k : Int)) = 10 + (k : Int) := by rw [IntKind.wrap_i64]; omega
        obtain ⟨s, hs⟩ : ∃ s, Tk.new 2 pk pv (10 + (k : Int)) = s := ⟨_, rfl⟩
        have CN : Hid (∀ w, Calls Try.prog 26 #[.int .i64 2, .int .i64 pk, .int .i64 pv, .int .i64 (10 + (k : Int))] w fun e w' => e = .returned (.agg #[.int .i64 s.kind, .int .i64 s.key, .int .i64 s.val, .int .i64 s.node, .int .i64 s.pc, .int .i64 s.prev, .int .i64 s.cur, .int .i64 s.next, .int .i64 s.mark, .bool s.done, .int .i64 s.ans]) ∧ Below w.heap.size w w') := fun w => by
          have := HCT.out 2 pk pv (10 + (k : Int)) w
          rw [hs] at this
          exact this
        rw [hs] at hrun
        have HRUN : Hid (runT 60 l s = (l2, s2) ∧ s2.done = true ∧ s2.ans = 1 ∧ Rep l2 (psL L (k + 1))) := ⟨hrun, hdone, hans, hR2⟩
        have HRG : Hid (l.length = 63) := hR.good.1
        clear hpp hs hrun hdone hans hR2 hR
        go_wp2
        go_cut [7] from 22 to 63 (fun p wc => ∃ (T : Nat), p = .pointer (some ⟨T, 0, none⟩) ∧ TBox wc T s ∧ wr.heap.size ≤ T ∧ Below wr.heap.size wr wc)
        case first =>
          have hgw : gp < wr.heap.size := Nat.lt_of_lt_of_le hgp H.nb
          have hdr : Below wr.heap.size wr wr.drew := ⟨rfl, rfl, rfl, Nat.le_refl _, fun _ _ => rfl⟩
          have KS : ∀ wi, Below wr.heap.size wr wi → (Below wr.heap.size wr wi ∧ wi.cell? ⟨gp, off + k * 2, none⟩ = some (.int .i64 pk) ∧ wi.cell? ⟨gp, off + k * 2 + 1, none⟩ = some (.int .i64 pv)) := fun wi hi => ⟨hi, (hi.cell (p := ⟨gp, off + k * 2, none⟩) hgw).trans q0, (hi.cell (p := ⟨gp, off + k * 2 + 1, none⟩) hgw).trans q1⟩
          have hzb : Below wr.heap.size wr ((wr.alloc (.cells #[.int .i64 0, .int .i64 0, .int .i64 0, .int .i64 0, .int .i64 0, .int .i64 0, .int .i64 0, .int .i64 0, .int .i64 0, .bool false, .int .i64 0] 43)).drew) := ((Below.refl _ wr).alloc (Nat.le_refl _) _).trans (⟨rfl, rfl, rfl, Nat.le_refl _, fun _ _ => rfl⟩)
          have hzn : TBox ((wr.alloc (.cells #[.int .i64 0, .int .i64 0, .int .i64 0, .int .i64 0, .int .i64 0, .int .i64 0, .int .i64 0, .int .i64 0, .int .i64 0, .bool false, .int .i64 0] 43)).drew) wr.heap.size Tk.zero := (TBox.new wr Tk.zero).on ⟨rfl, rfl, rfl, Nat.le_refl _, fun _ _ => rfl⟩
          clear H
          go_region_held3 (fun w' => Below wr.heap.size wr w' ∧ w'.cell? ⟨gp, off + k * 2, none⟩ = some (.int .i64 pk) ∧ w'.cell? ⟨gp, off + k * 2 + 1, none⟩ = some (.int .i64 pv)) (first | with_reducible exact KS _ hdr | with_reducible exact KS _ hC1 | with_reducible exact KS _ hzb | with_reducible exact KS _ (hC1.alloc hC1.size _) | with_reducible exact KS _ (kept_put s hC1 (Nat.le_refl _)))
            ((go_at_call 26; first
              | (with_reducible refine Calls.mono (CN.out wr.drew) ?_; rintro e w4 ⟨rfl, hb4⟩; have hC1 := hdr.trans (hb4.mono hdr.size))
              | (refine Calls.mono (CN.out ((wr.alloc (.cells #[.int .i64 0, .int .i64 0, .int .i64 0, .int .i64 0, .int .i64 0, .int .i64 0, .int .i64 0, .int .i64 0, .int .i64 0, .bool false, .int .i64 0] 43)).drew)) ?_; rintro e w4 ⟨rfl, hb4⟩; have hC1 := hzb.trans (hb4.mono hzb.size); have hz := hzn.on hb4; obtain ⟨c0, c1, c2, c3, c4, c5, c6, c7, c8, c9, c10⟩ := hz.cells; dsimp only [Tk.zero] at c0 c1 c2 c3 c4 c5 c6 c7 c8 c9 c10; have y0 := hz.thaw 0; have y1 := hz.thaw 1; have y2 := hz.thaw 2; have y3 := hz.thaw 3; have y4 := hz.thaw 4; have y5 := hz.thaw 5; have y6 := hz.thaw 6; have y7 := hz.thaw 7; have y8 := hz.thaw 8; have y9 := hz.thaw 9; have y10 := hz.thaw 10)))
          all_goals go_wp2
          all_goals go_meet
          all_goals first
            | with_reducible exact ⟨_, rfl, box_put s hz, Nat.le_refl _, kept_put s hC1 (Nat.le_refl _)⟩
            | exact ⟨_, rfl, TBox.new _ _, hC1.size, hC1.alloc hC1.size _⟩
        case rest =>
          obtain ⟨T, rfl, hT, hTl, hbc⟩ := hcut
          have H1 := H.next hbc
          have hnT : n1 ≤ T := Nat.le_trans H.nb hTl
          have hl63 : Hid (l.length = 63) := HRG.out
          clear H hbc hTl q0 q1
          go_wp2
          go_loopw [5, 8] (fun u i wi => Box (∃ (j : Nat) (l1 : List Int) (t1 : Tk), j ≤ 60 ∧ i = .int .i64 j ∧ Hid (runT (60 - j) l1 t1 = (l2, s2)) ∧ Hid (l1.length = 63) ∧ TBox wi T t1 ∧ Al w n1 (some ⟨gp, off, none⟩) L g x0 x1 x2 u l1 wi))
            (fun _ i _ => 60 - (intOf i).toNat)
          case atStart => exact ⟨⟨0, l, s, by omega, rfl, HRUN.out.1, hl63, hT, H1⟩⟩
          case round =>
            clear hT H1
            obtain ⟨j, l1, t1, hj, rfl, hrun, hl1, hT1, HA⟩ := hrel.out
            clear hrel
            by_cases hd : t1.done = true
            · have he := hrun.out
              rw [runT_done hd] at he
              simp only [Prod.mk.injEq] at he
              obtain ⟨rfl, rfl⟩ := he
              obtain ⟨b0, b1, b2, b3, b4, b5, b6, b7, b8, b9, b10⟩ := hT1.cells
              rw [hd] at b9
              by_cases hj60 : j < 60
              · have hjj : (j : Int) < 60 := by omega
                have h1 := HRUN.out.2.2.1
                rw [h1] at b10
                go_wp2
                exact ⟨⟨⟨k + 1, l1, by omega, by go_num, HRUN.out.2.2.2, HA⟩⟩, by simp [intOf]; omega⟩
              · have hjj : ¬ (j : Int) < 60 := by omega
                have h1 := HRUN.out.2.2.1
                rw [h1] at b10
                go_wp2
                exact ⟨⟨⟨k + 1, l1, by omega, by go_num, HRUN.out.2.2.2, HA⟩⟩, by simp [intOf]; omega⟩
            · have hd' : t1.done = false := by simpa using hd
              have hj60 : j < 60 := by
                rcases Nat.lt_or_ge j 60 with h | h
                · exact h
                · have he := hrun.out
                  rw [show 60 - j = 0 by omega] at he
                  simp only [runT, Prod.mk.injEq] at he
                  rw [he.2] at hd
                  exact absurd HRUN.out.2.1 hd
              obtain ⟨M, s1, hMs⟩ : ∃ M s1, stepL l1 t1 = (M, s1) := ⟨_, _, rfl⟩
              have HR1 : Hid (runT (60 - (j + 1)) M s1 = (l2, s2)) := by
                show _ = _
                have he := hrun.out
                rw [show 60 - j = (60 - (j + 1)) + 1 by omega, runT_step hd', hMs] at he
                exact he
              have hM63 : Hid (M.length = 63) := by show M.length = 63; have := stepL_len l1 t1; rw [hMs] at this; dsimp only at this; have := hl1.out; omega
              obtain ⟨y, cy, rfl, hI⟩ := HA.own.ints
              have c5 := HCS.out wr y cy l1 t1 hI (by have := hl1.out; omega)
              rw [hMs] at c5
              dsimp only at c5
              unfold tcs at c5
              obtain ⟨b0, b1, b2, b3, b4, b5, b6, b7, b8, b9, b10⟩ := hT1.cells
              rw [hd'] at b9 c5
              have hjj : (j : Int) < 60 := by omega
              have HAT : Hid (Al w n1 (some ⟨gp, off, none⟩) L g x0 x1 x2 (.slice y l1.length cy) l1 wr ∧ TBox wr T t1) := ⟨HA, hT1⟩
              clear hrun hd hMs hI HA hT1
              go_wp2_with fail
              refine c5.mono ?_
              rintro e w5 ⟨v5, rfl, ho5, hb5⟩
              have H5 := HAT.out.1.turn hb5 ho5
              have T5 := HAT.out.2.on hb5
              clear b0 b1 b2 b3 b4 b5 b6 b7 b8 b9 b10
              obtain ⟨b0, b1, b2, b3, b4, b5, b6, b7, b8, b9, b10⟩ := T5.cells
              have y0 := T5.thaw 0
              have y1 := T5.thaw 1
              have y2 := T5.thaw 2
              have y3 := T5.thaw 3
              have y4 := T5.thaw 4
              have y5 := T5.thaw 5
              have y6 := T5.thaw 6
              have y7 := T5.thaw 7
              have y8 := T5.thaw 8
              have y9 := T5.thaw 9
              have y10 := T5.thaw 10
              have HP : Hid _ := H5.put T5 hnT s1
              clear H5 T5 ho5 hb5 c5 HAT
              go_wp2
              go_roundw
              case rel =>
                try ((repeat apply Exists.intro); refine ⟨?_, rfl⟩)
                exact ⟨⟨j + 1, M, s1, by omega, by go_num, HR1, hM63, HP.out.2, HP.out.1⟩⟩
              case measure => simp [intOf]; omega
      · have hke : k = L.length := by omega
        subst hke
        obtain ⟨l2, s2, ps, hrun, hdone, hans, hR2, hprs, hup, hps5⟩ := do_last (kind := 1 + x0 % 3) (key := 1 + x1 % 7) (val := x2 % 50) hR hnice hL4 (by omega) (by omega) (by omega)
        obtain ⟨r0, hr0⟩ : ∃ r, x0 % 3 = r := ⟨_, rfl⟩
        obtain ⟨r1, hr1⟩ : ∃ r, x1 % 7 = r := ⟨_, rfl⟩
        obtain ⟨r2, hr2⟩ : ∃ r, x2 % 50 = r := ⟨_, rfl⟩
        have t0 : x0.tmod 3 = r0 := by rw [Int.tmod_eq_emod_of_nonneg (by omega)]; exact hr0
        have t1 : x1.tmod 7 = r1 := by rw [Int.tmod_eq_emod_of_nonneg (by omega)]; exact hr1
        have t2 : x2.tmod 50 = r2 := by rw [Int.tmod_eq_emod_of_nonneg (by omega)]; exact hr2
        have a0 : IntKind.i64.wrap (1 + r0) = 1 + r0 := by rw [IntKind.wrap_i64]; omega
        have a1 : IntKind.i64.wrap (1 + r1) = 1 + r1 := by rw [IntKind.wrap_i64]; omega
        rw [hr0, hr1, hr2] at hrun hans hprs
        have HB : Hid ((0 ≤ r0 ∧ r0 ≤ 2) ∧ (0 ≤ r1 ∧ r1 ≤ 6) ∧ (0 ≤ r2 ∧ r2 ≤ 49)) := by show _ ∧ _ ∧ _; omega
        obtain ⟨s, hs⟩ : ∃ s, Tk.new (1 + r0) (1 + r1) r2 1 = s := ⟨_, rfl⟩
        have CN : Hid (∀ w, Calls Try.prog 26 #[.int .i64 (1 + r0), .int .i64 (1 + r1), .int .i64 r2, .int .i64 1] w fun e w' => e = .returned (.agg #[.int .i64 s.kind, .int .i64 s.key, .int .i64 s.val, .int .i64 s.node, .int .i64 s.pc, .int .i64 s.prev, .int .i64 s.cur, .int .i64 s.next, .int .i64 s.mark, .bool s.done, .int .i64 s.ans]) ∧ Below w.heap.size w w') := fun w => by
          have := HCT.out (1 + r0) (1 + r1) r2 1 w
          rw [hs] at this
          exact this
        rw [hs] at hrun
        have HRUN : Hid (runT 60 l s = (l2, s2) ∧ s2.done = true ∧ s2.ans = (doP L (1 + r0) (1 + r1) r2).2 ∧ Rep l2 ps ∧ prs ps = (doP L (1 + r0) (1 + r1) r2).1 ∧ Up ps ∧ ps.length ≤ 5) := ⟨hrun, hdone, hans, hR2, hprs, hup, hps5⟩
        have HS : Hid (s.kind = 1 + r0 ∧ s.key = 1 + r1 ∧ s.val = r2) := by show _ ∧ _ ∧ _; rw [← hs]; exact ⟨rfl, rfl, rfl⟩
        have HRG : Hid (l.length = 63) := hR.good.1
        have hq0 := H.z0
        have hq1 := H.z1
        have hq2 := H.z2
        clear hs hrun hdone hans hR2 hR hprs hup hps5 hr0 hr1 hr2 hxb0 hxb1 hxb2
        go_wp2
        go_cut [9] (fun p wc => ∃ (T : Nat), p = .pointer (some ⟨T, 0, none⟩) ∧ TBox wc T s ∧ wr.heap.size ≤ T ∧ Below wr.heap.size wr wc)
        case first =>
          have hgw : g < wr.heap.size := Nat.lt_of_lt_of_le H.gb H.nb
          have hdr : Below wr.heap.size wr wr.drew := ⟨rfl, rfl, rfl, Nat.le_refl _, fun _ _ => rfl⟩
          have KS : ∀ wi, Below wr.heap.size wr wi → (Below wr.heap.size wr wi ∧ wi.cell? ⟨g, 0, none⟩ = some (.int .i64 x0) ∧ wi.cell? ⟨g, 1, none⟩ = some (.int .i64 x1) ∧ wi.cell? ⟨g, 2, none⟩ = some (.int .i64 x2)) := fun wi hi => ⟨hi, (hi.cell (p := ⟨g, 0, none⟩) hgw).trans hq0, (hi.cell (p := ⟨g, 1, none⟩) hgw).trans hq1, (hi.cell (p := ⟨g, 2, none⟩) hgw).trans hq2⟩
          have hzb : Below wr.heap.size wr ((wr.alloc (.cells #[.int .i64 0, .int .i64 0, .int .i64 0, .int .i64 0, .int .i64 0, .int .i64 0, .int .i64 0, .int .i64 0, .int .i64 0, .bool false, .int .i64 0] 43)).drew) := ((Below.refl _ wr).alloc (Nat.le_refl _) _).trans (⟨rfl, rfl, rfl, Nat.le_refl _, fun _ _ => rfl⟩)
          have hzn : TBox ((wr.alloc (.cells #[.int .i64 0, .int .i64 0, .int .i64 0, .int .i64 0, .int .i64 0, .int .i64 0, .int .i64 0, .int .i64 0, .int .i64 0, .bool false, .int .i64 0] 43)).drew) wr.heap.size Tk.zero := (TBox.new wr Tk.zero).on ⟨rfl, rfl, rfl, Nat.le_refl _, fun _ _ => rfl⟩
          clear H
          go_region_held3 (fun w' => Below wr.heap.size wr w' ∧ w'.cell? ⟨g, 0, none⟩ = some (.int .i64 x0) ∧ w'.cell? ⟨g, 1, none⟩ = some (.int .i64 x1) ∧ w'.cell? ⟨g, 2, none⟩ = some (.int .i64 x2)) (first | with_reducible exact KS _ hdr | with_reducible exact KS _ hC1 | with_reducible exact KS _ hzb | with_reducible exact KS _ (hC1.alloc hC1.size _) | with_reducible exact KS _ (kept_put s hC1 (Nat.le_refl _)))
            ((go_at_call 26; first
              | (with_reducible refine Calls.mono (CN.out wr.drew) ?_; rintro e w4 ⟨rfl, hb4⟩; have hC1 := hdr.trans (hb4.mono hdr.size))
              | (refine Calls.mono (CN.out ((wr.alloc (.cells #[.int .i64 0, .int .i64 0, .int .i64 0, .int .i64 0, .int .i64 0, .int .i64 0, .int .i64 0, .int .i64 0, .int .i64 0, .bool false, .int .i64 0] 43)).drew)) ?_; rintro e w4 ⟨rfl, hb4⟩; have hC1 := hzb.trans (hb4.mono hzb.size); have hz := hzn.on hb4; obtain ⟨c0, c1, c2, c3, c4, c5, c6, c7, c8, c9, c10⟩ := hz.cells; dsimp only [Tk.zero] at c0 c1 c2 c3 c4 c5 c6 c7 c8 c9 c10; have y0 := hz.thaw 0; have y1 := hz.thaw 1; have y2 := hz.thaw 2; have y3 := hz.thaw 3; have y4 := hz.thaw 4; have y5 := hz.thaw 5; have y6 := hz.thaw 6; have y7 := hz.thaw 7; have y8 := hz.thaw 8; have y9 := hz.thaw 9; have y10 := hz.thaw 10)))
          all_goals go_wp2
          all_goals go_meet
          all_goals first
            | with_reducible exact ⟨_, rfl, box_put s hz, Nat.le_refl _, kept_put s hC1 (Nat.le_refl _)⟩
            | exact ⟨_, rfl, TBox.new _ _, hC1.size, hC1.alloc hC1.size _⟩
        case rest =>
          obtain ⟨T, rfl, hT, hTl, hbc⟩ := hcut
          have H1 := H.next hbc
          have hnT : n1 ≤ T := Nat.le_trans H.nb hTl
          have hl63 : Hid (l.length = 63) := HRG.out
          have hPA : PAt wc pa L wc.heap.size := fun j hj => by obtain ⟨b, o, h1, h2, h3⟩ := H1.pairs j hj; exact ⟨b, o, h1, Nat.lt_of_lt_of_le h2 H1.nb, h3⟩
          have c7 := specDoTask_any wc pa pcap L s hPA (by omega)
          rw [doT_nice hnice, HS.out.1, HS.out.2.1, HS.out.2.2] at c7
          have hnd := doP_nice hnice (1 + r0) (1 + r1) r2 (by have := HB.out; omega) (by have := HB.out; omega)
          have hdl := doP_length L (1 + r0) (1 + r1) r2
          obtain ⟨D, an, hD⟩ : ∃ D an, doP L (1 + r0) (1 + r1) r2 = (D, an) := ⟨_, _, rfl⟩
          rw [hD] at c7 hnd hdl
          have HD : Hid (s2.ans = an ∧ prs ps = D) := by
            have := HRUN.out
            rw [hD] at this
            exact ⟨this.2.2.1, this.2.2.2.2.1⟩
          have HDN : Hid (NiceP D ∧ D.length ≤ 5) := by show _ ∧ _; exact ⟨hnd, by dsimp only at hdl; omega⟩
          dsimp only at c7
          unfold tcs at c7
          obtain ⟨b0, b1, b2, b3, b4, b5, b6, b7, b8, b9, b10⟩ := hT.cells
          have HAT : Hid (Al w n1 pa L g x0 x1 x2 u5 l wc ∧ TBox wc T s) := ⟨H1, hT⟩
          have HTL : Hid (T < wc.heap.size) := hT.lt
          clear H hbc hTl hq0 hq1 hq2 hPA hnd hdl hD H1 hT t0 t1 t2 a0 a1
          go_wp2_with fail
          refine c7.mono ?_
          rintro e w7 ⟨v7, rfl, ho7, hb7⟩
          have H7 := HAT.out.1.next hb7
          have hT7 := HAT.out.2.on hb7
          clear c7 b0 b1 b2 b3 b4 b5 b6 b7 b8 b9 b10 HAT
          obtain ⟨da, dc, rfl, _⟩ := ho7.at
          obtain ⟨n7, hn7⟩ : ∃ n7, wc.heap.size = n7 := ⟨_, rfl⟩
          have hTn : T < n7 := by rw [← hn7]; exact HTL.out
          rw [hn7] at ho7
          clear hn7 hb7
          go_wp2
          go_loopw [5, 12] (fun u i wi => Box (∃ (j : Nat) (l1 : List Int) (t1 : Tk), j ≤ 60 ∧ i = .int .i64 j ∧ Hid (runT (60 - j) l1 t1 = (l2, s2)) ∧ Hid (l1.length = 63) ∧ TBox wi T t1 ∧ Al w n1 pa L g x0 x1 x2 u l1 wi ∧ OwnP wi n7 46 (.slice da D.length dc) D))
            (fun _ i _ => 60 - (intOf i).toNat)
          case atStart => exact ⟨⟨0, l, s, by omega, rfl, HRUN.out.1, hl63, hT7, H7, ho7⟩⟩
          case round =>
            clear hT7 H7 ho7
            obtain ⟨j, l1, t1, hj, rfl, hrun, hl1, hT1, HA, hW1⟩ := hrel.out
            clear hrel
            by_cases hd : t1.done = true
            · have he := hrun.out
              rw [runT_done hd] at he
              simp only [Prod.mk.injEq] at he
              obtain ⟨rfl, rfl⟩ := he
              obtain ⟨b0, b1, b2, b3, b4, b5, b6, b7, b8, b9, b10⟩ := hT1.cells
              rw [hd] at b9
              by_cases hj60 : j < 60
              · have hjj : (j : Int) < 60 := by omega
                obtain ⟨y, cy, rfl, hI⟩ := HA.own.ints
                have hgood := HRUN.out.2.2.2.1
                have c13 := implKeys_any wr y cy l1 hI (by have := hl1.out; omega) (okC_Bd hgood.good.2)
                have hkeys : keysL l1 = D.map (·.1) := by rw [hgood.keys (by have := HRUN.out; omega), kys_prs, HD.out.2]
                rw [hkeys] at c13
                have HAT : Hid (Al w n1 pa L g x0 x1 x2 (.slice y l1.length cy) l1 wr ∧ TBox wr T t1 ∧ OwnP wr n7 46 (.slice da D.length dc) D) := ⟨HA, hT1, hW1⟩
                clear hrun hd hI HA hT1 hW1 hkeys hgood
                go_wp2_with fail
                refine c13.mono ?_
                rintro e w13 ⟨v13, rfl, ho13, hb13⟩
                obtain ⟨ky, kc, rfl, hK13⟩ := ho13.ints
                rw [List.length_map]
                have HW : Hid (∀ wi, Below w13.heap.size w13 wi → IAt wi ky (D.map (·.1)) wi.heap.size ∧ Al w n1 pa L g x0 x1 x2 (.slice y l1.length cy) l1 wi ∧ TBox wi T t1 ∧ PAt wi da D wi.heap.size) := fun wi hi => by
                  have h1 := HAT.out.1.next (hb13.trans (hi.mono hb13.size))
                  have h2 := HAT.out.2.1.on (hb13.trans (hi.mono hb13.size))
                  have h3 := HAT.out.2.2.below (hb13.trans (hi.mono hb13.size)) (Nat.le_refl _)
                  obtain ⟨d2, c2, hd2, h4⟩ := h3.at
                  simp only [Value.slice.injEq] at hd2
                  obtain ⟨rfl, _, _⟩ := hd2
                  exact ⟨hK13.on hi, h1, h2, h4⟩
                clear c13 ho13 hK13 HAT b0 b1 b2 b3 b4 b5 b6 b7 b8 b9 b10 hjj
                go_wp2
                go_loopw [14] (fun i wi => Box (∃ (q : Nat), q ≤ D.length ∧ i = .int .i64 q ∧ Below w13.heap.size w13 wi))
                  (fun i _ => D.length - (intOf i).toNat)
                case atStart => exact ⟨⟨0, by omega, rfl, Below.refl _ _⟩⟩
                case round =>
                  obtain ⟨q, hq, rfl, hbw⟩ := hrel.out
                  clear hrel
                  obtain ⟨hIk, hAl, hTt, hPd⟩ := HW.out _ hbw
                  have hD5 := HDN.out.2
                  by_cases hql : q < D.length
                  · obtain ⟨gk, ok, rfl, _, k0⟩ := hIk q (by rw [List.length_map]; exact hql)
                    obtain ⟨gd, od, hda, _, d0, d1⟩ := hPd q hql
                    have hv := last_value HRUN.out.2.2.2.1 HRUN.out.2.2.2.2.2.1 (by have := HRUN.out; omega) (i := q) (by rw [HD.out.2]; exact hql)
                    simp only [HD.out.2] at hv
                    have hnb := HDN.out.1.2 D[q] (List.getElem_mem hql)
                    rw [List.getElem_map] at k0
                    obtain ⟨⟨pk, pv⟩, hpp⟩ : ∃ p, D[q] = p := ⟨_, rfl⟩
                    rw [hpp] at k0 d0 d1 hv hnb
                    dsimp only at k0 d0 d1 hv hnb
                    subst hda
                    obtain ⟨y2, cy2, hy2, hI⟩ := hAl.own.ints
                    simp only [Value.slice.injEq] at hy2
                    obtain ⟨rfl, _, rfl⟩ := hy2
                    have CV : Hid (∀ d os, Calls Try.prog 30 #[.slice y l1.length cy, .int .i64 pk] (grow (redrawn wr d) os) fun e w'' => e = .returned (.int .i64 (pv + 1)) ∧ ∃ p : Regrown, w'' = grow (redrawn wr p.d) p.os) := fun d os => Calls.regrown_of (by
                      have := implValue_any (grow (redrawn wr d) os) y cy l1 pk (hI.on (below_regrown wr d os)) (by have := hl1.out; omega) (okC_Bd HRUN.out.2.2.2.1.good.2)
                      rw [hv] at this
                      exact this)
                    have g0 := fun d os => cell_regrown k0 d os
                    have g1 := fun d os => cell_regrown d0 d os
                    have g2 := fun d os => cell_regrown d1 d os
                    have hq0 : (0 : Int) ≤ (q : Int) := by omega
                    have hq1 : (q : Int) < (D.length : Int) := by omega
                    have hq2 : decide ((D.length : Int) ≤ (q : Int)) = false := decide_eq_false (by omega)
                    have hq3 : (pk != pk) = false := by simp
                    have hq4 : IntKind.i64.wrap (pv + 1) = pv + 1 := by rw [IntKind.wrap_i64]; omega
                    have hq5 : ((pv + 1) != (pv + 1)) = false := by simp
                    clear hv hnb hpp hI hIk hPd hAl hTt
                    go_wp2
                    refine wp_region_quiet_below (by kernel_rfl) (by kernel_rfl) ?_
                    repeat (first | go_big_quiet_step (exact CV.out _ _) | quiet_step (exact CV.out _ _))
                    refine wpQuiet_nil ?_
                    intro _ hw'
                    obtain ⟨⟨dq, osq⟩, hw''⟩ := hw'
                    subst hw''
                    have HB2 : Hid (Below w13.heap.size w13 (grow (redrawn wr dq) osq)) := hbw.trans ((below_regrown wr dq osq).mono hbw.size)
                    clear g0 g1 g2 k0 d0 d1 CV
                    go_wp2
                    go_roundw
                    case rel =>
                      try ((repeat apply Exists.intro); refine ⟨?_, rfl⟩)
                      exact ⟨⟨q + 1, by omega, by go_num, HB2.out⟩⟩
                    case measure => simp [intOf]; omega
                  · have hqe : q = D.length := by omega
                    subst hqe
                    obtain ⟨y2, cy2, hy2, hI⟩ := hAl.own.ints
                    simp only [Value.slice.injEq] at hy2
                    obtain ⟨rfl, _, rfl⟩ := hy2
                    have c9 := implValue_any wr y cy l1 99 hI (by have := hl1.out; omega) (okC_Bd HRUN.out.2.2.2.1.good.2)
                    rw [last_none HRUN.out.2.2.2.1 (by rw [HD.out.2]; exact HDN.out.1) (by have := HRUN.out; omega)] at c9
                    obtain ⟨b0, b1, b2, b3, b4, b5, b6, b7, b8, b9, b10⟩ := hTt.cells
                    rw [HRUN.out.2.1] at b9
                    rw [HD.out.1] at b10
                    have HBF : Hid (Below w.heap.size w wr) := hAl.below
                    clear hI hIk hPd hAl hTt
                    go_wp2_with fail
                    refine c9.mono ?_
                    rintro e w9 ⟨rfl, hb9⟩
                    have HBG : Hid (Below w.heap.size w w9) := HBF.out.trans (hb9.mono HBF.out.size)
                    clear c9 hb9
                    go_wp2
                    go_ret
                    exact ⟨rfl, HBG.out⟩
              · have hjj : ¬ (j : Int) < 60 := by omega
                obtain ⟨y, cy, rfl, hI⟩ := HA.own.ints
                have hgood := HRUN.out.2.2.2.1
                have c13 := implKeys_any wr y cy l1 hI (by have := hl1.out; omega) (okC_Bd hgood.good.2)
                have hkeys : keysL l1 = D.map (·.1) := by rw [hgood.keys (by have := HRUN.out; omega), kys_prs, HD.out.2]
                rw [hkeys] at c13
                have HAT : Hid (Al w n1 pa L g x0 x1 x2 (.slice y l1.length cy) l1 wr ∧ TBox wr T t1 ∧ OwnP wr n7 46 (.slice da D.length dc) D) := ⟨HA, hT1, hW1⟩
                clear hrun hd hI HA hT1 hW1 hkeys hgood
                go_wp2_with fail
                refine c13.mono ?_
                rintro e w13 ⟨v13, rfl, ho13, hb13⟩
                obtain ⟨ky, kc, rfl, hK13⟩ := ho13.ints
                rw [List.length_map]
                have HW : Hid (∀ wi, Below w13.heap.size w13 wi → IAt wi ky (D.map (·.1)) wi.heap.size ∧ Al w n1 pa L g x0 x1 x2 (.slice y l1.length cy) l1 wi ∧ TBox wi T t1 ∧ PAt wi da D wi.heap.size) := fun wi hi => by
                  have h1 := HAT.out.1.next (hb13.trans (hi.mono hb13.size))
                  have h2 := HAT.out.2.1.on (hb13.trans (hi.mono hb13.size))
                  have h3 := HAT.out.2.2.below (hb13.trans (hi.mono hb13.size)) (Nat.le_refl _)
                  obtain ⟨d2, c2, hd2, h4⟩ := h3.at
                  simp only [Value.slice.injEq] at hd2
                  obtain ⟨rfl, _, _⟩ := hd2
                  exact ⟨hK13.on hi, h1, h2, h4⟩
                clear c13 ho13 hK13 HAT b0 b1 b2 b3 b4 b5 b6 b7 b8 b9 b10 hjj
                go_wp2
                go_loopw [14] (fun i wi => Box (∃ (q : Nat), q ≤ D.length ∧ i = .int .i64 q ∧ Below w13.heap.size w13 wi))
                  (fun i _ => D.length - (intOf i).toNat)
                case atStart => exact ⟨⟨0, by omega, rfl, Below.refl _ _⟩⟩
                case round =>
                  obtain ⟨q, hq, rfl, hbw⟩ := hrel.out
                  clear hrel
                  obtain ⟨hIk, hAl, hTt, hPd⟩ := HW.out _ hbw
                  have hD5 := HDN.out.2
                  by_cases hql : q < D.length
                  · obtain ⟨gk, ok, rfl, _, k0⟩ := hIk q (by rw [List.length_map]; exact hql)
                    obtain ⟨gd, od, hda, _, d0, d1⟩ := hPd q hql
                    have hv := last_value HRUN.out.2.2.2.1 HRUN.out.2.2.2.2.2.1 (by have := HRUN.out; omega) (i := q) (by rw [HD.out.2]; exact hql)
                    simp only [HD.out.2] at hv
                    have hnb := HDN.out.1.2 D[q] (List.getElem_mem hql)
                    rw [List.getElem_map] at k0
                    obtain ⟨⟨pk, pv⟩, hpp⟩ : ∃ p, D[q] = p := ⟨_, rfl⟩
                    rw [hpp] at k0 d0 d1 hv hnb
                    dsimp only at k0 d0 d1 hv hnb
                    subst hda
                    obtain ⟨y2, cy2, hy2, hI⟩ := hAl.own.ints
                    simp only [Value.slice.injEq] at hy2
                    obtain ⟨rfl, _, rfl⟩ := hy2
                    have CV : Hid (∀ d os, Calls Try.prog 30 #[.slice y l1.length cy, .int .i64 pk] (grow (redrawn wr d) os) fun e w'' => e = .returned (.int .i64 (pv + 1)) ∧ ∃ p : Regrown, w'' = grow (redrawn wr p.d) p.os) := fun d os => Calls.regrown_of (by
                      have := implValue_any (grow (redrawn wr d) os) y cy l1 pk (hI.on (below_regrown wr d os)) (by have := hl1.out; omega) (okC_Bd HRUN.out.2.2.2.1.good.2)
                      rw [hv] at this
                      exact this)
                    have g0 := fun d os => cell_regrown k0 d os
                    have g1 := fun d os => cell_regrown d0 d os
                    have g2 := fun d os => cell_regrown d1 d os
                    have hq0 : (0 : Int) ≤ (q : Int) := by omega
                    have hq1 : (q : Int) < (D.length : Int) := by omega
                    have hq2 : decide ((D.length : Int) ≤ (q : Int)) = false := decide_eq_false (by omega)
                    have hq3 : (pk != pk) = false := by simp
                    have hq4 : IntKind.i64.wrap (pv + 1) = pv + 1 := by rw [IntKind.wrap_i64]; omega
                    have hq5 : ((pv + 1) != (pv + 1)) = false := by simp
                    clear hv hnb hpp hI hIk hPd hAl hTt
                    go_wp2
                    refine wp_region_quiet_below (by kernel_rfl) (by kernel_rfl) ?_
                    repeat (first | go_big_quiet_step (exact CV.out _ _) | quiet_step (exact CV.out _ _))
                    refine wpQuiet_nil ?_
                    intro _ hw'
                    obtain ⟨⟨dq, osq⟩, hw''⟩ := hw'
                    subst hw''
                    have HB2 : Hid (Below w13.heap.size w13 (grow (redrawn wr dq) osq)) := hbw.trans ((below_regrown wr dq osq).mono hbw.size)
                    clear g0 g1 g2 k0 d0 d1 CV
                    go_wp2
                    go_roundw
                    case rel =>
                      try ((repeat apply Exists.intro); refine ⟨?_, rfl⟩)
                      exact ⟨⟨q + 1, by omega, by go_num, HB2.out⟩⟩
                    case measure => simp [intOf]; omega
                  · have hqe : q = D.length := by omega
                    subst hqe
                    obtain ⟨y2, cy2, hy2, hI⟩ := hAl.own.ints
                    simp only [Value.slice.injEq] at hy2
                    obtain ⟨rfl, _, rfl⟩ := hy2
                    have c9 := implValue_any wr y cy l1 99 hI (by have := hl1.out; omega) (okC_Bd HRUN.out.2.2.2.1.good.2)
                    rw [last_none HRUN.out.2.2.2.1 (by rw [HD.out.2]; exact HDN.out.1) (by have := HRUN.out; omega)] at c9
                    obtain ⟨b0, b1, b2, b3, b4, b5, b6, b7, b8, b9, b10⟩ := hTt.cells
                    rw [HRUN.out.2.1] at b9
                    rw [HD.out.1] at b10
                    have HBF : Hid (Below w.heap.size w wr) := hAl.below
                    clear hI hIk hPd hAl hTt
                    go_wp2_with fail
                    refine c9.mono ?_
                    rintro e w9 ⟨rfl, hb9⟩
                    have HBG : Hid (Below w.heap.size w w9) := HBF.out.trans (hb9.mono HBF.out.size)
                    clear c9 hb9
                    go_wp2
                    go_ret
                    exact ⟨rfl, HBG.out⟩
            · have hd' : t1.done = false := by simpa using hd
              have hj60 : j < 60 := by
                rcases Nat.lt_or_ge j 60 with h | h
                · exact h
                · have he := hrun.out
                  rw [show 60 - j = 0 by omega] at he
                  simp only [runT, Prod.mk.injEq] at he
                  rw [he.2] at hd
                  exact absurd HRUN.out.2.1 hd
              obtain ⟨M, s1, hMs⟩ : ∃ M s1, stepL l1 t1 = (M, s1) := ⟨_, _, rfl⟩
              have HR1 : Hid (runT (60 - (j + 1)) M s1 = (l2, s2)) := by
                show _ = _
                have he := hrun.out
                rw [show 60 - j = (60 - (j + 1)) + 1 by omega, runT_step hd', hMs] at he
                exact he
              have hM63 : Hid (M.length = 63) := by show M.length = 63; have := stepL_len l1 t1; rw [hMs] at this; dsimp only at this; have := hl1.out; omega
              obtain ⟨y, cy, rfl, hI⟩ := HA.own.ints
              have c5 := HCS.out wr y cy l1 t1 hI (by have := hl1.out; omega)
              rw [hMs] at c5
              dsimp only at c5
              unfold tcs at c5
              obtain ⟨b0, b1, b2, b3, b4, b5, b6, b7, b8, b9, b10⟩ := hT1.cells
              rw [hd'] at b9 c5
              have hjj : (j : Int) < 60 := by omega
              have HAT : Hid (Al w n1 pa L g x0 x1 x2 (.slice y l1.length cy) l1 wr ∧ TBox wr T t1 ∧ OwnP wr n7 46 (.slice da D.length dc) D) := ⟨HA, hT1, hW1⟩
              clear hrun hd hMs hI HA hT1 hW1
              go_wp2_with fail
              refine c5.mono ?_
              rintro e w5 ⟨v5, rfl, ho5, hb5⟩
              have H5 := HAT.out.1.turn hb5 ho5
              have T5 := HAT.out.2.1.on hb5
              have W5 := HAT.out.2.2.below hb5 (Nat.le_refl _)
              clear b0 b1 b2 b3 b4 b5 b6 b7 b8 b9 b10
              obtain ⟨b0, b1, b2, b3, b4, b5, b6, b7, b8, b9, b10⟩ := T5.cells
              have y0 := T5.thaw 0
              have y1 := T5.thaw 1
              have y2 := T5.thaw 2
              have y3 := T5.thaw 3
              have y4 := T5.thaw 4
              have y5 := T5.thaw 5
              have y6 := T5.thaw 6
              have y7 := T5.thaw 7
              have y8 := T5.thaw 8
              have y9 := T5.thaw 9
              have y10 := T5.thaw 10
              have HP : Hid _ := And.intro (H5.put T5 hnT s1) (OwnP.put11 s1 W5 hTn)
              clear H5 T5 W5 ho5 hb5 c5 HAT
              go_wp2
              go_roundw
              case rel =>
                try ((repeat apply Exists.intro); refine ⟨?_, rfl⟩)
                exact ⟨⟨j + 1, M, s1, by omega, by go_num, HR1, hM63, HP.out.1.2, HP.out.1.1, HP.out.2⟩⟩
              case measure => simp [intOf]; omega
  · have cb := big_any ca n cap w hlen
    rw [show decide (1048576 < n) = true by simp; omega] at cb
    go_enter Try.func5, Try.ntmps5
    go_wp2_with fail
    refine cb.mono ?_
    rintro e w' ⟨rfl, rfl⟩
    go_wp2
    go_ret
    exact ⟨rfl, Below.refl _ _⟩
end Go.Proofs.Ytockgojdmaladab

namespace Go.Proofs.Ytockgojdmaladab
open Go.ChangeShapes Go.WideShapes Go.ChangeAt Go.RowKit

/-- A slice of bytes that came in: its bytes lie where it says. -/
theorem code_of {H : Type} {enc : TypeId × Value → H} {W : World} {a : Option Addr} {len cap fuel : Nat} {x : DataW H × List MemPlace} (hf : DataW.trod enc Try.prog W 0 (fun _ => true) true fuel 22 [.slice a len cap] = some x) : CodeAt W a len W.heap.size ∧ len ≤ maxLen := by
  rcases open_ints Try.underlying22 Try.underlying5 (by kernel_rfl) hf with ⟨hcs, _⟩ | ⟨y, l, c, zs, hcs, _, hl, hm, hz, _, hcell, hwz⟩
  · simp at hcs
    obtain ⟨rfl, rfl, rfl⟩ := hcs
    exact ⟨fun j hj => by omega, by simp [maxLen]⟩
  · simp at hcs
    obtain ⟨rfl, rfl, rfl⟩ := hcs
    have hz' : zs.length = cap := by simpa using hz
    refine ⟨fun j hj => ?_, by omega⟩
    have h1 := hcell j (by omega)
    have h00 := hcell 0 (by omega)
    obtain ⟨b, off, spot⟩ := y
    have hspot : spot = none := by simpa [Addr.add] using World.cell?_spot h00
    subst hspot
    have h2 : W.cell? ⟨b, off + j, none⟩ = some (.int .u8 (zs.getD j 0)) := by
      by_cases hj0 : j = 0
      · subst hj0; simpa [Addr.add] using h1
      · simpa [Addr.add, hj0] using h1
    have hmem : zs.getD j 0 ∈ zs := by
      have e : zs.getD j 0 = zs[j]'(by omega) := by simp [List.getD, List.getElem?_eq_getElem (show j < zs.length by omega)]
      rw [e]
      exact List.getElem_mem _
    have h3 := bounds_u8 (hwz (zs.getD j 0) hmem)
    exact ⟨b, off, _, rfl, World.block_lt_of_cell? W ⟨b, off + j, none⟩ h2, h2, h3.1, h3.2⟩

end Go.Proofs.Ytockgojdmaladab

namespace Go.Proofs.Ytockgojdmaladab
open Go

theorem leaving_of_quiet {P : Program} {m : Machine} (h : m.quiet) : m.OnlyLeaving P := by
  refine ⟨fun g hg => ⟨0, ?_⟩, h.2⟩
  have := List.all_eq_true.1 h.1 g hg
  show g.status = .finished
  simpa using this
theorem leaving_of_handed {a : Assume} {C : Checked} {os : Os} {f : FuncId} {r : Reach} {Pre : World → Array Value → Prop} {Post : World → Array Value → Value → World → Prop}
    (h : ReturnsInHanded a C os f r Pre Post) : ReturnsInLeavingWide a C os f r Pre Post := fun e =>
  ReturnsInOpen.mono (fun _ _ _ x => ⟨x.2.1, leaving_of_quiet x.1, x.2.2⟩) (fun _ x => x) (h e)
end Go.Proofs.Ytockgojdmaladab
