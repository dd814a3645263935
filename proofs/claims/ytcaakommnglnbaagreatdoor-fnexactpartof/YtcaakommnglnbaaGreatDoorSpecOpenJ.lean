/- Texts that stand in one: SpecOpen, PvMore, SpecTell, StmCopy. -/
import Derived.Test.YtcaakommnglnbaaGreatDoorStmBaseJ
import Derived.Test.YtcaakommnglnbaaGreatDoorPxOkSpec
import Derived.Test.YtcaakommnglnbaaGreatDoorHallKitJ
import Derived.Test.YtcaakommnglnbaaGreatDoorPolSzTextJ
import Derived.Test.YtcaakommnglnbaaGreatDoorTellPlainJ
import Derived.Test.YtcaakommnglnbaaGreatDoorDelCli
import Derived.Deep.RegionHeld3
namespace Go.Proofs.YtcaakommnglnbaaGreatDoor
open Go.RowKit Go.Sort
/-- Is there such a fetch, and is it open? -/
def openB (R : Prx) (z : Int) : Bool := turnB R z && ((fetAt R z.toNat).st == 1)
set_option maxRecDepth 100000 in
set_option maxHeartbeats 8000000 in
theorem l16Open_any (w : World) (X : Pc) (R : Prx) (z : Int) (hA : PxAt w X R w.heap.size) (hsz : PxSz R) (hz : (Lit.int .i64 z).wf = true) :
    Calls Tryz.prog 16 #[.agg #[.int .i64 R.now, X.e, X.w, X.m, X.k, .int .i64 R.pol.sk.added, X.f, X.c, .int .i64 R.hits], .int .i64 z] w fun e w' => e = .returned (.bool (openB R z)) ∧ Below w.heap.size w w' := by
  obtain ⟨e0, e1, p0, p1, m0, m1, k0, k1, f0, f1, c0, c1, rfl⟩ := hA.slices
  dsimp only
  obtain ⟨_, _, hl1, _⟩ := hsz.parts
  obtain ⟨w1, hw1⟩ : ∃ x, w.alloc (.cells #[.int .i64 R.now, .slice e0 R.ents.length e1, .slice p0 R.pol.win.length p1, .slice m0 R.pol.main.length m1, .slice k0 R.pol.sk.rows.length k1, .int .i64 R.pol.sk.added, .slice f0 R.fes.length f1, .slice c0 R.cls.length c1, .int .i64 R.hits] 41) = x := ⟨_, rfl⟩
  have hb1 : Below w.heap.size w w1 := by rw [← hw1]; exact (Below.refl _ _).alloc (Nat.le_refl _) _
  have hB1 : NB w1 w.heap.size 41 (.int .i64 R.now) (.slice e0 R.ents.length e1) (.slice p0 R.pol.win.length p1) (.slice m0 R.pol.main.length m1) (.slice k0 R.pol.sk.rows.length k1) (.int .i64 R.pol.sk.added) (.slice f0 R.fes.length f1) (.slice c0 R.cls.length c1) (.int .i64 R.hits) := by rw [← hw1]; exact NB.new _ _ _ _ _ _ _ _ _ _ _
  have HN1 : Hid (NB w1 w.heap.size 41 (.int .i64 R.now) (.slice e0 R.ents.length e1) (.slice p0 R.pol.win.length p1) (.slice m0 R.pol.main.length m1) (.slice k0 R.pol.sk.rows.length k1) (.int .i64 R.pol.sk.added) (.slice f0 R.fes.length f1) (.slice c0 R.cls.length c1) (.int .i64 R.hits)) := hB1
  have HA1 : Hid (PxAt w1 ⟨.slice e0 R.ents.length e1, .slice p0 R.pol.win.length p1, .slice m0 R.pol.main.length m1, .slice k0 R.pol.sk.rows.length k1, .slice f0 R.fes.length f1, .slice c0 R.cls.length c1⟩ R w1.heap.size) := hA.on hb1
  have HB1 : Hid (Below w.heap.size w w1) := hb1
  have HW : Hid (w.alloc (.cells #[.int .i64 R.now, .slice e0 R.ents.length e1, .slice p0 R.pol.win.length p1, .slice m0 R.pol.main.length m1, .slice k0 R.pol.sk.rows.length k1, .int .i64 R.pol.sk.added, .slice f0 R.fes.length f1, .slice c0 R.cls.length c1, .int .i64 R.hits] 41) = w1) := hw1
  have c1' := specProxyOk_any w1 ⟨.slice e0 R.ents.length e1, .slice p0 R.pol.win.length p1, .slice m0 R.pol.main.length m1, .slice k0 R.pol.sk.rows.length k1, .slice f0 R.fes.length f1, .slice c0 R.cls.length c1⟩ R (hA.on hb1) hsz
  dsimp only at c1'
  obtain ⟨x1, hx1⟩ : ∃ b, okX R = b := ⟨_, rfl⟩
  rw [hx1] at c1'
  have HX1 : Hid (okX R = x1) := hx1
  obtain ⟨b0, b1, b2, b3, b4, b5, b6, b7, b8⟩ := hB1.cells
  rw [← hw1] at b0 b1 b2 b3 b4 b5 b6 b7 b8
  clear hw1 hb1 hB1 hA hsz hx1
  go_enter Tryz.func16, Tryz.ntmps16
  go_wp2_with fail
  rw [HW.out] at b0 b1 b2 b3 b4 b5 b6 b7 b8 ⊢
  refine c1'.mono ?_
  rintro e w2 ⟨rfl, hb2⟩
  have HB2 : Hid (Below w.heap.size w w2) := HB1.out.trans (hb2.mono HB1.out.size)
  have HA2 : Hid (PxAt w2 ⟨.slice e0 R.ents.length e1, .slice p0 R.pol.win.length p1, .slice m0 R.pol.main.length m1, .slice k0 R.pol.sk.rows.length k1, .slice f0 R.fes.length f1, .slice c0 R.cls.length c1⟩ R w2.heap.size) := HA1.out.on hb2
  clear b0 b1 b2 b3 b4 b5 b6 b7 b8 c1'
  obtain ⟨b0, b1, b2, b3, b4, b5, b6, b7, b8⟩ := (HN1.out.on hb2).cells
  clear hb2
  cases x1 with
  | false =>
    have HR : Hid (openB R z = false) := by show _ = _; unfold openB turnB; rw [HX1.out]; rfl
    go_wp2_with fail
    go_ret
    exact ⟨by rw [HR.out]; rfl, HB2.out⟩
  | true =>
    have c2 := l01In_any z 0 ((R.fes.length : Int) - 1) w2
    obtain ⟨x2, hx2⟩ : ∃ b, inB z 0 ((R.fes.length : Int) - 1) = b := ⟨_, rfl⟩
    rw [hx2] at c2
    go_wp2_with fail
    refine c2.mono ?_
    rintro e w' ⟨rfl, rfl⟩
    cases x2 with
    | false =>
      have hx3 : (decide (0 ≤ z) && decide (z < (R.fes.length : Int))) = false := by
        rw [← hx2]; unfold inB
        rw [show decide (z < (R.fes.length : Int)) = decide (z ≤ (R.fes.length : Int) - 1) from decide_eq_decide.2 (by omega)]
      have HR : Hid (openB R z = false) := by show _ = _; unfold openB turnB; rw [HX1.out, hx3]; rfl
      go_wp2_with fail
      go_ret
      exact ⟨by rw [HR.out]; rfl, HB2.out⟩
    | true =>
      have hx3 := inB_iff'.1 hx2
      obtain ⟨k, rfl⟩ : ∃ k : Nat, z = (k : Int) := ⟨z.toNat, by omega⟩
      have hk : k < R.fes.length := by omega
      obtain ⟨gg, off, hga, hgl0, q0, q1, q2, hgr0⟩ := FetV.at' HA2.out.f k hk
      clear hgl0 hgr0 q0 q1
      obtain ⟨y, hy⟩ : ∃ b, (R.fes[k].st == 1) = b := ⟨_, rfl⟩
      obtain ⟨s, hs⟩ : ∃ s, R.fes[k].st = s := ⟨_, rfl⟩
      rw [hs] at q2 hy
      have HR : Hid (openB R (k : Int) = y) := by
        show _ = _
        unfold openB turnB fetAt
        rw [HX1.out, Int.toNat_natCast, getD_of hk, hs, hy, decide_eq_true (show (0 : Int) ≤ (k : Int) by omega), decide_eq_true (show (k : Int) < (R.fes.length : Int) by omega)]
        rfl
      have hi1 : (0 : Int) ≤ (k : Int) := by omega
      have hi3 : (k : Int) < (R.fes.length : Int) := by omega
      subst hga
      clear hs hx3
      cases y with
      | false =>
        go_wp2_with fail
        go_ret
        exact ⟨by rw [HR.out]; rfl, HB2.out⟩
      | true =>
        go_wp2_with fail
        go_ret
        exact ⟨by rw [HR.out]; rfl, HB2.out⟩
end Go.Proofs.YtcaakommnglnbaaGreatDoor

namespace Go.Proofs.YtcaakommnglnbaaGreatDoor
open Go.RowKit Go.Sort
/-- A proxy in a block of its own: its lists from lo on, none of them the block. -/
structure PvAt (w : World) (lo T : Nat) (X : Pc) (R : Prx) : Prop where
  box : NB w T 41 (.int .i64 R.now) X.e X.w X.m X.k (.int .i64 R.pol.sk.added) X.f X.c (.int .i64 R.hits)
  own : PxOwn w lo w.heap.size X R
  le : lo ≤ T
theorem PvAt.on {w w' : World} {lo T : Nat} {X : Pc} {R : Prx} (H : PvAt w lo T X R) (hb : Below w.heap.size w w') : PvAt w' lo T X R :=
  ⟨H.box.on hb, (H.own.below hb (Nat.le_refl _)).up, H.le⟩
theorem PvAt.lt {w : World} {lo T : Nat} {X : Pc} {R : Prx} (H : PvAt w lo T X R) : lo ≤ w.heap.size := Nat.le_trans H.le (Nat.le_of_lt H.box.lt)
/-- The hall's block is none of a row's of another type. -/
theorem PvAt.far {w : World} {lo T : Nat} {X : Pc} {R : Prx} (H : PvAt w lo T X R) {v : Value} {e : TypeId} (hty : ∀ k, v.ownBlock = some k → ∃ cs, w.heap[k]? = some (.cells cs e (0, 0))) (hne : 41 ≠ e) : v.ownBlock ≠ some T := fun h => by
  obtain ⟨c, hc⟩ := hty T h
  have h2 : w.heap[T]? = _ := H.box
  rw [h2] at hc
  simp only [Option.some.injEq, Obj.cells.injEq] at hc
  exact hne hc.2.1
theorem PvAt.setCls {w w' : World} {lo T : Nat} {X : Pc} {R : Prx} {L : List Cli} (H : PvAt w lo T X R) (ht : Tch (fun b => X.c.ownBlock = some b) w w') (ho : OwnCli w' lo 93 X.c L) : PvAt w' lo T X ⟨R.now, R.ents, R.pol, R.fes, L, R.hits⟩ ∧ Below lo w w' :=
  ⟨⟨H.box.kept (ht.2 T H.box.lt (H.far H.own.c.type (by decide))), H.own.setC (grown_tch ht) ho, H.le⟩, Tch.below (Below.refl _ _) ht H.lt (fun k hk => (H.own.c.lt k hk).1)⟩
theorem PvAt.setFes {w w' : World} {lo T : Nat} {X : Pc} {R : Prx} {L : List Fet} (H : PvAt w lo T X R) (ht : Tch (fun b => X.f.ownBlock = some b) w w') (ho : OwnFet w' lo 60 X.f L) : PvAt w' lo T X ⟨R.now, R.ents, R.pol, L, R.cls, R.hits⟩ ∧ Below lo w w' :=
  ⟨⟨H.box.kept (ht.2 T H.box.lt (H.far H.own.f.type (by decide))), H.own.setF (grown_tch ht) ho, H.le⟩, Tch.below (Below.refl _ _) ht H.lt (fun k hk => (H.own.f.lt k hk).1)⟩
end Go.Proofs.YtcaakommnglnbaaGreatDoor

namespace Go.Proofs.YtcaakommnglnbaaGreatDoor
open Go.RowKit Go.Sort
set_option maxRecDepth 100000 in
set_option maxHeartbeats 8000000 in
theorem l16Tell_any (w : World) (lo T : Nat) (X : Pc) (R : Prx) (k : Nat) (st : Int) (H : PvAt w lo T X R) (hk : k < R.fes.length) (hl : R.fes.length ≤ 1048576) (hm : R.cls.length ≤ 1048576) :
    Calls Tryz.prog 18 #[.pointer (some ⟨T, 0, none⟩), .int .i64 (k : Int), .int .i64 st] w fun e w' => e = .returned (.tuple #[]) ∧ PvAt w' lo T X ⟨R.now, R.ents, R.pol, R.fes, tellX R.cls k (fun c => (c.w_got (R.fes[k]'hk).tx).w_st st), R.hits⟩ ∧ Below lo w w' := by
  obtain ⟨tx, htx⟩ : ∃ t, (R.fes[k]'hk).tx = t := ⟨_, rfl⟩
  rw [htx]
  obtain ⟨hB, hO, hle⟩ := H
  have H : PvAt w lo T X R := ⟨hB, hO, hle⟩
  have hc := hO.c
  obtain ⟨a, c, hXc, hA⟩ := hc.at
  obtain ⟨af, cf, hXf, hAf⟩ := hO.f.at
  obtain ⟨gf, of, hgf, hgfs, hfz, hf1, hfy⟩ := hAf k hk
  clear hfz hfy
  rw [htx] at hf1
  subst hgf
  obtain ⟨L, hL⟩ : ∃ L, R.cls = L := ⟨_, rfl⟩
  rw [hL] at hc hXc hA hm ⊢
  obtain ⟨F, hF⟩ : ∃ F : Cli → Cli, (fun c : Cli => (c.w_got tx).w_st st) = F := ⟨_, rfl⟩
  have HFF : Hid (∀ c, F c = (c.w_got tx).w_st st) := fun c => by rw [← hF]
  rw [hF]
  clear hF
  have hT : ¬ (X.c.ownBlock = some T) := H.far H.own.c.type (by decide)
  have hGFc : ¬ (X.c.ownBlock = some gf) := fun e => by
    obtain ⟨cs, h1⟩ := hc.type gf e
    have hf := hO.f
    rw [hXf] at hf
    obtain ⟨g', hg', _⟩ := row5_addr hf (by omega)
    cases hg'
    obtain ⟨cs2, h2⟩ := hf.type gf rfl
    rw [h2] at h1
    simp only [Option.some.injEq, Obj.cells.injEq] at h1
    exact absurd h1.2.1 (by decide)
  have HEND : Hid (∀ w', Tch (fun b => X.c.ownBlock = some b) w w' → OwnCli w' lo 93 X.c (tellX L k F) → PvAt w' lo T X ⟨R.now, R.ents, R.pol, R.fes, tellX L k F, R.hits⟩ ∧ Below lo w w') := fun w' ht ho => H.setCls ht ho
  by_cases h0 : L.length = 0
  · have hnil : L = [] := List.length_eq_zero_iff.1 h0
    subst hnil
    have b7 := hB.cells.2.2.2.2.2.2.2.1
    rw [hXc] at b7
    have HC : Hid (OwnCli w lo 93 X.c (tellX [] k F)) := hc
    clear hO hc hA hXc h0 hB H hf1
    go_enter Tryz.func18, Tryz.ntmps18
    go_wp2_with fail
    go_loopw [6] (fun i wr => Box (i = .int .i64 0 ∧ wr = w)) (fun _ _ => 0)
    case atStart => exact ⟨⟨rfl, rfl⟩⟩
    case round =>
      obtain ⟨rfl, hw⟩ := hrel.out
      subst hw
      go_wp2_with fail
      exact bodyPost_end (results_none rfl _ _ _) rfl ⟨rfl, HEND.out _ (Tch.of_below (Below.refl _ _)) HC.out⟩
  obtain ⟨G, hG, hGs, hGl⟩ : ∃ G, a = some ⟨G, 0, none⟩ ∧ G < w.heap.size ∧ lo ≤ G := by
    have h := hc
    rw [hXc] at h
    exact row7_addr h (by omega)
  subst hG
  have hTG : ¬ (T = G) := fun e => hT (by rw [hXc, e]; rfl)
  have hFG : ¬ (gf = G) := fun e => hGFc (by rw [hXc, e]; rfl)
  have HBX : Hid (∀ W : World, Tch (fun b => b = G) w W → W.cell? ⟨T, 7, none⟩ = some (.slice (some ⟨G, 0, none⟩) L.length c) ∧ W.cell? ⟨T, 6, none⟩ = some (.slice (some ⟨gf, of, none⟩) R.fes.length cf) ∧ W.cell? ⟨gf, of + k * 5 + 1, none⟩ = some (.string tx)) := fun W ht => by
    have h := (hB.kept (ht.2 T hB.lt hTG)).cells
    rw [hXc, hXf] at h
    refine ⟨h.2.2.2.2.2.2.2.1, h.2.2.2.2.2.2.1, ?_⟩
    have e := ht.2 gf hgfs hFG
    have := hf1
    simp only [World.cell?] at this ⊢
    rw [e]
    exact this
  obtain ⟨b7, b6, bf⟩ := HBX.out w (Tch.of_below (Below.refl _ _))
  have HXC : Hid (X.c = .slice (some ⟨G, 0, none⟩) L.length c) := hXc
  have HOB : Hid (∀ b, X.c.ownBlock = some b ↔ b = G) := fun b => by rw [hXc]; simp [Value.ownBlock]; exact eq_comm
  have HC0 : Hid (OwnCli w lo 93 X.c L) := hc
  have HKL : Hid (k < R.fes.length) := hk
  have hk1 : (0 : Int) ≤ (k : Int) := by omega
  have hk3 : (k : Int) < (R.fes.length : Int) := by omega
  clear hO hc hA hXc hB hle hT hTG hGs hGl hL hf1 H hGFc hFG hXf hAf htx hk hgfs
  go_enter Tryz.func18, Tryz.ntmps18
  go_wp2_with fail
  clear b7 b6 bf
  go_loopw [6] (fun i wr => Box (∃ n : Nat, n ≤ L.length ∧ i = .int .i64 n ∧ Tch (fun b => b = G) w wr ∧ OwnCli wr lo 93 X.c (tellTo L k F n)))
    (fun i _ => L.length - (intOf i).toNat)
  case atStart => exact ⟨⟨0, by omega, rfl, Tch.of_below (Below.refl _ _), by rw [tellTo_zero]; exact HC0.out⟩⟩
  case round =>
    obtain ⟨n, hn, rfl, ht, ho⟩ := hrel.out
    obtain ⟨wo, hwo⟩ : ∃ wo, wo = wr := ⟨_, rfl⟩
    subst hwo
    have HT : Hid (Tch (fun b => b = G) w wo) := ht
    have HO : Hid (OwnCli wo lo 93 X.c (tellTo L k F n)) := ho
    obtain ⟨b7, b6, bf⟩ := HBX.out wo ht
    clear hrel ht ho
    by_cases hlt : n < L.length
    · have ho' := HO.out
      rw [HXC.out] at ho'
      have ho' : OwnCli wo lo 93 (.slice (some ⟨G, 0, none⟩) (tellTo L k F n).length c) (tellTo L k F n) := by rw [tellTo_len]; exact ho'
      have hnl : n < (tellTo L k F n).length := by rw [tellTo_len]; exact hlt
      have hce := ho'.cellP n hnl
      rw [tellTo_at L k F n hlt] at hce
      have t5 := ho'.thaw (n * 7 + 5)
      obtain ⟨x, hx⟩ : ∃ x, L[n] = x := ⟨_, rfl⟩
      rw [hx] at hce
      obtain ⟨q0, q1, q2, q3, q4, q5, q6⟩ := hce
      have HX : Hid (tellTo L k F (n + 1) = (tellTo L k F n).set n (tellF k F x)) := by show _ = _; rw [tellTo_succ L k F n hlt, hx]
      have HAT : Hid ((tellTo L k F n).set n x = tellTo L k F n) := by
        show _ = _
        have h1 := tellTo_at L k F n hlt
        rw [← hx, ← h1]
        exact List.set_getElem_self _
      have HATX : Hid ((tellTo L k F n)[n]'hnl = x) := by show _ = _; rw [tellTo_at L k F n hlt, hx]
      have hi1 : (0 : Int) ≤ (n : Int) := by omega
      have hi3 : (n : Int) < (L.length : Int) := by omega
      have HK : Hid (n < L.length) := hlt
      have HO1 : Hid (OwnCli (wo.setCell ⟨G, n * 7 + 5, none⟩ (.string tx)).drew lo 93 (.slice (some ⟨G, 0, none⟩) L.length c) ((tellTo L k F n).set n (x.w_got tx))) := by
        have h := ho'.set_got n hnl tx
        rw [HATX.out, tellTo_len] at h
        exact h.below (B := _) ⟨rfl, rfl, rfl, Nat.le_refl _, fun _ _ => rfl⟩ (Nat.le_refl _)
      obtain ⟨y1, hy1⟩ : ∃ b, (x.fe == (k : Int) + 1) = b := ⟨_, rfl⟩
      obtain ⟨y2, hy2⟩ : ∃ b, (x.st == 1) = b := ⟨_, rfl⟩
      have HW : Hid (tellF k F x = if (y2 && y1) = true then F x else x) := by show _ = _; unfold tellF waitsB; rw [hy1, hy2]
      clear ho' hx hlt
      cases y1 with
      | false =>
        have HF : Hid (OwnCli wo lo 93 X.c (tellTo L k F (n + 1))) := by
          show OwnCli _ _ _ _ _
          rw [HX.out, HW.out]
          simp only [Bool.and_false, Bool.false_eq_true, if_false]
          rw [HAT.out]
          exact HO.out
        clear HO1
        go_wp2_with fail
        go_roundw
        case rel =>
          try ((repeat apply Exists.intro); refine ⟨?_, rfl⟩)
          exact ⟨⟨n + 1, by have := HK.out; omega, by go_num, HT.out, HF.out⟩⟩
        case measure => have := HK.out; simp [intOf]; omega
      | true =>
        cases y2 with
        | false =>
          have HF : Hid (OwnCli wo lo 93 X.c (tellTo L k F (n + 1))) := by
            show OwnCli _ _ _ _ _
            rw [HX.out, HW.out]
            simp only [Bool.false_and, Bool.false_eq_true, if_false]
            rw [HAT.out]
            exact HO.out
          clear HO1
          go_wp2_with fail
          go_roundw
          case rel =>
            try ((repeat apply Exists.intro); refine ⟨?_, rfl⟩)
            exact ⟨⟨n + 1, by have := HK.out; omega, by go_num, HT.out, HF.out⟩⟩
          case measure => have := HK.out; simp [intOf]; omega
        | true =>
          have HT1 : Hid (Tch (fun b => b = G) w (wo.setCell ⟨G, n * 7 + 5, none⟩ (.string tx)).drew) := by
            have h := tch_setV (v := .slice (some ⟨G, 0, none⟩) 0 0) (G := G) (i := n * 7 + 5) (u := .string tx) rfl (Tch.of_below (Below.refl wo.heap.size wo))
            exact (HT.out.trans (h.weak (fun b hb => (Option.some.inj hb).symm))).trans (Tch.of_below ⟨rfl, rfl, rfl, Nat.le_refl _, fun _ _ => rfl⟩)
          have kx0 := HBX.out wo.drew (HT.out.trans (Tch.of_below ⟨rfl, rfl, rfl, Nat.le_refl _, fun _ _ => rfl⟩))
          have kx1 := HBX.out _ HT1.out
          go_wp2_with fail
          clear b7 b6 bf q0 q1 q2 q3 q4 q6
          go_region_held3 (fun W => W.cell? ⟨T, 7, none⟩ = some (.slice (some ⟨G, 0, none⟩) L.length c) ∧ W.cell? ⟨T, 6, none⟩ = some (.slice (some ⟨gf, of, none⟩) R.fes.length cf) ∧ W.cell? ⟨gf, of + k * 5 + 1, none⟩ = some (.string tx)) (first | with_reducible exact kx0 | with_reducible exact kx1)
            (fail)
          clear q5 t5 kx0 kx1
          obtain ⟨w5, hw5⟩ : ∃ y, (wo.setCell ⟨G, n * 7 + 5, none⟩ (.string tx)).drew = y := ⟨_, rfl⟩
          rw [hw5] at HO1 HT1 ⊢
          clear hw5
          have hnl2 : n < ((tellTo L k F n).set n (x.w_got tx)).length := by rw [List.length_set, tellTo_len]; exact HK.out
          have ho5 : OwnCli w5 lo 93 (.slice (some ⟨G, 0, none⟩) ((tellTo L k F n).set n (x.w_got tx)).length c) ((tellTo L k F n).set n (x.w_got tx)) := by rw [List.length_set, tellTo_len]; exact HO1.out
          obtain ⟨q0, q1, q2, q3, q4, q5, q6⟩ := ho5.cellP n hnl2
          have t4 := ho5.thaw (n * 7 + 4)
          obtain ⟨b7, b6, bf⟩ := HBX.out w5 HT1.out
          have HF : Hid (OwnCli (w5.setCell ⟨G, n * 7 + 4, none⟩ (.int .i64 st)) lo 93 X.c (tellTo L k F (n + 1))) := by
            show OwnCli _ _ _ _ _
            have h := ho5.set_st n hnl2 st
            rw [List.set_set, List.getElem_set_self, List.length_set, tellTo_len] at h
            rw [HX.out, HW.out, HXC.out]
            simp only [Bool.and_self, if_true]
            rw [HFF.out]
            exact h
          have HT2 : Hid (Tch (fun b => b = G) w (w5.setCell ⟨G, n * 7 + 4, none⟩ (.int .i64 st))) := by
            have h := tch_setV (v := .slice (some ⟨G, 0, none⟩) 0 0) (G := G) (i := n * 7 + 4) (u := .int .i64 st) rfl (Tch.of_below (Below.refl w5.heap.size w5))
            exact HT1.out.trans (h.weak (fun b hb => (Option.some.inj hb).symm))
          clear ho5 HO1 HO HT1
          go_wp2_with fail
          go_roundw
          case rel =>
            try ((repeat apply Exists.intro); refine ⟨?_, rfl⟩)
            exact ⟨⟨n + 1, by have := HK.out; omega, by go_num, HT2.out, HF.out⟩⟩
          case measure => have := HK.out; simp [intOf]; omega
    · have hi3 : ¬ (n : Int) < (L.length : Int) := by omega
      have HF : Hid (OwnCli wo lo 93 X.c (tellX L k F)) := by
        show OwnCli _ _ _ _ _
        rw [← tellTo_all, show L.length = n by omega]
        exact HO.out
      clear hlt hn
      go_wp2_with fail
      exact bodyPost_end (results_none rfl _ _ _) rfl ⟨rfl, HEND.out _ (HT.out.weak (fun b hb => (HOB.out b).2 hb)) HF.out⟩
end Go.Proofs.YtcaakommnglnbaaGreatDoor

namespace Go.Proofs.YtcaakommnglnbaaGreatDoor
open Go.RowKit Go.Sort

set_option maxRecDepth 100000 in
set_option maxHeartbeats 4000000 in
theorem l14Copy_any (w : World) (a : Option Addr) (c : Nat) (S : Stm) (hE : PAt w a S.rd w.heap.size) (hm : S.rd.length ≤ 1048576) :
    Calls Tryz.prog 44 #[.agg #[.int .i64 S.st, .string S.text, .slice a S.rd.length c]] w fun e w' => ∃ v, e = .returned v ∧ MOwn w' w.heap.size v S ∧ Below w.heap.size w w' := by
  obtain ⟨st, t, rd⟩ := S
  dsimp only at hE hm ⊢
  obtain ⟨w0, hw0⟩ : ∃ x, w.alloc (.cells #[.int .i64 st, .string t, .slice a rd.length c] 56) = x := ⟨_, rfl⟩
  obtain ⟨w1, hw1⟩ : ∃ x, w0.alloc (.cells #[.int .i64 0, .string ⟨#[]⟩, .slice none 0 0] 56) = x := ⟨_, rfl⟩
  have hb0 : Below w.heap.size w w0 := by rw [← hw0]; exact (Below.refl _ _).alloc (Nat.le_refl _) _
  have hb1 : Below w0.heap.size w0 w1 := by rw [← hw1]; exact (Below.refl _ _).alloc (Nat.le_refl _) _
  have s0 : w0.heap.size = w.heap.size + 1 := by rw [← hw0]; simp
  have s1 : w1.heap.size = w.heap.size + 2 := by rw [← hw1]; simp; omega
  have hB : MBox w1 w.heap.size (.int .i64 st) (.string t) (.slice a rd.length c) := by
    have h : MBox w0 w.heap.size (.int .i64 st) (.string t) (.slice a rd.length c) := by rw [← hw0]; exact MBox.new _ _ _ _
    exact h.on hb1
  have hR : MBox w1 (w.heap.size + 1) (.int .i64 0) (.string ⟨#[]⟩) (.slice none 0 0) := by rw [← hw1, ← s0]; exact MBox.new _ _ _ _
  have hBw : Below w.heap.size w w1 := hb0.trans (hb1.mono hb0.size)
  have HW : Hid ((w.alloc (.cells #[.int .i64 st, .string t, .slice a rd.length c] 56)).alloc (.cells #[.int .i64 0, .string ⟨#[]⟩, .slice none 0 0] 56) = w1) := by rw [hw0]; exact hw1
  have hS := (hE.on hBw)
  have KC : ∀ W, Below w1.heap.size w1 W → W.cell? ⟨w.heap.size, 0, none⟩ = some (.int .i64 st) ∧ W.cell? ⟨w.heap.size, 1, none⟩ = some (.string t) ∧ W.cell? ⟨w.heap.size, 2, none⟩ = some (.slice a rd.length c) := fun W hW => (hB.on hW).cells
  have HSG : Hid ((a = none → rd.length = 0) ∧ ∀ W, Below w1.heap.size w1 W → ∀ ad, a = some ad → ∀ j u, (prl rd)[j]? = some u → W.cell? (ad.add j) = some u) := ⟨hS.srcR.1, fun W hW => (hS.on hW).srcR.2⟩
  have HR : Hid (∀ W, Below w1.heap.size w1 W → MBox W (w.heap.size + 1) (.int .i64 0) (.string ⟨#[]⟩) (.slice none 0 0)) := fun W hW => hR.on hW
  have HS1 : Hid (w1.heap.size = w.heap.size + 2) := s1
  have hdf : Below w1.heap.size w1 w1.drew := ⟨rfl, rfl, rfl, Nat.le_refl _, fun _ _ => rfl⟩
  have hdr : Below (w.heap.size + 1) w1 w1.drew := hdf.mono (by omega)
  have hn1 : w.heap.size + 1 ≤ w1.heap.size := by omega
  have KS : ∀ W, Below (w.heap.size + 1) w1 W → Below (w.heap.size + 1) w1 W ∧ W.cell? ⟨w.heap.size, 0, none⟩ = some (.int .i64 st) ∧ W.cell? ⟨w.heap.size, 1, none⟩ = some (.string t) ∧ W.cell? ⟨w.heap.size, 2, none⟩ = some (.slice a rd.length c) := by
    intro W hW
    obtain ⟨x0, x1, x2⟩ := hB.cells
    exact ⟨hW, (hW.cell (by simp)).trans x0, (hW.cell (by simp)).trans x1, (hW.cell (by simp)).trans x2⟩
  obtain ⟨b0, b1, b2⟩ := KC w1.drew hdf
  clear hw0 hw1 hb0 hb1 hB hR s0 s1 hE hS KC
  go_enter Tryz.func44, Tryz.ntmps44
  go_wp2_with fail
  rw [HW.out]
  go_region_held3 (fun W => Below (w.heap.size + 1) w1 W ∧ W.cell? ⟨w.heap.size, 0, none⟩ = some (.int .i64 st) ∧ W.cell? ⟨w.heap.size, 1, none⟩ = some (.string t) ∧ W.cell? ⟨w.heap.size, 2, none⟩ = some (.slice a rd.length c)) (first | exact KS _ (by first | exact hdr | exact fB.mono hn1 | exact ballocR hdr hn1 _ | exact (((fB.mono hn1).setCell (Nat.le_refl _) _).setCell (Nat.le_refl _) _).setCell (Nat.le_refl _) _))
    (first | (refine step_allR rfl (.tmp 7) (.tmp 9) 54 rfl 119 Tryz.underlying54 (.agg #[.int .i64 0, .int .i64 0]) 2 16 Tryz.infoRdr rfl (by omega) (by omega) _ rfl (by exact heap_alloc_new _ _) a rd.length c (prl rd) rfl (prl_length rd) HSG.out.1 (HSG.out.2 _ (by first | exact hdf | exact bplusR hdf _)) (prl_one' rd) hm ?_; rintro gB cB wB oB bB nB kB; have fB : Below w1.heap.size w1 wB := Below.trans (by first | exact hdf | exact bplusR hdf _) (bB.mono (by first | exact Nat.le_refl _ | omega)); obtain ⟨r0, r1, r2⟩ := (HR.out _ fB).cells; have t0 := (HR.out _ fB).thaw 0; have t1 := (HR.out _ fB).thaw 1; have t2 := (HR.out _ fB).thaw 2))
  all_goals
    have HE : Hid (OwnP wB w1.heap.size 119 (.slice (some ⟨gB, 0, none⟩) rd.length cB) rd) := OwnP.mono (L := rd) oB (by first | exact Nat.le_refl _ | omega)
    have HF : Hid (Below w1.heap.size w1 wB) := fB
    clear oB bB nB kB fB
    go_wp2_with fail
    have hRB := HR.out wB HF.out
    obtain ⟨q0, q1, q2⟩ := (hRB.put (.int .i64 st) (.string t) (.slice (some ⟨gB, 0, none⟩) rd.length cB)).cells
    refine bodyPost_ret (v := .agg #[.int .i64 st, .string t, .slice (some ⟨gB, 0, none⟩) rd.length cB]) (by simp [results, Tryz.results44, go_sem, q0, q1, q2]) rfl ⟨_, rfl, ?_, ?_⟩
    · exact (MOwn.put3 (S := ⟨st, t, rd⟩) ⟨_, rfl, HE.out⟩ hRB _ _ _).mono (by have := HS1.out; omega)
    · exact Below.put3M (hBw.trans (HF.out.mono hBw.size)) (by omega) _ _ _
end Go.Proofs.YtcaakommnglnbaaGreatDoor
