/- Texts that stand in one: PxFetSpec, PxSlices. -/
import Derived.Test.YtpgcfgbhkodmeaaPxEntsSpec
import Derived.Test.YtpgcfgbhkodmeaaPxPlain
namespace Go.Proofs.Ytpgcfgbhkodmeaa
open Go.RowKit Go.Sort
set_option maxRecDepth 100000 in
set_option maxHeartbeats 8000000 in
theorem l16Fetch_any (w : World) (X : Pc) (R : Prx) (k : Nat) (hk : k < R.fes.length) (hA : PxAt w X R w.heap.size) (hsz : PxSz R) :
    Calls Try.prog 46 #[.agg #[.int .i64 R.now, X.e, X.w, X.m, X.k, .int .i64 R.pol.sk.added, X.f, X.c, .int .i64 R.hits], .int .i64 (k : Int)] w fun e w' => e = .returned (.bool (fetF R.now R.fes k)) ∧ Below w.heap.size w w' := by
  obtain ⟨xe, xw, xm, xk, xf, xc⟩ := X
  obtain ⟨⟨e0, e1, he, _⟩, ⟨p0, p1, hp, _⟩, ⟨m0, m1, hm, _⟩, ⟨k0, k1, hk', _⟩, ⟨f0, f1, hf, hF⟩, ⟨c0, c1, hc, _⟩⟩ := hA
  dsimp only at he hp hm hk' hf hc ⊢
  subst he hp hm hk' hf hc
  obtain ⟨_, _, hl, _⟩ := hsz.parts
  obtain ⟨L, hL⟩ : ∃ L, R.fes = L := ⟨_, rfl⟩
  rw [hL] at hF hk hl ⊢
  obtain ⟨f, hf⟩ : ∃ f, L[k] = f := ⟨_, rfl⟩
  obtain ⟨w1, hw1⟩ : ∃ x, w.alloc (.cells #[.int .i64 R.now, .slice e0 R.ents.length e1, .slice p0 R.pol.win.length p1, .slice m0 R.pol.main.length m1, .slice k0 R.pol.sk.rows.length k1, .int .i64 R.pol.sk.added, .slice f0 L.length f1, .slice c0 R.cls.length c1, .int .i64 R.hits] 42) = x := ⟨_, rfl⟩
  have hb1 : Below w.heap.size w w1 := by rw [← hw1]; exact (Below.refl _ _).alloc (Nat.le_refl _) _
  have hB1 : NB w1 w.heap.size 42 (.int .i64 R.now) (.slice e0 R.ents.length e1) (.slice p0 R.pol.win.length p1) (.slice m0 R.pol.main.length m1) (.slice k0 R.pol.sk.rows.length k1) (.int .i64 R.pol.sk.added) (.slice f0 L.length f1) (.slice c0 R.cls.length c1) (.int .i64 R.hits) := by rw [← hw1]; exact NB.new _ _ _ _ _ _ _ _ _ _ _
  obtain ⟨w2, hw2⟩ : ∃ x, w1.alloc (.cells #[.string f.key, .string f.tx, .int .i64 f.st, .int .i64 f.lf, .int .i64 f.sto] 67) = x := ⟨_, rfl⟩
  have hb2 : Below w1.heap.size w1 w2 := by rw [← hw2]; exact (Below.refl _ _).alloc (Nat.le_refl _) _
  have hB2 := hB1.on hb2
  have hFB : w2.heap[w1.heap.size]? = some (.cells #[.string f.key, .string f.tx, .int .i64 f.st, .int .i64 f.lf, .int .i64 f.sto] 67 (0, 0)) := by rw [← hw2]; exact heap_alloc_new _ _
  have HFA : Hid (FetAt w2 f0 L w2.heap.size) := (hF.on hb1).on hb2
  have HB2 : Hid (Below w.heap.size w w2) := hb1.trans (hb2.mono hb1.size)
  have HW : Hid ((w.alloc (.cells #[.int .i64 R.now, .slice e0 R.ents.length e1, .slice p0 R.pol.win.length p1, .slice m0 R.pol.main.length m1, .slice k0 R.pol.sk.rows.length k1, .int .i64 R.pol.sk.added, .slice f0 L.length f1, .slice c0 R.cls.length c1, .int .i64 R.hits] 42)).alloc (.cells #[.string f.key, .string f.tx, .int .i64 f.st, .int .i64 f.lf, .int .i64 f.sto] 67) = w2) := by show _ = _; rw [hw1]; exact hw2
  have HBX : Hid (NB w2 w.heap.size 42 (.int .i64 R.now) (.slice e0 R.ents.length e1) (.slice p0 R.pol.win.length p1) (.slice m0 R.pol.main.length m1) (.slice k0 R.pol.sk.rows.length k1) (.int .i64 R.pol.sk.added) (.slice f0 L.length f1) (.slice c0 R.cls.length c1) (.int .i64 R.hits)) := hB2
  have hE1 := hF.on hb1
  obtain ⟨gk, ok, hgk, _, q0, q1, q2, q3, q4⟩ := hE1 k hk
  rw [hf] at q0 q1 q2 q3 q4
  subst hgk
  obtain ⟨b0, b1, b2, b3, b4, b5, b6, b7, b8⟩ := hB1.cells
  rw [← hw1] at b6 q0 q1 q2 q3 q4
  obtain ⟨d0, d1, d2, d3, d4, d5, d6, d7, d8⟩ := hB2.cells
  have g0 : w2.cell? ⟨w1.heap.size, 0, none⟩ = some (.string f.key) := by rw [cell_of_row w2 w1.heap.size 0 _ _ (0, 0) hFB]; rfl
  have g1 : w2.cell? ⟨w1.heap.size, 1, none⟩ = some (.string f.tx) := by rw [cell_of_row w2 w1.heap.size 1 _ _ (0, 0) hFB]; rfl
  have g2 : w2.cell? ⟨w1.heap.size, 2, none⟩ = some (.int .i64 f.st) := by rw [cell_of_row w2 w1.heap.size 2 _ _ (0, 0) hFB]; rfl
  have g3 : w2.cell? ⟨w1.heap.size, 3, none⟩ = some (.int .i64 f.lf) := by rw [cell_of_row w2 w1.heap.size 3 _ _ (0, 0) hFB]; rfl
  have g4 : w2.cell? ⟨w1.heap.size, 4, none⟩ = some (.int .i64 f.sto) := by rw [cell_of_row w2 w1.heap.size 4 _ _ (0, 0) hFB]; rfl
  have HS1 : Hid (w1.heap.size = w.heap.size + 1) := by show _ = _; rw [← hw1]; simp
  have cK1 := l13KeyE_any w2 f.key
  have cK3 := l01In_any f.st 1 3 w2
  have cK4 := l01In_any f.lf 0 999999 w2
  have cK5 := l01In_any f.sto 0 R.now w2
  obtain ⟨res, hres⟩ : ∃ r, fetF R.now L k = r := ⟨_, rfl⟩
  have HE : Hid (res = ((enKey f.key && (decide (f.tx.size ≤ 400) && (inB f.st 1 3 && (inB f.lf 0 999999 && inB f.sto 0 R.now)))) && !((f.st == 1) && (L.take k).any (openP f.key)))) := by
    show _ = _
    rw [← hres]
    unfold fetF
    rw [getD_of hk, hf]
  rw [hres]
  generalize enKey f.key = x1 at cK1 HE
  generalize inB f.st 1 3 = x3 at cK3 HE
  generalize inB f.lf 0 999999 = x4 at cK4 HE
  generalize inB f.sto 0 R.now = x5 at cK5 HE
  have hi1 : (0 : Int) ≤ (k : Int) := by omega
  have hi3 : (k : Int) < (L.length : Int) := by omega
  have hkn : Hid (k < L.length) := hk
  rw [HS1.out] at g0 g1 g2 g3 g4 hFB
  have HFX : Hid (w2.heap[w.heap.size + 1]? = some (.cells #[.string f.key, .string f.tx, .int .i64 f.st, .int .i64 f.lf, .int .i64 f.sto] 67 (0, 0))) := hFB
  clear hw1 hw2 hB1 hB2 hFB hE1 hF hf hb1 hb2 hk hL hsz hres b0 b1 b2 b3 b4 b5 b7 b8
  go_enter Try.func46, Try.ntmps46
  go_wp2_with fail
  rw [HW.out]
  refine cK1.mono ?_
  rintro e w' ⟨rfl, rfl⟩
  cases x1 with
  | false =>
    have HR : Hid (res = false) := by show _ = _; rw [HE.out]; simp
    go_wp2_with fail
    go_ret
    exact ⟨by rw [HR.out]; rfl, HB2.out⟩
  | true =>
    by_cases h2 : f.tx.size ≤ 400
    case neg =>
      have h2' : (400 : Int) < (f.tx.size : Int) := by omega
      have HR : Hid (res = false) := by show _ = _; rw [HE.out, decide_eq_false h2]; simp
      clear h2
      go_wp2_with fail
      go_ret
      exact ⟨by rw [HR.out]; rfl, HB2.out⟩
    have h2' : ¬ (400 : Int) < (f.tx.size : Int) := by omega
    rw [decide_eq_true h2] at HE
    clear h2
    go_wp2_with fail
    refine cK3.mono ?_
    rintro e w' ⟨rfl, rfl⟩
    cases x3 with
    | false =>
      have HR : Hid (res = false) := by show _ = _; rw [HE.out]; simp
      go_wp2_with fail
      go_ret
      exact ⟨by rw [HR.out]; rfl, HB2.out⟩
    | true =>
      go_wp2_with fail
      refine cK4.mono ?_
      rintro e w' ⟨rfl, rfl⟩
      cases x4 with
      | false =>
        have HR : Hid (res = false) := by show _ = _; rw [HE.out]; simp
        go_wp2_with fail
        go_ret
        exact ⟨by rw [HR.out]; rfl, HB2.out⟩
      | true =>
        go_wp2_with fail
        refine cK5.mono ?_
        rintro e w' ⟨rfl, rfl⟩
        cases x5 with
        | false =>
          have HR : Hid (res = false) := by show _ = _; rw [HE.out]; simp
          go_wp2_with fail
          go_ret
          exact ⟨by rw [HR.out]; rfl, HB2.out⟩
        | true =>
          go_wp2_with fail
          go_loopw [6] (fun i wr => Box (∃ n : Nat, n ≤ k ∧ i = .int .i64 n ∧ (f.st = 1 → (L.take n).any (openP f.key) = false) ∧ Below w2.heap.size w2 wr))
            (fun i _ => k - (intOf i).toNat)
          case atStart => exact ⟨⟨0, by omega, rfl, fun _ => rfl, Below.refl _ _⟩⟩
          case round =>
            obtain ⟨n, hn, rfl, hno, hbr⟩ := hrel.out
            obtain ⟨wo, hwo⟩ : ∃ wo, wo = wr := ⟨_, rfl⟩
            subst hwo
            have HBR : Hid (Below w2.heap.size w2 wo) := hbr
            have HBO : Hid (Below w.heap.size w wo) := HB2.out.trans (hbr.mono HB2.out.size)
            have z6 := cell_regrown (HBX.out.on hbr).cells.2.2.2.2.2.2.1
            have hFB := (hbr.block _ (Array.getElem?_eq_some_iff.1 HFX.out).1).trans HFX.out
            have z0 := cell_regrown (show wo.cell? ⟨w.heap.size + 1, 0, none⟩ = some (.string f.key) by rw [cell_of_row wo (w.heap.size + 1) 0 _ _ (0, 0) hFB]; rfl)
            have z2 := cell_regrown (show wo.cell? ⟨w.heap.size + 1, 2, none⟩ = some (.int .i64 f.st) by rw [cell_of_row wo (w.heap.size + 1) 2 _ _ (0, 0) hFB]; rfl)
            clear hFB
            have HN : Hid (f.st = 1 → (L.take n).any (openP f.key) = false) := hno
            clear hrel hno hbr
            by_cases hlt : n < k
            · have hnl : n < L.length := Nat.lt_trans hlt hkn.out
              obtain ⟨gg, offg, hga, _, q0, q1, q2, q3, q4⟩ := (HFA.out.on HBR.out) n hnl
              obtain ⟨g, hg⟩ : ∃ g, L[n] = g := ⟨_, rfl⟩
              rw [hg] at q0 q1 q2 q3 q4
              cases hga
              have y0 := cell_regrown q0
              have y2 := cell_regrown q2
              clear q0 q1 q2 q3 q4
              have hi1 : (0 : Int) ≤ (n : Int) := by omega
              have hi3 : (n : Int) < (L.length : Int) := by omega
              have hi4 : (n : Int) < (k : Int) := by omega
              have HK : Hid (n < k) := hlt
              have HS : Hid ((L.take (n + 1)).any (openP f.key) = ((L.take n).any (openP f.key) || openP f.key g)) := by
                show _ = _
                rw [List.take_succ_eq_append_getElem hnl, hg, List.any_append]
                simp
              clear hg hnl hlt
              cases he : (g.key.toList == f.key.toList) with
              | false =>
                have HP : Hid (openP f.key g = false) := by show _ = _; unfold openP eqS; rw [he]; rfl
                go_wp2_with fail
                refine wp_region_quiet_below (by kernel_rfl) (by kernel_rfl) ?_
                repeat (first | go_big_quiet_step (fail) | quiet_step (fail))
                refine wpQuiet_nil ?_
                intro _ hw'
                obtain ⟨⟨dq, osq⟩, hw''⟩ := hw'
                subst hw''
                go_wp2_with fail
                go_roundw
                case rel =>
                  try ((repeat apply Exists.intro); refine ⟨?_, rfl⟩)
                  exact ⟨⟨n + 1, by have := HK.out; omega, by go_num, fun h => by rw [HS.out, HN.out h, HP.out]; rfl, HBR.out.trans ((below_regrown wo dq osq).mono HBR.out.size)⟩⟩
                case measure => have := HK.out; simp [intOf]; omega
              | true =>
                by_cases h1 : g.st = 1
                · have hs1 : (g.st == 1) = true := by simp [h1]
                  by_cases h3 : f.st = 1
                  · have hs3 : (f.st == 1) = true := by simp [h3]
                    have HP : Hid (openP f.key g = true) := by show _ = _; unfold openP eqS; rw [he, hs1]; rfl
                    have HQ : Hid ((L.take k).any (openP f.key) = true) := by
                      show _ = _
                      rw [List.any_eq_true]
                      have hnl : n < L.length := Nat.lt_trans HK.out hkn.out
                      have h := HS.out
                      rw [HP.out, Bool.or_true, List.any_eq_true] at h
                      obtain ⟨y, hy, hp⟩ := h
                      refine ⟨y, ?_, hp⟩
                      rw [List.mem_take_iff_getElem] at hy ⊢
                      obtain ⟨i, hi, e⟩ := hy
                      exact ⟨i, by have := HK.out; omega, e⟩
                    have HR : Hid (res = false) := by show _ = _; rw [HE.out, HQ.out, hs3]; simp
                    clear h1 h3
                    go_wp2_with fail
                    refine wp_region_quiet_below (by kernel_rfl) (by kernel_rfl) ?_
                    repeat (first | go_big_quiet_step (fail) | quiet_step (fail))
                    refine wpQuiet_nil ?_
                    intro _ hw'
                    obtain ⟨⟨dq, osq⟩, hw''⟩ := hw'
                    subst hw''
                    go_wp2_with fail
                    go_ret
                    exact ⟨by rw [HR.out]; rfl, HBO.out.trans ((below_regrown wo dq osq).mono HBO.out.size)⟩
                  · have hs3 : (f.st == 1) = false := by simp [h3]
                    have HP : Hid (¬ f.st = 1) := h3
                    clear h1 h3
                    go_wp2_with fail
                    refine wp_region_quiet_below (by kernel_rfl) (by kernel_rfl) ?_
                    repeat (first | go_big_quiet_step (fail) | quiet_step (fail))
                    refine wpQuiet_nil ?_
                    intro _ hw'
                    obtain ⟨⟨dq, osq⟩, hw''⟩ := hw'
                    subst hw''
                    go_wp2_with fail
                    go_roundw
                    case rel =>
                      try ((repeat apply Exists.intro); refine ⟨?_, rfl⟩)
                      exact ⟨⟨n + 1, by have := HK.out; omega, by go_num, fun h => absurd h HP.out, HBR.out.trans ((below_regrown wo dq osq).mono HBR.out.size)⟩⟩
                    case measure => have := HK.out; simp [intOf]; omega
                · have hs1 : (g.st == 1) = false := by simp [h1]
                  have HP : Hid (openP f.key g = false) := by show _ = _; unfold openP eqS; rw [hs1, Bool.and_false]
                  clear h1
                  go_wp2_with fail
                  refine wp_region_quiet_below (by kernel_rfl) (by kernel_rfl) ?_
                  repeat (first | go_big_quiet_step (fail) | quiet_step (fail))
                  refine wpQuiet_nil ?_
                  intro _ hw'
                  obtain ⟨⟨dq, osq⟩, hw''⟩ := hw'
                  subst hw''
                  go_wp2_with fail
                  go_roundw
                  case rel =>
                    try ((repeat apply Exists.intro); refine ⟨?_, rfl⟩)
                    exact ⟨⟨n + 1, by have := HK.out; omega, by go_num, fun h => by rw [HS.out, HN.out h, HP.out]; rfl, HBR.out.trans ((below_regrown wo dq osq).mono HBR.out.size)⟩⟩
                  case measure => have := HK.out; simp [intOf]; omega
            · have hi4 : ¬ (n : Int) < (k : Int) := by omega
              have HR : Hid (res = true) := by
                show _ = _
                rw [HE.out]
                by_cases h3 : f.st = 1
                · rw [show k = n by omega, HN.out h3]; simp
                · simp [h3]
              clear hlt hn
              go_wp2_with fail
              go_ret
              exact ⟨by rw [HR.out]; rfl, HBO.out⟩
end Go.Proofs.Ytpgcfgbhkodmeaa

namespace Go.Proofs.Ytpgcfgbhkodmeaa
open Go.RowKit Go.Sort
theorem CliV.at' {w : World} {a : Option Addr} {c : Nat} {L : List Cli} {B : Nat} (h : CliV w (.slice a L.length c) L B) : CliAt w a L B := by
  obtain ⟨a', c', e, h⟩ := h
  cases e
  exact h
theorem FetV.at' {w : World} {a : Option Addr} {c : Nat} {L : List Fet} {B : Nat} (h : FetV w (.slice a L.length c) L B) : FetAt w a L B := by
  obtain ⟨a', c', e, h⟩ := h
  cases e
  exact h
theorem EnsV.at' {w : World} {a : Option Addr} {c : Nat} {L : List En} {B : Nat} (h : EnsV w (.slice a L.length c) L B) : NAt w a L B := by
  obtain ⟨a', c', e, h⟩ := h
  cases e
  exact h
theorem StrsV.at' {w : World} {a : Option Addr} {c : Nat} {L : List ByteArray} {B : Nat} (h : StrsV w (.slice a L.length c) L B) : LAt w a L B := by
  obtain ⟨a', c', e, h⟩ := h
  cases e
  exact h
theorem SSV.at' {w : World} {a : Option Addr} {c : Nat} {L : List (List Int)} {B : Nat} (h : SSV w (.slice a L.length c) L B) : SSAt w a L B := by
  obtain ⟨a', c', e, h⟩ := h
  cases e
  exact h
theorem PxAt.slices {w : World} {X : Pc} {R : Prx} {B : Nat} (h : PxAt w X R B) : ∃ (e0 : Option Addr) (e1 : Nat) (p0 : Option Addr) (p1 : Nat) (m0 : Option Addr) (m1 : Nat) (k0 : Option Addr) (k1 : Nat) (f0 : Option Addr) (f1 : Nat) (c0 : Option Addr) (c1 : Nat), X = ⟨.slice e0 R.ents.length e1, .slice p0 R.pol.win.length p1, .slice m0 R.pol.main.length m1, .slice k0 R.pol.sk.rows.length k1, .slice f0 R.fes.length f1, .slice c0 R.cls.length c1⟩ := by
  obtain ⟨xe, xw, xm, xk, xf, xc⟩ := X
  obtain ⟨⟨e0, e1, h1, _⟩, ⟨w0, w1, h2, _⟩, ⟨m0, m1, h3, _⟩, ⟨k0, k1, h4, _⟩, ⟨f0, f1, h5, _⟩, ⟨c0, c1, h6, _⟩⟩ := h
  dsimp only at *
  subst h1 h2 h3 h4 h5 h6
  exact ⟨_, _, _, _, _, _, _, _, _, _, _, _, rfl⟩
theorem PxAt.polAt {w : World} {e0 p0 m0 k0 f0 c0 : Option Addr} {e1 p1 m1 k1 f1 c1 : Nat} {R : Prx} {B : Nat} (h : PxAt w ⟨.slice e0 R.ents.length e1, .slice p0 R.pol.win.length p1, .slice m0 R.pol.main.length m1, .slice k0 R.pol.sk.rows.length k1, .slice f0 R.fes.length f1, .slice c0 R.cls.length c1⟩ R B) : PolAt w p0 m0 k0 R.pol B := ⟨StrsV.at' h.pw, StrsV.at' h.pm, SSV.at' h.pk⟩
theorem PxSz.ents {R : Prx} (h : PxSz R) : ∀ e ∈ R.ents, e.key.size ≤ 1048576 ∧ e.bd.size ≤ 1048576 := fun c hc => by
  obtain ⟨j, hj, rfl⟩ := List.getElem_of_mem hc
  have h1 := ewg_mem hj
  have h2 : wgtX R ≤ 1048576 := h
  unfold wgtX at h2
  unfold En.wg at h1
  omega
theorem PxSz.fes {R : Prx} (h : PxSz R) : ∀ e ∈ R.fes, e.key.size ≤ 1048576 ∧ e.tx.size ≤ 1048576 := fun c hc => by
  obtain ⟨j, hj, rfl⟩ := List.getElem_of_mem hc
  have h1 := ftwg_mem hj
  have h2 : wgtX R ≤ 1048576 := h
  unfold wgtX at h2
  unfold Fet.wg at h1
  omega
theorem PxSz.cls {R : Prx} (h : PxSz R) : ∀ e ∈ R.cls, e.key.size ≤ 1048576 ∧ e.got.size ≤ 1048576 := fun c hc => by
  obtain ⟨j, hj, rfl⟩ := List.getElem_of_mem hc
  have h1 := clwg_mem hj
  have h2 : wgtX R ≤ 1048576 := h
  unfold wgtX at h2
  unfold Cli.wg at h1
  omega
/-- There is room for as many fetches as there are. -/
def RoomF (v : Value) (n : Nat) : Prop := ∀ a k c, v = .slice a k c → n ≤ c
theorem PxOwn.roomF {w : World} {lo hi : Nat} {X : Pc} {R : Prx} (h : PxOwn w lo hi X R) : RoomF X.f R.fes.length := fun a k c e => by
  have h' := h.f
  rw [e] at h'
  rcases h'.2 with ⟨e1, hl⟩ | ⟨g', cp, cur, e1, _, _, hle, _⟩
  · omega
  · simp only [Value.slice.injEq] at e1
    omega
end Go.Proofs.Ytpgcfgbhkodmeaa
