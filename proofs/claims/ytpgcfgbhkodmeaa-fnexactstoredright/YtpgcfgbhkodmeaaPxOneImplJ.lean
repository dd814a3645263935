/- Texts that stand in one: PxOneImpl, StoredSpec. -/
import Derived.Test.YtpgcfgbhkodmeaaIdxFetJ
import Derived.Lib.QuietBelow
import Derived.BigQuiet
import Derived.Test.YtpgcfgbhkodmeaaStoredPlainJ
import Derived.Test.YtpgcfgbhkodmeaaWldBase
namespace Go.Proofs.Ytpgcfgbhkodmeaa
open Go.RowKit Go.Sort
theorem quietV {P : Program} {f : FuncId} {args : Array Value} {W : World} {v : Value} (h : ∀ w', Below W.heap.size W w' → Calls P f args w' fun e w'' => e = .returned v ∧ Below w'.heap.size w' w'') (d : Nat) (os : Array Obj) :
    Calls P f args (grow (redrawn W d) os) fun e w'' => e = .returned v ∧ ∃ p : Regrown, w'' = grow (redrawn W p.d) p.os := Calls.regrown_of (h _ (below_regrown W d os))
theorem FetAt.take {w : World} {a : Option Addr} {L : List Fet} {B : Nat} (h : FetAt w a L B) (k : Nat) : FetAt w a (L.take k) B := fun j hj => by
  have hl : j < L.length := by rw [List.length_take] at hj; omega
  obtain ⟨g, o, e, hg, h1⟩ := h j hl
  refine ⟨g, o, e, hg, ?_⟩
  rw [List.getElem_take]
  exact h1
set_option maxRecDepth 100000 in
set_option maxHeartbeats 8000000 in
theorem implOne_any (w : World) (a : Option Addr) (c : Nat) (L : List Fet) (hE : FetAt w a L w.heap.size) (hc : L.length ≤ c) (hm : L.length ≤ 1048576) (hz : ∀ f ∈ L, f.key.size ≤ 1048576) :
    Calls Try.prog 29 #[.slice a L.length c] w fun e w' => e = .returned (.bool (oneX L)) ∧ Below w.heap.size w w' := by
  have HE : Hid (FetAt w a L w.heap.size) := hE
  have HZ : Hid (∀ f ∈ L, f.key.size ≤ 1048576) := hz
  have HC : Hid (L.length ≤ c) := hc
  have HL : Hid (L.length ≤ 1048576) := hm
  obtain ⟨res, hres⟩ : ∃ r, oneX L = r := ⟨_, rfl⟩
  have HO2 : Hid (res = allT (oneF L) L.length) := hres.symm
  rw [hres]
  clear hE hz hres hc hm
  go_enter Try.func29, Try.ntmps29
  go_wp2_with fail
  go_loopw [7] (fun i wr => Box (∃ k : Nat, k ≤ L.length ∧ i = .int .i64 k ∧ allT (oneF L) k = true ∧ Below w.heap.size w wr))
    (fun i _ => L.length - (intOf i).toNat)
  case atStart => exact ⟨⟨0, by omega, rfl, rfl, Below.refl _ _⟩⟩
  case round =>
    obtain ⟨k, hk, rfl, hno, hbr⟩ := hrel.out
    obtain ⟨wo, hwo⟩ : ∃ wo, wo = wr := ⟨_, rfl⟩
    subst hwo
    have HN : Hid (allT (oneF L) k = true) := hno
    have HBO : Hid (Below w.heap.size w wo) := hbr
    clear hrel hno hbr
    have hL20 := HL.out
    by_cases hlt : k < L.length
    · obtain ⟨gg, offg, hga, _, q0, q1, q2, q3, q4⟩ := (HE.out.on HBO.out) k hlt
      obtain ⟨f, hf⟩ : ∃ f, L[k] = f := ⟨_, rfl⟩
      have hgd : L.getD k zFet = f := by rw [getD_of hlt, hf]
      rw [hf] at q0 q1 q2 q3 q4
      have hfs := HZ.out f (by rw [← hf]; exact List.getElem_mem hlt)
      have HK : Hid (k < L.length) := hlt
      have hi1 : (0 : Int) ≤ (k : Int) := by omega
      have hi3 : (k : Int) < (L.length : Int) := by omega
      obtain ⟨w3, hw3⟩ : ∃ x, wo.alloc (.cells #[.string f.key, .string f.tx, .int .i64 f.st, .int .i64 f.lf, .int .i64 f.sto] 67) = x := ⟨_, rfl⟩
      have hb3 : Below wo.heap.size wo w3 := by rw [← hw3]; exact (Below.refl _ _).alloc (Nat.le_refl _) _
      have hRB : w3.heap[wo.heap.size]? = some (.cells #[.string f.key, .string f.tx, .int .i64 f.st, .int .i64 f.lf, .int .i64 f.sto] 67 (0, 0)) := by rw [← hw3]; exact heap_alloc_new _ _
      have HB3 : Hid (Below w.heap.size w w3) := HBO.out.trans (hb3.mono HBO.out.size)
      have HS3 := HB3
      have HW3 : Hid (wo.alloc (.cells #[.string f.key, .string f.tx, .int .i64 f.st, .int .i64 f.lf, .int .i64 f.sto] 67) = w3) := hw3
      have g0 : w3.cell? ⟨wo.heap.size, 0, none⟩ = some (.string f.key) := by rw [cell_of_row w3 wo.heap.size 0 _ _ (0, 0) hRB]; rfl
      have g1 : w3.cell? ⟨wo.heap.size, 1, none⟩ = some (.string f.tx) := by rw [cell_of_row w3 wo.heap.size 1 _ _ (0, 0) hRB]; rfl
      have g2 : w3.cell? ⟨wo.heap.size, 2, none⟩ = some (.int .i64 f.st) := by rw [cell_of_row w3 wo.heap.size 2 _ _ (0, 0) hRB]; rfl
      have g3 : w3.cell? ⟨wo.heap.size, 3, none⟩ = some (.int .i64 f.lf) := by rw [cell_of_row w3 wo.heap.size 3 _ _ (0, 0) hRB]; rfl
      have g4 : w3.cell? ⟨wo.heap.size, 4, none⟩ = some (.int .i64 f.sto) := by rw [cell_of_row w3 wo.heap.size 4 _ _ (0, 0) hRB]; rfl
      have z0 := cell_regrown g0
      have z2 := cell_regrown g2
      have HSu : Hid (allT (oneF L) (k + 1) = !((f.st == 1) && (L.take k).any (openP f.key))) := by
        show _ = _
        unfold allT
        rw [HN.out, Bool.true_and]
        unfold oneF
        rw [hgd]
      have HF : Hid (allT (oneF L) (k + 1) = false → res = false) := fun h => by rw [HO2.out]; exact allT_down (k := k) hlt (by unfold allT at h; rw [HN.out] at h; simpa using h)
      subst hga
      clear hf hgd hw3 hlt hRB hb3
      cases hst : (f.st == 1) with
      | false =>
        have HPO : Hid (allT (oneF L) (k + 1) = true) := by show _ = _; rw [HSu.out, hst]; simp
        go_wp2_with fail
        rw [HW3.out]
        refine wp_region_quiet_below (by kernel_rfl) (by kernel_rfl) ?_
        repeat (first | go_big_quiet_step (fail) | quiet_step (fail))
        refine wpQuiet_nil ?_
        intro _ hw'
        obtain ⟨⟨dq, osq⟩, hw''⟩ := hw'
        subst hw''
        go_wp2_with fail
        go_roundw
        case rel =>
          try ((repeat apply Exists.intro); refine ⟨?_, rfl⟩)
          exact ⟨⟨k + 1, by have := HK.out; omega, by go_num, HPO.out, HS3.out.trans ((below_regrown w3 dq osq).mono HS3.out.size)⟩⟩
        case measure => have := HK.out; simp [intOf]; omega
      | true =>
        have cO := quietV (W := w3) (fun w' hb => openPlace_any w' (some ⟨gg, offg, none⟩) c (L.take k) f.key (((HE.out.on HB3.out).on hb).take k) (by rw [List.length_take]; omega))
        have htk : (L.take k).length = k := by rw [List.length_take]; have := HK.out; omega
        rw [htk] at cO
        have HX := idxX_cases (openP f.key) (L.take k)
        obtain ⟨q, hq⟩ : ∃ q, idxX (openP f.key) (L.take k) = q := ⟨_, rfl⟩
        rw [hq] at cO HX
        have hany : (L.take k).any (openP f.key) = decide (0 ≤ q) := by
          rcases HX with ⟨j, hj, rfl, hp, _⟩ | ⟨rfl, hn⟩
          · rw [decide_eq_true (by omega), List.any_eq_true]
            exact ⟨_, List.getElem_mem hj, hp⟩
          · rw [decide_eq_false (by omega), List.any_eq_false]
            intro x hx
            rw [hn x hx]
            decide
        have hi4 : (k : Int) ≤ (c : Int) := by have := HK.out; have := HC.out; omega
        obtain ⟨x9, hx9⟩ : ∃ b, decide (0 ≤ q) = b := ⟨_, rfl⟩
        have hS : Hid (allT (oneF L) (k + 1) = !x9) := by show _ = _; rw [HSu.out, hst, hany, hx9]; simp
        clear hany HX hq htk HSu
        cases x9 with
        | false =>
          have HPO : Hid (allT (oneF L) (k + 1) = true) := hS
          go_wp2_with fail
          rw [HW3.out]
          refine wp_region_quiet_below (by kernel_rfl) (by kernel_rfl) ?_
          repeat (first | go_big_quiet_step (with_reducible exact cO _ _) | quiet_step (with_reducible exact cO _ _))
          refine wpQuiet_nil ?_
          intro _ hw'
          obtain ⟨⟨dq, osq⟩, hw''⟩ := hw'
          subst hw''
          go_wp2_with fail
          go_roundw
          case rel =>
            try ((repeat apply Exists.intro); refine ⟨?_, rfl⟩)
            exact ⟨⟨k + 1, by have := HK.out; omega, by go_num, HPO.out, HS3.out.trans ((below_regrown w3 dq osq).mono HS3.out.size)⟩⟩
          case measure => have := HK.out; simp [intOf]; omega
        | true =>
          have HPO : Hid (allT (oneF L) (k + 1) = false) := hS
          go_wp2_with fail
          rw [HW3.out]
          refine wp_region_quiet_below (by kernel_rfl) (by kernel_rfl) ?_
          repeat (first | go_big_quiet_step (with_reducible exact cO _ _) | quiet_step (with_reducible exact cO _ _))
          refine wpQuiet_nil ?_
          intro _ hw'
          obtain ⟨⟨dq, osq⟩, hw''⟩ := hw'
          subst hw''
          go_wp2_with fail
          go_ret
          exact ⟨by rw [HF.out HPO.out]; rfl, HB3.out.trans ((below_regrown w3 dq osq).mono HB3.out.size)⟩
    · have hi3 : ¬ (k : Int) < (L.length : Int) := by omega
      have HR : Hid (res = true) := by show _ = _; rw [HO2.out, show L.length = k by omega, HN.out]
      clear hlt hk
      go_wp2_with fail
      go_ret
      exact ⟨by rw [HR.out]; rfl, HBO.out⟩
end Go.Proofs.Ytpgcfgbhkodmeaa

namespace Go.Proofs.Ytpgcfgbhkodmeaa
open Go.RowKit Go.Sort
set_option maxRecDepth 100000 in
set_option maxHeartbeats 4000000 in
theorem specStored_any (w : World) (X : Wc) (R : Wld) (hA : WAt w X R w.heap.size) (hsz : WSz R) :
    Calls Try.prog 13 #[.agg #[.int .i64 R.px.now, X.x.e, X.x.w, X.x.m, X.x.k, .int .i64 R.px.pol.sk.added, X.x.f, X.x.c, .int .i64 R.px.hits, X.d, X.n, X.b]] w fun e w' => e = .returned (.bool (storedX R.px.ents R.bd)) ∧ Below w.heap.size w w' := by
  obtain ⟨w1, hw1⟩ : ∃ x, w.alloc (.cells #[.int .i64 R.px.now, X.x.e, X.x.w, X.x.m, X.x.k, .int .i64 R.px.pol.sk.added, X.x.f, X.x.c, .int .i64 R.px.hits, X.d, X.n, X.b] 58) = x := ⟨_, rfl⟩
  have hb1 : Below w.heap.size w w1 := by rw [← hw1]; exact (Below.refl _ _).alloc (Nat.le_refl _) _
  have hB1 : TB w1 w.heap.size 58 (.int .i64 R.px.now) X.x.e X.x.w X.x.m X.x.k (.int .i64 R.px.pol.sk.added) X.x.f X.x.c (.int .i64 R.px.hits) X.d X.n X.b := by rw [← hw1]; exact TB.new _ _ _ _ _ _ _ _ _ _ _ _ _ _
  have hel : R.px.ents.length ≤ 1048576 := hsz.parts.1.parts.1
  have hbl : R.bd.length ≤ 1048576 := hsz.parts.2.2.2
  obtain ⟨ea, ec, hxe, hE0⟩ := hA.x.e
  obtain ⟨ba, bc, hxb, hD0⟩ := hA.b
  have HBX : Hid (∀ W, Below w1.heap.size w1 W → W.cell? ⟨w.heap.size, 1, none⟩ = some (.slice ea R.px.ents.length ec) ∧ W.cell? ⟨w.heap.size, 11, none⟩ = some (.slice ba R.bd.length bc)) := fun W h => by
    have h1 := (hB1.on h).cells
    rw [hxe, hxb] at h1
    exact ⟨h1.2.1, h1.2.2.2.2.2.2.2.2.2.2.2⟩
  have HEA : Hid (NAt w1 ea R.px.ents w1.heap.size) := hE0.on hb1
  have HBA : Hid (NAt w1 ba R.bd w1.heap.size) := hD0.on hb1
  have HB1 : Hid (Below w.heap.size w w1) := hb1
  have HW : Hid (w.alloc (.cells #[.int .i64 R.px.now, X.x.e, X.x.w, X.x.m, X.x.k, .int .i64 R.px.pol.sk.added, X.x.f, X.x.c, .int .i64 R.px.hits, X.d, X.n, X.b] 58) = w1) := hw1
  obtain ⟨E, hEE⟩ : ∃ E, R.px.ents = E := ⟨_, rfl⟩
  obtain ⟨B, hBB⟩ : ∃ B, R.bd = B := ⟨_, rfl⟩
  rw [hEE] at HBX HEA hel ⊢
  rw [hBB] at HBX HBA hbl ⊢
  have HL : Hid (E.length ≤ 1048576 ∧ B.length ≤ 1048576) := ⟨hel, hbl⟩
  obtain ⟨res, hres⟩ : ∃ r, storedX E B = r := ⟨_, rfl⟩
  have HE : Hid (storedX E B = res) := hres
  rw [hres]
  clear hw1 hb1 hB1 hE0 hD0 hres hA hEE hBB hxe hxb hel hbl hsz
  go_enter Try.func13, Try.ntmps13
  go_wp2_with fail
  rw [HW.out]
  go_loopw [3] (fun i wr => Box (∃ (k : Nat), k ≤ E.length ∧ i = .int .i64 k ∧ allT (storedF E B) k = true ∧ Below w1.heap.size w1 wr))
    (fun i _ => E.length - (intOf i).toNat)
  case atStart => exact ⟨⟨0, by omega, rfl, rfl, Below.refl _ _⟩⟩
  case round =>
    obtain ⟨k, hk, rfl, hno, hbr⟩ := hrel.out
    obtain ⟨wo, hwo⟩ : ∃ wo, wo = wr := ⟨_, rfl⟩
    subst hwo
    have HN : Hid (allT (storedF E B) k = true) := hno
    have HBO : Hid (Below w1.heap.size w1 wo) := hbr
    clear hrel hno hbr
    have hL20 := HL.out.1
    obtain ⟨x1, x11⟩ := HBX.out wo HBO.out
    by_cases hlt : k < E.length
    · obtain ⟨g, off, rfl, hg, q0, q1, q2, q3⟩ := (HEA.out.on HBO.out) k hlt
      obtain ⟨f, hf⟩ : ∃ f, E[k] = f := ⟨_, rfl⟩
      rw [hf] at q0 q1 q2 q3
      have cI := quietV (W := wo) (fun w' hb => l18In_any w' ba bc B f ((HBA.out.on HBO.out).on hb) HL.out.2)
      obtain ⟨bb, hbb⟩ : ∃ bb, B.any (eqEn f) = bb := ⟨_, rfl⟩
      rw [hbb] at cI
      have hsf : storedF E B k = bb := by unfold storedF; rw [getD_of hlt, hf, hbb]
      have HS : Hid (allT (storedF E B) (k + 1) = bb) := by show _ = _; unfold allT; rw [HN.out, hsf, Bool.true_and]
      have HF : Hid (bb = false → res = false) := fun h => by rw [← HE.out]; exact allT_down (k := k) hlt (by rw [hsf]; exact h)
      have HK : Hid (k < E.length) := hlt
      have y0 := cell_regrown q0
      have y1 := cell_regrown q1
      have y2 := cell_regrown q2
      have y3 := cell_regrown q3
      have z1 := cell_regrown x1
      have z11 := cell_regrown x11
      have hi1 : (0 : Int) ≤ (k : Int) := by omega
      have hi2 : (k : Int) < (E.length : Int) := by omega
      clear hf hlt hbb hsf q0 q1 q2 q3
      cases bb with
      | true =>
        go_wp2_with fail
        refine wp_region_quiet_below (by kernel_rfl) (by kernel_rfl) ?_
        repeat (first | go_big_quiet_step (with_reducible exact cI _ _) | quiet_step (with_reducible exact cI _ _))
        refine wpQuiet_nil ?_
        intro _ hw'
        obtain ⟨⟨dq, osq⟩, hw''⟩ := hw'
        subst hw''
        go_wp2_with fail
        go_roundw
        case rel =>
          try ((repeat apply Exists.intro); refine ⟨?_, rfl⟩)
          exact ⟨⟨k + 1, by have := HK.out; omega, by go_num, HS.out, HBO.out.trans ((below_regrown wo dq osq).mono HBO.out.size)⟩⟩
        case measure => have := HK.out; simp [intOf]; omega
      | false =>
        have HR : Hid (res = false) := HF.out rfl
        go_wp2_with fail
        refine wp_region_quiet_below (by kernel_rfl) (by kernel_rfl) ?_
        repeat (first | go_big_quiet_step (with_reducible exact cI _ _) | quiet_step (with_reducible exact cI _ _))
        refine wpQuiet_nil ?_
        intro _ hw'
        obtain ⟨⟨dq, osq⟩, hw''⟩ := hw'
        subst hw''
        go_wp2_with fail
        go_ret
        exact ⟨by rw [HR.out]; rfl, HB1.out.trans ((HBO.out.trans ((below_regrown wo dq osq).mono HBO.out.size)).mono HB1.out.size)⟩
    · have hi3 : ¬ (k : Int) < (E.length : Int) := by omega
      have HR : Hid (res = true) := by show _ = _; rw [← HE.out]; unfold storedX; rw [show E.length = k by omega, HN.out]
      clear hlt hk
      go_wp2_with fail
      go_ret
      exact ⟨by rw [HR.out]; rfl, HB1.out.trans (HBO.out.mono HB1.out.size)⟩
end Go.Proofs.Ytpgcfgbhkodmeaa
