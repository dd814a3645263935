/- Texts that stand in one: PxOneImpl, OneEachImpl. -/
import Derived.Test.YtpgcfgbhkodmeaaFetPlusJ
import Derived.Test.YtpgcfgbhkodmeaaPxSlicesJ
import Derived.Lib.QuietBelow
import Derived.BigQuiet
namespace Go.Proofs.Ytpgcfgbhkodmeaa
open Go.RowKit Go.Sort
theorem quietV {P : Program} {f : FuncId} {args : Array Value} {W : World} {v : Value} (h : ∀ w', Below W.heap.size W w' → Calls P f args w' fun e w'' => e = .returned v ∧ Below w'.heap.size w' w'') (d : Nat) (os : Array Obj) :
    Calls P f args (grow (redrawn W d) os) fun e w'' => e = .returned v ∧ ∃ p : Regrown, w'' = grow (redrawn W p.d) p.os := Calls.regrown_of (h _ (below_regrown W d os))
theorem FetAt.take {w : World} {a : Option Addr} {L : List Fet} {B : Nat} (h : FetAt w a L B) (k : Nat) : FetAt w a (L.take k) B := fun j hj => by
  have hl : j < L.length := by rw [List.length_take] at hj; omega
  obtain ⟨g, o, e, hg, h1⟩ := h j hl
  refine ⟨g, o, e, hg, ?_⟩
  rw [List.getElem_take]
  exact h1
set_option maxRecDepth 100000 in
set_option maxHeartbeats 8000000 in
theorem implOne_any (w : World) (a : Option Addr) (c : Nat) (L : List Fet) (hE : FetAt w a L w.heap.size) (hc : L.length ≤ c) (hm : L.length ≤ 1048576) (hz : ∀ f ∈ L, f.key.size ≤ 1048576) :
    Calls Try.prog 29 #[.slice a L.length c] w fun e w' => e = .returned (.bool (oneX L)) ∧ Below w.heap.size w w' := by
  have HE : Hid (FetAt w a L w.heap.size) := hE
  have HZ : Hid (∀ f ∈ L, f.key.size ≤ 1048576) := hz
  have HC : Hid (L.length ≤ c) := hc
  have HL : Hid (L.length ≤ 1048576) := hm
  obtain ⟨res, hres⟩ : ∃ r, oneX L = r := ⟨_, rfl⟩
  have HO2 : Hid (res = allT (oneF L) L.length) := hres.symm
  rw [hres]
  clear hE hz hres hc hm
  go_enter Try.func29, Try.ntmps29
  go_wp2_with fail
  go_loopw [7] (fun i wr => Box (∃ k : Nat, k ≤ L.length ∧ i = .int .i64 k ∧ allT (oneF L) k = true ∧ Below w.heap.size w wr))
    (fun i _ => L.length - (intOf i).toNat)
  case atStart => exact ⟨⟨0, by omega, rfl, rfl, Below.refl _ _⟩⟩
  case round =>
    obtain ⟨k, hk, rfl, hno, hbr⟩ := hrel.out
    obtain ⟨wo, hwo⟩ : ∃ wo, wo = wr := ⟨_, rfl⟩
    subst hwo
    have HN : Hid (allT (oneF L) k = true) := hno
    have HBO : Hid (Below w.heap.size w wo) := hbr
    clear hrel hno hbr
    have hL20 := HL.out
    by_cases hlt : k < L.length
    · obtain ⟨gg, offg, hga, _, q0, q1, q2, q3, q4⟩ := (HE.out.on HBO.out) k hlt
      obtain ⟨f, hf⟩ : ∃ f, L[k] = f := ⟨_, rfl⟩
      have hgd : L.getD k zFet = f := by rw [getD_of hlt, hf]
      rw [hf] at q0 q1 q2 q3 q4
      have hfs := HZ.out f (by rw [← hf]; exact List.getElem_mem hlt)
      have HK : Hid (k < L.length) := hlt
      have hi1 : (0 : Int) ≤ (k : Int) := by omega
      have hi3 : (k : Int) < (L.length : Int) := by omega
      obtain ⟨w3, hw3⟩ : ∃ x, wo.alloc (.cells #[.string f.key, .string f.tx, .int .i64 f.st, .int .i64 f.lf, .int .i64 f.sto] 67) = x := ⟨_, rfl⟩
      have hb3 : Below wo.heap.size wo w3 := by rw [← hw3]; exact (Below.refl _ _).alloc (Nat.le_refl _) _
      have hRB : w3.heap[wo.heap.size]? = some (.cells #[.string f.key, .string f.tx, .int .i64 f.st, .int .i64 f.lf, .int .i64 f.sto] 67 (0, 0)) := by rw [← hw3]; exact heap_alloc_new _ _
      have HB3 : Hid (Below w.heap.size w w3) := HBO.out.trans (hb3.mono HBO.out.size)
      have HS3 := HB3
      have HW3 : Hid (wo.alloc (.cells #[.string f.key, .string f.tx, .int .i64 f.st, .int .i64 f.lf, .int .i64 f.sto] 67) = w3) := hw3
      have g0 : w3.cell? ⟨wo.heap.size, 0, none⟩ = some (.string f.key) := by rw [cell_of_row w3 wo.heap.size 0 _ _ (0, 0) hRB]; rfl
      have g1 : w3.cell? ⟨wo.heap.size, 1, none⟩ = some (.string f.tx) := by rw [cell_of_row w3 wo.heap.size 1 _ _ (0, 0) hRB]; rfl
      have g2 : w3.cell? ⟨wo.heap.size, 2, none⟩ = some (.int .i64 f.st) := by rw [cell_of_row w3 wo.heap.size 2 _ _ (0, 0) hRB]; rfl
      have g3 : w3.cell? ⟨wo.heap.size, 3, none⟩ = some (.int .i64 f.lf) := by rw [cell_of_row w3 wo.heap.size 3 _ _ (0, 0) hRB]; rfl
      have g4 : w3.cell? ⟨wo.heap.size, 4, none⟩ = some (.int .i64 f.sto) := by rw [cell_of_row w3 wo.heap.size 4 _ _ (0, 0) hRB]; rfl
      have z0 := cell_regrown g0
      have z2 := cell_regrown g2
      have HSu : Hid (allT (oneF L) (k + 1) = !((f.st == 1) && (L.take k).any (openP f.key))) := by
        show _ = _
        unfold allT
        rw [HN.out, Bool.true_and]
        unfold oneF
        rw [hgd]
      have HF : Hid (allT (oneF L) (k + 1) = false → res = false) := fun h => by rw [HO2.out]; exact allT_down (k := k) hlt (by unfold allT at h; rw [HN.out] at h; simpa using h)
      subst hga
      clear hf hgd hw3 hlt hRB hb3
      cases hst : (f.st == 1) with
      | false =>
        have HPO : Hid (allT (oneF L) (k + 1) = true) := by show _ = _; rw [HSu.out, hst]; simp
        go_wp2_with fail
        rw [HW3.out]
        refine wp_region_quiet_below (by kernel_rfl) (by kernel_rfl) ?_
        repeat (first | go_big_quiet_step (fail) | quiet_step (fail))
        refine wpQuiet_nil ?_
        intro _ hw'
        obtain ⟨⟨dq, osq⟩, hw''⟩ := hw'
        subst hw''
        go_wp2_with fail
        go_roundw
        case rel =>
          try ((repeat apply Exists.intro); refine ⟨?_, rfl⟩)
          exact ⟨⟨k + 1, by have := HK.out; omega, by go_num, HPO.out, HS3.out.trans ((below_regrown w3 dq osq).mono HS3.out.size)⟩⟩
        case measure => have := HK.out; simp [intOf]; omega
      | true =>
        have cO := quietV (W := w3) (fun w' hb => openPlace_any w' (some ⟨gg, offg, none⟩) c (L.take k) f.key (((HE.out.on HB3.out).on hb).take k) (by rw [List.length_take]; omega))
        have htk : (L.take k).length = k := by rw [List.length_take]; have := HK.out; omega
        rw [htk] at cO
        have HX := idxX_cases (openP f.key) (L.take k)
        obtain ⟨q, hq⟩ : ∃ q, idxX (openP f.key) (L.take k) = q := ⟨_, rfl⟩
        rw [hq] at cO HX
        have hany : (L.take k).any (openP f.key) = decide (0 ≤ q) := by
          rcases HX with ⟨j, hj, rfl, hp, _⟩ | ⟨rfl, hn⟩
          · rw [decide_eq_true (by omega), List.any_eq_true]
            exact ⟨_, List.getElem_mem hj, hp⟩
          · rw [decide_eq_false (by omega), List.any_eq_false]
            intro x hx
            rw [hn x hx]
            decide
        have hi4 : (k : Int) ≤ (c : Int) := by have := HK.out; have := HC.out; omega
        obtain ⟨x9, hx9⟩ : ∃ b, decide (0 ≤ q) = b := ⟨_, rfl⟩
        have hS : Hid (allT (oneF L) (k + 1) = !x9) := by show _ = _; rw [HSu.out, hst, hany, hx9]; simp
        clear hany HX hq htk HSu
        cases x9 with
        | false =>
          have HPO : Hid (allT (oneF L) (k + 1) = true) := hS
          go_wp2_with fail
          rw [HW3.out]
          refine wp_region_quiet_below (by kernel_rfl) (by kernel_rfl) ?_
          repeat (first | go_big_quiet_step (with_reducible exact cO _ _) | quiet_step (with_reducible exact cO _ _))
          refine wpQuiet_nil ?_
          intro _ hw'
          obtain ⟨⟨dq, osq⟩, hw''⟩ := hw'
          subst hw''
          go_wp2_with fail
          go_roundw
          case rel =>
            try ((repeat apply Exists.intro); refine ⟨?_, rfl⟩)
            exact ⟨⟨k + 1, by have := HK.out; omega, by go_num, HPO.out, HS3.out.trans ((below_regrown w3 dq osq).mono HS3.out.size)⟩⟩
          case measure => have := HK.out; simp [intOf]; omega
        | true =>
          have HPO : Hid (allT (oneF L) (k + 1) = false) := hS
          go_wp2_with fail
          rw [HW3.out]
          refine wp_region_quiet_below (by kernel_rfl) (by kernel_rfl) ?_
          repeat (first | go_big_quiet_step (with_reducible exact cO _ _) | quiet_step (with_reducible exact cO _ _))
          refine wpQuiet_nil ?_
          intro _ hw'
          obtain ⟨⟨dq, osq⟩, hw''⟩ := hw'
          subst hw''
          go_wp2_with fail
          go_ret
          exact ⟨by rw [HF.out HPO.out]; rfl, HB3.out.trans ((below_regrown w3 dq osq).mono HB3.out.size)⟩
    · have hi3 : ¬ (k : Int) < (L.length : Int) := by omega
      have HR : Hid (res = true) := by show _ = _; rw [HO2.out, show L.length = k by omega, HN.out]
      clear hlt hk
      go_wp2_with fail
      go_ret
      exact ⟨by rw [HR.out]; rfl, HBO.out⟩
end Go.Proofs.Ytpgcfgbhkodmeaa

namespace Go.Proofs.Ytpgcfgbhkodmeaa
open Go.RowKit Go.Sort
set_option maxRecDepth 100000 in
set_option maxHeartbeats 4000000 in
theorem implOneEach_any (w : World) (X : Pc) (R : Prx) (hA : PxAt w X R w.heap.size) (hsz : PxSz R) (hcap : RoomF X.f R.fes.length) :
    Calls Try.prog 10 #[.agg #[.int .i64 R.now, X.e, X.w, X.m, X.k, .int .i64 R.pol.sk.added, X.f, X.c, .int .i64 R.hits]] w fun e w' => e = .returned (.bool (oneX R.fes)) ∧ Below w.heap.size w w' := by
  obtain ⟨e0, e1, p0, p1, m0, m1, k0, k1, f0, f1, c0, c1, rfl⟩ := hA.slices
  dsimp only at hcap ⊢
  obtain ⟨w1, hw1⟩ : ∃ x, w.alloc (.cells #[.int .i64 R.now, .slice e0 R.ents.length e1, .slice p0 R.pol.win.length p1, .slice m0 R.pol.main.length m1, .slice k0 R.pol.sk.rows.length k1, .int .i64 R.pol.sk.added, .slice f0 R.fes.length f1, .slice c0 R.cls.length c1, .int .i64 R.hits] 42) = x := ⟨_, rfl⟩
  have hb1 : Below w.heap.size w w1 := by rw [← hw1]; exact (Below.refl _ _).alloc (Nat.le_refl _) _
  have HW : Hid (w.alloc (.cells #[.int .i64 R.now, .slice e0 R.ents.length e1, .slice p0 R.pol.win.length p1, .slice m0 R.pol.main.length m1, .slice k0 R.pol.sk.rows.length k1, .int .i64 R.pol.sk.added, .slice f0 R.fes.length f1, .slice c0 R.cls.length c1, .int .i64 R.hits] 42) = w1) := hw1
  have hF := (hA.on hb1).f
  obtain ⟨ff0, ff1, hfe, hF⟩ := hF
  dsimp only at hfe
  simp only [Value.slice.injEq] at hfe
  obtain ⟨rfl, _, rfl⟩ := hfe
  have c1 := implOne_any w1 f0 f1 R.fes hF (hcap _ _ _ rfl) hsz.parts.2.2.1 (fun f hf => (hsz.fes f hf).1)
  clear hw1 hA hsz hcap hF
  go_enter Try.func10, Try.ntmps10
  go_wp2_with fail
  rw [HW.out]
  refine c1.mono ?_
  rintro e w2 ⟨rfl, hb2⟩
  go_wp2_with fail
  go_ret
  exact ⟨rfl, hb1.trans (hb2.mono hb1.size)⟩
end Go.Proofs.Ytpgcfgbhkodmeaa
