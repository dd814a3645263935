/- Texts that stand in one: PxOneImpl, PxFetImpl. -/
import Derived.Test.YtpgcfgbhkodmeaaFetPlusJ
import Derived.Lib.QuietBelow
import Derived.BigQuiet
import Derived.Test.YtpgcfgbhkodmeaaVarJ
namespace Go.Proofs.Ytpgcfgbhkodmeaa
open Go.RowKit Go.Sort
theorem quietV {P : Program} {f : FuncId} {args : Array Value} {W : World} {v : Value} (h : ∀ w', Below W.heap.size W w' → Calls P f args w' fun e w'' => e = .returned v ∧ Below w'.heap.size w' w'') (d : Nat) (os : Array Obj) :
    Calls P f args (grow (redrawn W d) os) fun e w'' => e = .returned v ∧ ∃ p : Regrown, w'' = grow (redrawn W p.d) p.os := Calls.regrown_of (h _ (below_regrown W d os))
theorem FetAt.take {w : World} {a : Option Addr} {L : List Fet} {B : Nat} (h : FetAt w a L B) (k : Nat) : FetAt w a (L.take k) B := fun j hj => by
  have hl : j < L.length := by rw [List.length_take] at hj; omega
  obtain ⟨g, o, e, hg, h1⟩ := h j hl
  refine ⟨g, o, e, hg, ?_⟩
  rw [List.getElem_take]
  exact h1
set_option maxRecDepth 100000 in
set_option maxHeartbeats 8000000 in
theorem implOne_any (w : World) (a : Option Addr) (c : Nat) (L : List Fet) (hE : FetAt w a L w.heap.size) (hc : L.length ≤ c) (hm : L.length ≤ 1048576) (hz : ∀ f ∈ L, f.key.size ≤ 1048576) :
    Calls Try.prog 29 #[.slice a L.length c] w fun e w' => e = .returned (.bool (oneX L)) ∧ Below w.heap.size w w' := by
  have HE : Hid (FetAt w a L w.heap.size) := hE
  have HZ : Hid (∀ f ∈ L, f.key.size ≤ 1048576) := hz
  have HC : Hid (L.length ≤ c) := hc
  have HL : Hid (L.length ≤ 1048576) := hm
  obtain ⟨res, hres⟩ : ∃ r, oneX L = r := ⟨_, rfl⟩
  have HO2 : Hid (res = allT (oneF L) L.length) := hres.symm
  rw [hres]
  clear hE hz hres hc hm
  go_enter Try.func29, Try.ntmps29
  go_wp2_with fail
  go_loopw [7] (fun i wr => Box (∃ k : Nat, k ≤ L.length ∧ i = .int .i64 k ∧ allT (oneF L) k = true ∧ Below w.heap.size w wr))
    (fun i _ => L.length - (intOf i).toNat)
  case atStart => exact ⟨⟨0, by omega, rfl, rfl, Below.refl _ _⟩⟩
  case round =>
    obtain ⟨k, hk, rfl, hno, hbr⟩ := hrel.out
    obtain ⟨wo, hwo⟩ : ∃ wo, wo = wr := ⟨_, rfl⟩
    subst hwo
    have HN : Hid (allT (oneF L) k = true) := hno
    have HBO : Hid (Below w.heap.size w wo) := hbr
    clear hrel hno hbr
    have hL20 := HL.out
    by_cases hlt : k < L.length
    · obtain ⟨gg, offg, hga, _, q0, q1, q2, q3, q4⟩ := (HE.out.on HBO.out) k hlt
      obtain ⟨f, hf⟩ : ∃ f, L[k] = f := ⟨_, rfl⟩
      have hgd : L.getD k zFet = f := by rw [getD_of hlt, hf]
      rw [hf] at q0 q1 q2 q3 q4
      have hfs := HZ.out f (by rw [← hf]; exact List.getElem_mem hlt)
      have HK : Hid (k < L.length) := hlt
      have hi1 : (0 : Int) ≤ (k : Int) := by omega
      have hi3 : (k : Int) < (L.length : Int) := by omega
      obtain ⟨w3, hw3⟩ : ∃ x, wo.alloc (.cells #[.string f.key, .string f.tx, .int .i64 f.st, .int .i64 f.lf, .int .i64 f.sto] 67) = x := ⟨_, rfl⟩
      have hb3 : Below wo.heap.size wo w3 := by rw [← hw3]; exact (Below.refl _ _).alloc (Nat.le_refl _) _
      have hRB : w3.heap[wo.heap.size]? = some (.cells #[.string f.key, .string f.tx, .int .i64 f.st, .int .i64 f.lf, .int .i64 f.sto] 67 (0, 0)) := by rw [← hw3]; exact heap_alloc_new _ _
      have HB3 : Hid (Below w.heap.size w w3) := HBO.out.trans (hb3.mono HBO.out.size)
      have HS3 := HB3
      have HW3 : Hid (wo.alloc (.cells #[.string f.key, .string f.tx, .int .i64 f.st, .int .i64 f.lf, .int .i64 f.sto] 67) = w3) := hw3
      have g0 : w3.cell? ⟨wo.heap.size, 0, none⟩ = some (.string f.key) := by rw [cell_of_row w3 wo.heap.size 0 _ _ (0, 0) hRB]; rfl
      have g1 : w3.cell? ⟨wo.heap.size, 1, none⟩ = some (.string f.tx) := by rw [cell_of_row w3 wo.heap.size 1 _ _ (0, 0) hRB]; rfl
      have g2 : w3.cell? ⟨wo.heap.size, 2, none⟩ = some (.int .i64 f.st) := by rw [cell_of_row w3 wo.heap.size 2 _ _ (0, 0) hRB]; rfl
      have g3 : w3.cell? ⟨wo.heap.size, 3, none⟩ = some (.int .i64 f.lf) := by rw [cell_of_row w3 wo.heap.size 3 _ _ (0, 0) hRB]; rfl
      have g4 : w3.cell? ⟨wo.heap.size, 4, none⟩ = some (.int .i64 f.sto) := by rw [cell_of_row w3 wo.heap.size 4 _ _ (0, 0) hRB]; rfl
      have z0 := cell_regrown g0
      have z2 := cell_regrown g2
      have HSu : Hid (allT (oneF L) (k + 1) = !((f.st == 1) && (L.take k).any (openP f.key))) := by
        show _ = _
        unfold allT
        rw [HN.out, Bool.true_and]
        unfold oneF
        rw [hgd]
      have HF : Hid (allT (oneF L) (k + 1) = false → res = false) := fun h => by rw [HO2.out]; exact allT_down (k := k) hlt (by unfold allT at h; rw [HN.out] at h; simpa using h)
      subst hga
      clear hf hgd hw3 hlt hRB hb3
      cases hst : (f.st == 1) with
      | false =>
        have HPO : Hid (allT (oneF L) (k + 1) = true) := by show _ = _; rw [HSu.out, hst]; simp
        go_wp2_with fail
        rw [HW3.out]
        refine wp_region_quiet_below (by kernel_rfl) (by kernel_rfl) ?_
        repeat (first | go_big_quiet_step (fail) | quiet_step (fail))
        refine wpQuiet_nil ?_
        intro _ hw'
        obtain ⟨⟨dq, osq⟩, hw''⟩ := hw'
        subst hw''
        go_wp2_with fail
        go_roundw
        case rel =>
          try ((repeat apply Exists.intro); refine ⟨?_, rfl⟩)
          exact ⟨⟨k + 1, by have := HK.out; omega, by go_num, HPO.out, HS3.out.trans ((below_regrown w3 dq osq).mono HS3.out.size)⟩⟩
        case measure => have := HK.out; simp [intOf]; omega
      | true =>
        have cO := quietV (W := w3) (fun w' hb => openPlace_any w' (some ⟨gg, offg, none⟩) c (L.take k) f.key (((HE.out.on HB3.out).on hb).take k) (by rw [List.length_take]; omega))
        have htk : (L.take k).length = k := by rw [List.length_take]; have := HK.out; omega
        rw [htk] at cO
        have HX := idxX_cases (openP f.key) (L.take k)
        obtain ⟨q, hq⟩ : ∃ q, idxX (openP f.key) (L.take k) = q := ⟨_, rfl⟩
        rw [hq] at cO HX
        have hany : (L.take k).any (openP f.key) = decide (0 ≤ q) := by
          rcases HX with ⟨j, hj, rfl, hp, _⟩ | ⟨rfl, hn⟩
          · rw [decide_eq_true (by omega), List.any_eq_true]
            exact ⟨_, List.getElem_mem hj, hp⟩
          · rw [decide_eq_false (by omega), List.any_eq_false]
            intro x hx
            rw [hn x hx]
            decide
        have hi4 : (k : Int) ≤ (c : Int) := by have := HK.out; have := HC.out; omega
        obtain ⟨x9, hx9⟩ : ∃ b, decide (0 ≤ q) = b := ⟨_, rfl⟩
        have hS : Hid (allT (oneF L) (k + 1) = !x9) := by show _ = _; rw [HSu.out, hst, hany, hx9]; simp
        clear hany HX hq htk HSu
        cases x9 with
        | false =>
          have HPO : Hid (allT (oneF L) (k + 1) = true) := hS
          go_wp2_with fail
          rw [HW3.out]
          refine wp_region_quiet_below (by kernel_rfl) (by kernel_rfl) ?_
          repeat (first | go_big_quiet_step (with_reducible exact cO _ _) | quiet_step (with_reducible exact cO _ _))
          refine wpQuiet_nil ?_
          intro _ hw'
          obtain ⟨⟨dq, osq⟩, hw''⟩ := hw'
          subst hw''
          go_wp2_with fail
          go_roundw
          case rel =>
            try ((repeat apply Exists.intro); refine ⟨?_, rfl⟩)
            exact ⟨⟨k + 1, by have := HK.out; omega, by go_num, HPO.out, HS3.out.trans ((below_regrown w3 dq osq).mono HS3.out.size)⟩⟩
          case measure => have := HK.out; simp [intOf]; omega
        | true =>
          have HPO : Hid (allT (oneF L) (k + 1) = false) := hS
          go_wp2_with fail
          rw [HW3.out]
          refine wp_region_quiet_below (by kernel_rfl) (by kernel_rfl) ?_
          repeat (first | go_big_quiet_step (with_reducible exact cO _ _) | quiet_step (with_reducible exact cO _ _))
          refine wpQuiet_nil ?_
          intro _ hw'
          obtain ⟨⟨dq, osq⟩, hw''⟩ := hw'
          subst hw''
          go_wp2_with fail
          go_ret
          exact ⟨by rw [HF.out HPO.out]; rfl, HB3.out.trans ((below_regrown w3 dq osq).mono HB3.out.size)⟩
    · have hi3 : ¬ (k : Int) < (L.length : Int) := by omega
      have HR : Hid (res = true) := by show _ = _; rw [HO2.out, show L.length = k by omega, HN.out]
      clear hlt hk
      go_wp2_with fail
      go_ret
      exact ⟨by rw [HR.out]; rfl, HBO.out⟩
end Go.Proofs.Ytpgcfgbhkodmeaa

namespace Go.Proofs.Ytpgcfgbhkodmeaa
open Go.RowKit Go.Sort
theorem stB_any (x : Int) (w : World) : Calls Try.prog 84 #[.int .i64 x] w fun e w' => e = .returned (.bool (inB x 1 3)) ∧ w = w' := by
  by_cases h1 : x = 1
  · subst h1
    go_enter Try.func84, Try.ntmps84
    go_wp2
    go_ret
    exact ⟨rfl, rfl⟩
  · by_cases h2 : x = 2
    · subst h2
      go_enter Try.func84, Try.ntmps84
      go_wp2
      go_ret
      exact ⟨rfl, rfl⟩
    · have HP : Hid (inB x 1 3 = (x == 3)) := by
        show _ = _
        by_cases h3 : x = 3
        · subst h3; rfl
        · rw [inB_no (by omega)]; simp [h3]
      have e1 : (x == 1) = false := by simp [h1]
      have e2 : (x == 2) = false := by simp [h2]
      go_enter Try.func84, Try.ntmps84
      go_wp2
      go_ret
      exact ⟨by rw [HP.out]; rfl, rfl⟩
set_option maxRecDepth 100000 in
set_option maxHeartbeats 8000000 in
theorem implFetches_any (w : World) (a : Option Addr) (c : Nat) (L : List Fet) (now : Int) (hE : FetAt w a L w.heap.size) (hc : L.length ≤ c) (hz : ∀ f ∈ L, f.key.size ≤ 1048576) :
    Calls Try.prog 51 #[.slice a L.length c, .int .i64 now] w fun e w' => e = .returned (.bool (fesOkX now L)) ∧ Below w.heap.size w w' := by
  have HE : Hid (FetAt w a L w.heap.size) := hE
  have HZ : Hid (∀ f ∈ L, f.key.size ≤ 1048576) := hz
  have HC : Hid (L.length ≤ c) := hc
  obtain ⟨res, hres⟩ : ∃ r, fesOkX now L = r := ⟨_, rfl⟩
  have HO : Hid (res = (decide (L.length ≤ 20) && (allT (fetG now L) L.length && oneX L))) := by show _ = _; rw [← hres]; exact fesOkX_split now L
  rw [hres]
  clear hE hz hres hc
  go_enter Try.func51, Try.ntmps51
  by_cases hq : L.length ≤ 20
  case neg =>
    have HR : Hid (res = false) := by show _ = _; rw [HO.out, decide_eq_false hq]; rfl
    have hq' : (20 : Int) < (L.length : Int) := by omega
    clear hq
    go_wp2_with fail
    go_ret
    exact ⟨by rw [HR.out]; rfl, Below.refl _ _⟩
  have HO2 : Hid (res = (allT (fetG now L) L.length && oneX L)) := by show _ = _; rw [HO.out, decide_eq_true hq]; rfl
  have hq' : ¬ (20 : Int) < (L.length : Int) := by omega
  have HL : Hid (L.length ≤ 20) := hq
  clear hq HO
  go_wp2_with fail
  clear hq'
  go_loopw [12] (fun i wr => Box (∃ k : Nat, k ≤ L.length ∧ i = .int .i64 k ∧ allT (fetG now L) k = true ∧ Below w.heap.size w wr))
    (fun i _ => L.length - (intOf i).toNat)
  case atStart => exact ⟨⟨0, by omega, rfl, rfl, Below.refl _ _⟩⟩
  case round =>
    obtain ⟨k, hk, rfl, hno, hbr⟩ := hrel.out
    obtain ⟨wo, hwo⟩ : ∃ wo, wo = wr := ⟨_, rfl⟩
    subst hwo
    have HN : Hid (allT (fetG now L) k = true) := hno
    have HBO : Hid (Below w.heap.size w wo) := hbr
    clear hrel hno hbr
    have hL20 := HL.out
    by_cases hlt : k < L.length
    · obtain ⟨gg, offg, hga, _, q0, q1, q2, q3, q4⟩ := (HE.out.on HBO.out) k hlt
      obtain ⟨f, hf⟩ : ∃ f, L[k] = f := ⟨_, rfl⟩
      have hgd : L.getD k zFet = f := by rw [getD_of hlt, hf]
      rw [hf] at q0 q1 q2 q3 q4
      have hfs := HZ.out f (by rw [← hf]; exact List.getElem_mem hlt)
      have HK : Hid (k < L.length) := hlt
      have hi1 : (0 : Int) ≤ (k : Int) := by omega
      have hi3 : (k : Int) < (L.length : Int) := by omega
      obtain ⟨w3, hw3⟩ : ∃ x, wo.alloc (.cells #[.string f.key, .string f.tx, .int .i64 f.st, .int .i64 f.lf, .int .i64 f.sto] 67) = x := ⟨_, rfl⟩
      have hb3 : Below wo.heap.size wo w3 := by rw [← hw3]; exact (Below.refl _ _).alloc (Nat.le_refl _) _
      have hRB : w3.heap[wo.heap.size]? = some (.cells #[.string f.key, .string f.tx, .int .i64 f.st, .int .i64 f.lf, .int .i64 f.sto] 67 (0, 0)) := by rw [← hw3]; exact heap_alloc_new _ _
      have HB3 : Hid (Below w.heap.size w w3) := HBO.out.trans (hb3.mono HBO.out.size)
      have HS3 := HB3
      have HW3 : Hid (wo.alloc (.cells #[.string f.key, .string f.tx, .int .i64 f.st, .int .i64 f.lf, .int .i64 f.sto] 67) = w3) := hw3
      have g0 : w3.cell? ⟨wo.heap.size, 0, none⟩ = some (.string f.key) := by rw [cell_of_row w3 wo.heap.size 0 _ _ (0, 0) hRB]; rfl
      have g1 : w3.cell? ⟨wo.heap.size, 1, none⟩ = some (.string f.tx) := by rw [cell_of_row w3 wo.heap.size 1 _ _ (0, 0) hRB]; rfl
      have g2 : w3.cell? ⟨wo.heap.size, 2, none⟩ = some (.int .i64 f.st) := by rw [cell_of_row w3 wo.heap.size 2 _ _ (0, 0) hRB]; rfl
      have g3 : w3.cell? ⟨wo.heap.size, 3, none⟩ = some (.int .i64 f.lf) := by rw [cell_of_row w3 wo.heap.size 3 _ _ (0, 0) hRB]; rfl
      have g4 : w3.cell? ⟨wo.heap.size, 4, none⟩ = some (.int .i64 f.sto) := by rw [cell_of_row w3 wo.heap.size 4 _ _ (0, 0) hRB]; rfl
      have z0 := cell_regrown g0
      have z2 := cell_regrown g2
      have cK1 := keyE_any w3 f.key (by omega)
      have cK3 := stB_any f.st w3
      have cK4 := lifeE_any f.lf w3
      obtain ⟨x2, hx2⟩ : ∃ b, decide ((400 : Int) < (f.tx.size : Int)) = b := ⟨_, rfl⟩
      obtain ⟨x5, hx5⟩ : ∃ b, decide (f.sto < 0) = b := ⟨_, rfl⟩
      obtain ⟨x6, hx6⟩ : ∃ b, decide (now < f.sto) = b := ⟨_, rfl⟩
      have HSu : Hid (allT (fetG now L) (k + 1) = (enKey f.key && (!x2 && (inB f.st 1 3 && (inB f.lf 0 999999 && (!x5 && !x6)))))) := by
        show _ = _
        unfold allT
        rw [HN.out, Bool.true_and]
        unfold fetG
        rw [hgd, show decide (f.tx.size ≤ 400) = !x2 by rw [← hx2, ← decide_not]; exact decide_eq_decide.2 (by omega), show inB f.sto 0 now = (!x5 && !x6) by rw [← hx5, ← hx6, ← decide_not, ← decide_not]; unfold inB; rw [show decide (0 ≤ f.sto) = decide (¬ f.sto < 0) from decide_eq_decide.2 (by omega), show decide (f.sto ≤ now) = decide (¬ now < f.sto) from decide_eq_decide.2 (by omega)]]
      have HF : Hid (allT (fetG now L) (k + 1) = false → res = false) := fun h => by rw [HO2.out, allT_down (k := k) hlt (by unfold allT at h; rw [HN.out] at h; simpa using h)]; rfl
      subst hga
      generalize enKey f.key = x1 at cK1 HSu
      generalize inB f.st 1 3 = x3 at cK3 HSu
      generalize inB f.lf 0 999999 = x4 at cK4 HSu
      clear hf hgd hw3 hlt hRB hb3
      go_wp2_with fail
      rw [HW3.out]
      refine cK1.mono ?_
      rintro e w' ⟨rfl, rfl⟩
      cases x1 with
      | false =>
        have HR : Hid (res = false) := HF.out (by rw [HSu.out]; simp)
        go_wp2_with fail
        go_ret
        exact ⟨by rw [HR.out]; rfl, HB3.out⟩
      | true =>
        cases x2 with
        | true =>
          have HR : Hid (res = false) := HF.out (by rw [HSu.out]; simp)
          go_wp2_with fail
          go_ret
          exact ⟨by rw [HR.out]; rfl, HB3.out⟩
        | false =>
          go_wp2_with fail
          refine cK3.mono ?_
          rintro e w' ⟨rfl, rfl⟩
          cases x3 with
          | false =>
            have HR : Hid (res = false) := HF.out (by rw [HSu.out]; simp)
            go_wp2_with fail
            go_ret
            exact ⟨by rw [HR.out]; rfl, HB3.out⟩
          | true =>
            go_wp2_with fail
            refine cK4.mono ?_
            rintro e w' ⟨rfl, rfl⟩
            cases x4 with
            | false =>
              have HR : Hid (res = false) := HF.out (by rw [HSu.out]; simp)
              go_wp2_with fail
              go_ret
              exact ⟨by rw [HR.out]; rfl, HB3.out⟩
            | true =>
              cases x5 with
              | true =>
                have HR : Hid (res = false) := HF.out (by rw [HSu.out]; simp)
                go_wp2_with fail
                go_ret
                exact ⟨by rw [HR.out]; rfl, HB3.out⟩
              | false =>
                cases x6 with
                | true =>
                  have HR : Hid (res = false) := HF.out (by rw [HSu.out]; simp)
                  go_wp2_with fail
                  go_ret
                  exact ⟨by rw [HR.out]; rfl, HB3.out⟩
                | false =>
                  have HPO : Hid (allT (fetG now L) (k + 1) = true) := by show _ = _; rw [HSu.out]; simp
                  go_wp2_with fail
                  go_roundw
                  case rel =>
                    try ((repeat apply Exists.intro); refine ⟨?_, rfl⟩)
                    exact ⟨⟨k + 1, by have := HK.out; omega, by go_num, HPO.out, HS3.out⟩⟩
                  case measure => have := HK.out; simp [intOf]; omega
    · have hi3 : ¬ (k : Int) < (L.length : Int) := by omega
      have HR : Hid (res = oneX L) := by show _ = _; rw [HO2.out, show L.length = k by omega, HN.out, Bool.true_and]
      have cO := implOne_any wo a c L (HE.out.on HBO.out) HC.out (by omega) HZ.out
      clear hlt hk
      go_wp2_with fail
      refine cO.mono ?_
      rintro e w' ⟨rfl, hbq⟩
      go_wp2_with fail
      go_ret
      exact ⟨by rw [HR.out]; rfl, HBO.out.trans (hbq.mono HBO.out.size)⟩
end Go.Proofs.Ytpgcfgbhkodmeaa
