/- The other text's InSomeOrder: orders are tried with a list of those that are used. -/
import Derived.Test.YtogfkbkfcelgcaoOrderPlain
import Derived.Test.YtogfkbkfcelgcaoCallKit
import Derived.Test.YtogfkbkfcelgcaoDoTaskSpec
import Derived.Deep.RegionHeld3
namespace Go.Proofs.Ytogfkbkfcelgcao
open Go.RowKit Go.Sort

theorem doT_len' (L : List (Int × Int)) (t : Tk) : (doT L t).1.length ≤ L.length + 1 := by
  have h2 := two_filters t.key L
  have h3 := List.length_filter_le (fun p : Int × Int => !decide (p.1 = t.key)) L
  unfold doT
  by_cases k1 : t.kind = 1
  · simp [k1]
  · by_cases k2 : t.kind = 2
    · by_cases hh : hasP L t.key = true
      · simp [k2, hh]
      · simp [k2, hh]; omega
    · by_cases k3 : t.kind = 3
      · simp [k3]; omega
      · simp [k1, k2, k3]
/-- A row of flags. -/
def UB (w : World) (ub : Nat) (U : List Bool) : Prop := w.heap[ub]? = some (.cells (U.map Value.bool).toArray 4 (0, 0))
theorem UB.lt {w : World} {ub : Nat} {U : List Bool} (h : UB w ub U) : ub < w.heap.size := (Array.getElem?_eq_some_iff.1 h).1
theorem UB.cell {w : World} {ub : Nat} {U : List Bool} (h : UB w ub U) (k : Nat) (hk : k < U.length) : w.cell? ⟨ub, k, none⟩ = some (.bool U[k]) := by
  rw [cell_of_row w ub k _ _ (0, 0) h]
  simp [hk]
theorem UB.thaw {w : World} {ub : Nat} {U : List Bool} (h : UB w ub U) (k : Nat) : w.frozen? ⟨ub, k, none⟩ = false := by
  unfold UB at h
  simp [World.frozen?, h]
theorem UB.set {w : World} {ub : Nat} {U : List Bool} (h : UB w ub U) (k : Nat) (b : Bool) : UB (w.setCell ⟨ub, k, none⟩ (.bool b)) ub (U.set k b) := by
  unfold UB at h ⊢
  rw [setCell_eq_setRow w ub k _ _ (0, 0) _ h, setRow_heap w ub _ _ _ _ h]
  simp
theorem UB.kept {w w' : World} {ub : Nat} {U : List Bool} (h : UB w ub U) (hk : w'.heap[ub]? = w.heap[ub]?) : UB w' ub U := hk.trans h
theorem grown_set (w : World) (ub k : Nat) (v : Value) : w.grownBy (w.setCell ⟨ub, k, none⟩ v) (some ub) :=
  ⟨rfl, rfl, rfl, by simp [World.setCell], fun j hj hne => heap_setCell_other w ⟨ub, k, none⟩ j v (fun e => hne (by rw [e]))⟩
theorem grown_of_below {w w' : World} {row : Option Nat} (h : Below w.heap.size w w') : w.grownBy w' row := ⟨h.os, h.tape, h.output, h.size, fun j hj _ => h.block j hj⟩
theorem grown_drew (w : World) (n : Nat) (row : Option Nat) : w.grownBy (w.drewN n) row := ⟨rfl, rfl, rfl, Nat.le_refl _, fun _ _ _ => rfl⟩
theorem KAt.grown {w w' : World} {a : Option Addr} {L : List Cl} {ub : Nat} (h : KAt w a L w.heap.size) (hg : w.grownBy w' (some ub)) (hne : ∀ g off, a = some ⟨g, off, none⟩ → L ≠ [] → g ≠ ub) : KAt w' a L w'.heap.size := by
  intro j hj
  obtain ⟨g, off, ha, hl, c0, c1, c2, c3, c4, c5, c6, c7, c8, c9, c10, c11, c12⟩ := h j hj
  have hb := hg.block g hl (fun e => hne g off ha (fun e' => by subst e'; simp at hj) (by cases e; rfl))
  have e : ∀ o, w'.cell? ⟨g, o, none⟩ = w.cell? ⟨g, o, none⟩ := fun o => World.cell?_of_block (w := w) (a := ⟨g, o, none⟩) hb
  exact ⟨g, off, ha, Nat.lt_of_lt_of_le hl hg.size, (e _).trans c0, (e _).trans c1, (e _).trans c2, (e _).trans c3, (e _).trans c4, (e _).trans c5, (e _).trans c6, (e _).trans c7, (e _).trans c8, (e _).trans c9, (e _).trans c10, (e _).trans c11, (e _).trans c12⟩
theorem PAt.grown {w w' : World} {a : Option Addr} {L : List (Int × Int)} {ub : Nat} (h : PAt w a L w.heap.size) (hg : w.grownBy w' (some ub)) (hne : ∀ g off, a = some ⟨g, off, none⟩ → g ≠ ub) : PAt w' a L w'.heap.size := by
  intro j hj
  obtain ⟨g, off, ha, hl, c0, c1⟩ := h j hj
  have hb := hg.block g hl (fun e => hne g off ha (by cases e; rfl))
  have e : ∀ o, w'.cell? ⟨g, o, none⟩ = w.cell? ⟨g, o, none⟩ := fun o => World.cell?_of_block (w := w) (a := ⟨g, o, none⟩) hb
  exact ⟨g, off, ha, Nat.lt_of_lt_of_le hl hg.size, (e _).trans c0, (e _).trans c1⟩
theorem grown_trans {a b c : World} {row : Option Nat} (h1 : a.grownBy b row) (h2 : b.grownBy c row) : a.grownBy c row := grownBy_trans h1 h2
theorem KAt.ndAt {w : World} {g off : Nat} {L : List Cl} {B : Nat} (h : KAt w (some ⟨g, off, none⟩) L B) (j : Nat) (hj : j < L.length) : w.cell? ⟨g, off + j * 13 + 12, none⟩ = some (.int .i64 L[j].nd) := by
  obtain ⟨g2, off2, hga, _, _, _, _, _, _, _, _, _, _, _, _, _, d12⟩ := h j hj
  simp only [Option.some.injEq, Addr.mk.injEq, and_true] at hga
  obtain ⟨rfl, rfl⟩ := hga
  exact d12
theorem leftOf_used : ∀ (C : List Cl) (U : List Bool), U.all (fun u => u) = true → leftOf C U = []
  | [], U, _ => by cases U <;> rfl
  | c :: C, [], _ => rfl
  | c :: C, u :: U, h => by
    have h2 : u = true ∧ U.all (fun u => u) = true := by simpa using h
    rw [leftOf, if_pos h2.1]
    exact leftOf_used C U h2.2
theorem leftOf_some : ∀ (C : List Cl) (U : List Bool), C.length = U.length → U.all (fun u => u) = false → 0 < (leftOf C U).length
  | [], [], _, h => by simp at h
  | [], u :: U, hl, _ => by simp at hl
  | c :: C, [], hl, _ => by simp at hl
  | c :: C, u :: U, hl, h => by
    cases u with
    | true =>
      have := leftOf_some C U (by simpa using hl) (by simpa using h)
      simpa [leftOf] using this
    | false => simp [leftOf]
/-- What is asked of a world in which the other text tries the orders of those that are not used. -/
structure Uses (w : World) (ca : Option Addr) (C : List Cl) (ub : Nat) (U : List Bool) (pa : Option Addr) (P : List (Int × Int)) (n : Nat) : Prop where
  calls : KAt w ca C w.heap.size
  row : UB w ub U
  same : C.length = U.length
  few : C.length ≤ 6
  pairs : PAt w pa P w.heap.size
  short : P.length + n ≤ 1000
  left : (leftOf C U).length = n
  apart : ∀ g off, ca = some ⟨g, off, none⟩ → C ≠ [] → g ≠ ub
  apart' : ∀ g off, pa = some ⟨g, off, none⟩ → g ≠ ub
theorem Uses.grown {w w' : World} {ca : Option Addr} {C : List Cl} {ub : Nat} {U : List Bool} {pa : Option Addr} {P : List (Int × Int)} {n : Nat} (h : Uses w ca C ub U pa P n) (hg : w.grownBy w' (some ub)) (hu : UB w' ub U) : Uses w' ca C ub U pa P n :=
  ⟨h.calls.grown hg h.apart, hu, h.same, h.few, h.pairs.grown hg h.apart', h.short, h.left, h.apart, h.apart'⟩
def TryC (n : Nat) : Prop := ∀ (w : World) (ca : Option Addr) (cc : Nat) (C : List Cl) (ub : Nat) (U : List Bool) (pa : Option Addr) (pc : Nat) (P : List (Int × Int)), Uses w ca C ub U pa P n →
    Calls Try.prog 37 #[.slice ca C.length cc, .slice (some ⟨ub, 0, none⟩) C.length C.length, .slice pa P.length pc] w fun e w' => e = .returned (.bool (fitsL n P (leftOf C U))) ∧ w.grownBy w' (some ub) ∧ (fitsL n P (leftOf C U) = false → UB w' ub U)

set_option maxRecDepth 100000 in
set_option maxHeartbeats 8000000 in
theorem try_step (n : Nat) (ih : ∀ m, n = m + 1 → TryC m) : TryC n := by
  intro w ca cc C ub U pa pc P h
  have H : Hid (Uses w ca C ub U pa P n) := h
  have IH : Hid (∀ m, n = m + 1 → TryC m) := ih
  have hC6 : (C.length : Int) ≤ 6 := by have := h.few; omega
  have hrow := h.row
  clear h ih
  go_enter Try.func37, Try.ntmps37
  go_wp2_with fail
  go_loopw [7, 8] (fun al i wr => Box (∃ k : Nat, k ≤ C.length ∧ i = .int .i64 k ∧ al = .bool ((U.take k).all fun u => u) ∧ w.grownBy wr (some ub) ∧ UB wr ub U ∧ ∀ q (hq : q < C.length) (hu : q < U.length), q < k → U[q] = false → ∀ m, n = m + 1 → pickOk m P C[q] (leftOf C (U.set q true)) = false))
    (fun _ i _ => C.length - (intOf i).toNat)
  case atStart => exact ⟨⟨0, by omega, rfl, by simp, grown_drew w 0 _, hrow, fun q _ _ hq => absurd hq (Nat.not_lt_zero _)⟩⟩
  case round =>
    obtain ⟨k, hk, rfl, rfl, hgr, hub, hno⟩ := hrel.out
    obtain ⟨wo, hwo⟩ : ∃ wo, wo = wr := ⟨_, rfl⟩
    subst hwo
    have HN : Hid (∀ q (hq : q < C.length) (hu : q < U.length), q < k → U[q] = false → ∀ m, n = m + 1 → pickOk m P C[q] (leftOf C (U.set q true)) = false) := hno
    have HG : Hid (w.grownBy wo (some ub) ∧ UB wo ub U) := ⟨hgr, hub⟩
    clear hno hrel
    by_cases hlt : k < C.length
    · have HU := H.out.grown hgr hub
      have hku : k < U.length := by have := HU.same; omega
      have HKU : Hid ((k : Int) < (C.length : Int) ∧ C.length = U.length) := ⟨by omega, HU.same⟩
      have hc := hub.cell k hku
      have htk : (U.take (k + 1)).all (fun u => u) = ((U.take k).all (fun u => u) && U[k]) := by rw [List.take_succ_eq_append_getElem hku, List.all_append]; simp
      have hi1 : (0 : Int) ≤ (k : Int) := by omega
      have hi2 : (k : Int) < (C.length : Int) := by omega
      cases huk : U[k] with
      | true =>
        rw [huk] at hc htk
        have HT : Hid ((U.take (k + 1)).all (fun u => u) = (U.take k).all (fun u => u)) := by show _ = _; rw [htk]; simp
        have HUK : Hid (U[k] = true) := huk
        clear htk huk hgr hub hrow HU
        obtain ⟨b, hb⟩ : ∃ b, (U.take k).all (fun u => u) = b := ⟨_, rfl⟩
        rw [hb] at HT ⊢
        clear hb
        go_wp2_with fail
        go_roundw
        case rel =>
          try ((repeat apply Exists.intro); refine ⟨?_, rfl⟩)
          refine ⟨⟨k + 1, by have := HKU.out; omega, by go_num, by rw [HT.out], HG.out.1, HG.out.2, fun q hq hu hqk hf => ?_⟩⟩
          by_cases e : q = k
          · subst e
            rw [HUK.out] at hf; cases hf
          · exact HN.out q hq hu (by omega) hf
        case measure => have := HKU.out; simp [intOf]; omega
      | false =>
        rw [huk] at hc htk
        have HT : Hid ((U.take (k + 1)).all (fun u => u) = false) := by show _ = _; rw [htk]; simp
        have HUK : Hid (U[k] = false) := huk
        obtain ⟨m, hm⟩ : ∃ m, n = m + 1 := by
          have := left_used C U k hku HU.same huk
          have := HU.left
          exact ⟨n - 1, by omega⟩
        obtain ⟨g, off, hca, hg, c0, c1, c2, c3, c4, c5, c6, c7, c8, c9, c10, c11, c12⟩ := HU.calls k hlt
        obtain ⟨f, hf⟩ : ∃ f, C[k] = f := ⟨_, rfl⟩
        rw [hf] at c0 c1 c2 c3 c4 c5 c6 c7 c8 c9 c10 c11 c12
        have HF : Hid (C[k] = f ∧ n = m + 1) := ⟨hf, hm⟩
        have HCA : Hid (ca = some ⟨g, off, none⟩) := hca
        have HUU : Hid (Uses wo ca C ub U pa P n) := HU
        clear htk huk hgr hub hrow HU hf hm hg
        obtain ⟨b, hb⟩ : ∃ b, (U.take k).all (fun u => u) = b := ⟨_, rfl⟩
        rw [hb]
        clear hb
        subst hca
        go_wp2_with fail
        go_loopw [9, 10] (fun fs j wq => Box (∃ (q nq : Nat), q ≤ C.length ∧ j = .int .i64 q ∧ ∃ b' : Bool, fs = .bool b' ∧ (b' = true ↔ ∀ p (hp : p < C.length) (hu : p < U.length), p < q → ¬ (U[p] = false ∧ p ≠ k ∧ C[p].nd < f.bg)) ∧ wq = wo.drewN nq))
          (fun _ j _ => C.length - (intOf j).toNat)
        case atStart => exact ⟨⟨0, 0, by omega, rfl, true, rfl, ⟨fun _ p _ _ hp => absurd hp (Nat.not_lt_zero _), fun _ => rfl⟩, rfl⟩⟩
        case round =>
          obtain ⟨q, nq, hq, rfl, b', rfl, hiff, hwq⟩ := hrel.out
          have HI : Hid (b' = true ↔ ∀ p (hp : p < C.length) (hu : p < U.length), p < q → ¬ (U[p] = false ∧ p ≠ k ∧ C[p].nd < f.bg)) := hiff
          clear hiff hrel
          rw [hwq]
          clear hwq
          by_cases hql : q < C.length
          · have hqu : q < U.length := by have := HKU.out; omega
            have hd := HUU.out.row.cell q hqu
            have d12 := HUU.out.calls.ndAt q hql
            have HQ : Hid ((q : Int) < (C.length : Int)) := by show _ < _; omega
            have hj1 : (0 : Int) ≤ (q : Int) := by omega
            have hj2 : (q : Int) < (C.length : Int) := by omega
            have hnext : Hid (∀ b2 : Bool, (b2 = true ↔ (b' = true ∧ ¬ (U[q] = false ∧ q ≠ k ∧ C[q].nd < f.bg))) → (b2 = true ↔ ∀ p (hp : p < C.length) (hu : p < U.length), p < q + 1 → ¬ (U[p] = false ∧ p ≠ k ∧ C[p].nd < f.bg))) := by
              intro b2 h2
              rw [h2, HI.out]
              constructor
              · rintro ⟨h3, h4⟩ p hp hu hpq
                by_cases e : p = q
                · subst e; exact h4
                · exact h3 p hp hu (by omega)
              · intro h3
                exact ⟨fun p hp hu hpq => h3 p hp hu (by omega), h3 q hql hqu (by omega)⟩
            obtain ⟨nd, hnd⟩ : ∃ nd, C[q].nd = nd := ⟨_, rfl⟩
            rw [hnd] at d12 hnext
            cases huq : U[q] with
            | true =>
              rw [huq] at hd hnext
              have HX : Hid (b' = true ↔ ∀ p (hp : p < C.length) (hu : p < U.length), p < q + 1 → ¬ (U[p] = false ∧ p ≠ k ∧ C[p].nd < f.bg)) := hnext.out b' (by simp)
              clear hnext huq hnd hql hqu
              go_wp2_with fail
              go_quiet (fail)
              go_wp2_with fail
              go_roundw
              case rel =>
                try ((repeat apply Exists.intro); refine ⟨?_, rfl⟩)
                exact ⟨⟨q + 1, _, by have := HQ.out; omega, by go_num, b', rfl, HX.out, rfl⟩⟩
              case measure => have := HQ.out; simp [intOf]; omega
            | false =>
              rw [huq] at hd hnext
              by_cases hqk : q = k
              · have HX : Hid (b' = true ↔ ∀ p (hp : p < C.length) (hu : p < U.length), p < q + 1 → ¬ (U[p] = false ∧ p ≠ k ∧ C[p].nd < f.bg)) := hnext.out b' (by simp [hqk])
                have e1 : (q : Int) = (k : Int) := by omega
                have b1 : decide ((q : Int) = (k : Int)) = true := decide_eq_true e1
                have b2 : ((q : Int) != (k : Int)) = false := by simp [e1]
                clear hnext huq hnd hql hqu
                go_wp2_with fail
                go_quiet (fail)
                go_wp2_with fail
                go_roundw
                case rel =>
                  try ((repeat apply Exists.intro); refine ⟨?_, rfl⟩)
                  exact ⟨⟨q + 1, _, by have := HQ.out; omega, by go_num, b', rfl, HX.out, rfl⟩⟩
                case measure => have := HQ.out; simp [intOf]; omega
              · have e1 : ¬ (q : Int) = (k : Int) := by omega
                have b1 : decide ((q : Int) = (k : Int)) = false := decide_eq_false e1
                have b2 : ((q : Int) != (k : Int)) = true := by simp [e1]
                by_cases hlb : nd < f.bg
                · have HX : Hid (false = true ↔ ∀ p (hp : p < C.length) (hu : p < U.length), p < q + 1 → ¬ (U[p] = false ∧ p ≠ k ∧ C[p].nd < f.bg)) := hnext.out false (by simp [hqk, hlb])
                  clear hnext huq hnd hql hqu
                  go_wp2_with fail
                  go_quiet (fail)
                  go_wp2_with fail
                  go_roundw
                  case rel =>
                    try ((repeat apply Exists.intro); refine ⟨?_, rfl⟩)
                    exact ⟨⟨q + 1, _, by have := HQ.out; omega, by go_num, false, rfl, HX.out, rfl⟩⟩
                  case measure => have := HQ.out; simp [intOf]; omega
                · have HX : Hid (b' = true ↔ ∀ p (hp : p < C.length) (hu : p < U.length), p < q + 1 → ¬ (U[p] = false ∧ p ≠ k ∧ C[p].nd < f.bg)) := hnext.out b' (by simp [hlb])
                  clear hnext huq hnd hql hqu
                  go_wp2_with fail
                  go_quiet (fail)
                  go_wp2_with fail
                  go_roundw
                  case rel =>
                    try ((repeat apply Exists.intro); refine ⟨?_, rfl⟩)
                    exact ⟨⟨q + 1, _, by have := HQ.out; omega, by go_num, b', rfl, HX.out, rfl⟩⟩
                  case measure => have := HQ.out; simp [intOf]; omega
          · have hqe : q = C.length := by omega
            have hj2 : ¬ (q : Int) < (C.length : Int) := by omega
            have HW : Hid (b' = true ↔ ¬ C[k].waits (leftOf C (U.set k true)) = true) := by
              show _ ↔ _
              rw [HI.out, waits_left HKU.out.2 hlt, HF.out.1]
              constructor
              · rintro h ⟨p, hp, hu, h1, h2, h3⟩
                exact h p hp hu (by omega) ⟨h1, h2, h3⟩
              · intro h p hp hu _ ⟨h1, h2, h3⟩
                exact h ⟨p, hp, hu, h1, h2, h3⟩
            obtain ⟨wq, hwq⟩ : ∃ wq, wo.drewN nq = wq := ⟨_, rfl⟩
            have hgq : wo.grownBy wq (some ub) := by rw [← hwq]; exact grown_drew wo nq _
            have HUQ : Hid (Uses wq (some ⟨g, off, none⟩) C ub U pa P n) := by
              refine HUU.out.grown hgq ?_
              rw [← hwq]
              exact HUU.out.row.kept rfl
            have HGQ : Hid (w.grownBy wq (some ub)) := grown_trans HG.out.1 hgq
            rw [hwq]
            have hcel : ∀ o, wq.cell? ⟨g, o, none⟩ = wo.cell? ⟨g, o, none⟩ := fun o => by rw [← hwq]; rfl
            simp only [← hcel] at c0 c1 c2 c3 c4 c5 c6 c7 c8 c9 c10 c11 c12
            clear hwq hcel hgq HI hc
            cases b' with
            | false =>
              have HWT : Hid (C[k].waits (leftOf C (U.set k true)) = true) := by
                show _ = _
                have := HW.out
                simpa using this
              go_wp2_with fail
              go_roundw
              case rel =>
                try ((repeat apply Exists.intro); refine ⟨?_, rfl⟩)
                refine ⟨⟨k + 1, by have := HKU.out; omega, by go_num, by rw [HT.out], HGQ.out, HUQ.out.row, fun p hp hu hpk hf m' hm' => ?_⟩⟩
                by_cases e : p = k
                · subst e
                  rw [pickOk_eq, HWT.out]; simp
                · exact HN.out p hp hu (by omega) hf m' hm'
              case measure => have := HKU.out; simp [intOf]; omega
            | true =>
              have HWT : Hid (C[k].waits (leftOf C (U.set k true)) = false) := by
                show _ = _
                have := HW.out
                simpa using this
              have cD := specDoTask_any wq pa pc P f.t HUQ.out.pairs (by have := HUQ.out.short; omega)
              unfold tcs at cD
              clear HW HG HUU
              go_wp2_with fail
              refine cD.mono ?_
              rintro e w2 ⟨v2, rfl, ho2, hb2⟩
              obtain ⟨M, z, hMz⟩ : ∃ M z, doT P f.t = (M, z) := ⟨_, _, rfl⟩
              have hMl := doT_len' P f.t
              rw [hMz] at ho2 hMl ⊢
              dsimp only at ho2 hMl ⊢
              have hlt2 := ho2.lt
              obtain ⟨ya, yc, rfl, hP2⟩ := ho2.at
              have hg2 : wq.grownBy w2 (some ub) := grown_of_below hb2
              have HU2 : Hid (Uses w2 (some ⟨g, off, none⟩) C ub U pa P n) := HUQ.out.grown hg2 (HUQ.out.row.kept (hb2.block _ HUQ.out.row.lt))
              have HG2 : Hid (w.grownBy w2 (some ub)) := grown_trans HGQ.out hg2
              have HM : Hid (doT P f.t = (M, z) ∧ M.length ≤ P.length + 1 ∧ PAt w2 ya M w2.heap.size ∧ ∀ g off, ya = some ⟨g, off, none⟩ → g ≠ ub) := ⟨hMz, hMl, hP2, fun g' off' e => by
                have h1 := (hlt2 g' (by rw [e]; rfl)).1
                have h2 := HUQ.out.row.lt
                omega⟩
              have hgl : g < wq.heap.size := World.block_lt_of_cell? wq _ c10
              have k10 : w2.cell? ⟨g, off + k * 13 + 10, none⟩ = some (.int .i64 f.t.ans) := (hb2.cell (p := ⟨g, off + k * 13 + 10, none⟩) hgl).trans c10
              clear cD ho2 hb2 hMz hMl hP2 hlt2 hg2 hgl HUQ HGQ
              clear c0 c1 c2 c3 c4 c5 c6 c7 c8 c9 c10 c11 c12
              by_cases hza : z = f.t.ans
              · have hub2 := HU2.out.row
                have d1 : decide (z = f.t.ans) = true := decide_eq_true hza
                have hck := hub2.cell k hku
                have hfk := hub2.thaw k
                obtain ⟨w3, hw3⟩ : ∃ w3, w2.setCell ⟨ub, k, none⟩ (.bool true) = w3 := ⟨_, rfl⟩
                have hg3 : w2.grownBy w3 (some ub) := by rw [← hw3]; exact grown_set w2 ub k _
                have hu3 : UB w3 ub (U.set k true) := by rw [← hw3]; exact hub2.set k true
                have hle := left_used C U k hku HKU.out.2 HUK.out
                have HU3 : Hid (Uses w3 (some ⟨g, off, none⟩) C ub (U.set k true) ya M m) :=
                  ⟨HU2.out.calls.grown hg3 HU2.out.apart, hu3, by rw [List.length_set]; exact HKU.out.2, HU2.out.few, HM.out.2.2.1.grown hg3 HM.out.2.2.2, by have := HU2.out.short; have := HM.out.2.1; have := HF.out.2; omega, by have := HU2.out.left; have := HF.out.2; omega, HU2.out.apart, HM.out.2.2.2⟩
                have cT := IH.out m HF.out.2 w3 (some ⟨g, off, none⟩) cc C ub (U.set k true) ya yc M HU3.out
                have HG3 : Hid (w.grownBy w3 (some ub)) := grown_trans HG2.out hg3
                have HW3 : Hid (w2.setCell ⟨ub, k, none⟩ (.bool true) = w3) := hw3
                obtain ⟨R, hR⟩ : ∃ R, fitsL m M (leftOf C (U.set k true)) = R := ⟨_, rfl⟩
                have HR : Hid (pickOk m P C[k] (leftOf C (U.set k true)) = R) := by
                  show _ = _
                  rw [pickOk_eq, HWT.out, HF.out.1, HM.out.1, hR]
                  simp [hza]
                rw [hR] at cT
                clear hR hw3 hg3 hu3 hub2 hle
                subst hza
                go_wp2_with fail
                rw [HW3.out]
                refine cT.mono ?_
                rintro e w4 ⟨rfl, hg4, hu4⟩
                clear cT hck hfk k10
                have HG4 : Hid (w.grownBy w4 (some ub)) := grown_trans HG3.out hg4
                cases R with
                | true =>
                  go_wp2_with fail
                  go_ret
                  have hfit : fitsL n P (leftOf C U) = true := by
                    rw [HF.out.2, fits_left HKU.out.2]
                    exact ⟨k, by have := HKU.out; omega, hku, HUK.out, HR.out⟩
                  rw [hfit]
                  exact ⟨rfl, HG4.out, fun e => by cases e⟩
                | false =>
                  have hub4 := hu4 rfl
                  have hck := hub4.cell k (by rw [List.length_set]; exact hku)
                  have hfk := hub4.thaw k
                  obtain ⟨w5, hw5⟩ : ∃ w5, w4.setCell ⟨ub, k, none⟩ (.bool false) = w5 := ⟨_, rfl⟩
                  have hu5 : UB w5 ub U := by
                    rw [← hw5]
                    have h5 := hub4.set k false
                    rw [List.set_set, show U.set k false = U by rw [← HUK.out]; exact List.set_getElem_self hku] at h5
                    exact h5
                  have HG5 : Hid (w.grownBy w5 (some ub) ∧ UB w5 ub U) := ⟨by rw [← hw5]; exact grown_trans HG4.out (grown_set w4 ub k _), hu5⟩
                  have HW5 : Hid (w4.setCell ⟨ub, k, none⟩ (.bool false) = w5) := hw5
                  clear hw5 hu5 hub4 hu4 hg4
                  go_wp2_with fail
                  rw [HW5.out]
                  go_roundw
                  case rel =>
                    try ((repeat apply Exists.intro); refine ⟨?_, rfl⟩)
                    refine ⟨⟨k + 1, by have := HKU.out; omega, by go_num, by rw [HT.out], HG5.out.1, HG5.out.2, fun p hp hu hpk hf m' hm' => ?_⟩⟩
                    by_cases e : p = k
                    · subst e
                      have : m' = m := by have := HF.out.2; omega
                      rw [this]; exact HR.out
                    · exact HN.out p hp hu (by omega) hf m' hm'
                  case measure => have := HKU.out; simp [intOf]; omega
              · have d1 : decide (z = f.t.ans) = false := decide_eq_false hza
                have b1 : (z != f.t.ans) = true := by simp [hza]
                have HZ : Hid (¬ z = f.t.ans) := hza
                go_wp2_with fail
                go_roundw
                case rel =>
                  try ((repeat apply Exists.intro); refine ⟨?_, rfl⟩)
                  refine ⟨⟨k + 1, by have := HKU.out; omega, by go_num, by rw [HT.out], HG2.out, HU2.out.row, fun p hp hu hpk hf m' hm' => ?_⟩⟩
                  by_cases e : p = k
                  · subst e
                    rw [pickOk_eq, HF.out.1, HM.out.1]; simp [HZ.out]
                  · exact HN.out p hp hu (by omega) hf m' hm'
                case measure => have := HKU.out; simp [intOf]; omega
    · have hi2 : ¬ (k : Int) < (C.length : Int) := by omega
      have hke : k = U.length := by have := H.out.same; omega
      have htl : U.take k = U := by rw [hke]; exact List.take_length
      rw [htl]
      have hfit : U.all (fun u => u) = fitsL n P (leftOf C U) := by
        cases hb : U.all (fun u => u) with
        | true =>
          have h0 := leftOf_used C U hb
          have h1 := H.out.left
          rw [h0] at h1 ⊢
          have : n = 0 := by simpa using h1.symm
          subst this
          rw [fitsL]
        | false =>
          have h0 := leftOf_some C U H.out.same hb
          have h1 := H.out.left
          obtain ⟨m, rfl⟩ : ∃ m, n = m + 1 := ⟨n - 1, by omega⟩
          symm
          rw [Bool.eq_false_iff]
          intro e
          obtain ⟨j, hj, hj', hu, hp⟩ := (fits_left H.out.same).1 e
          rw [HN.out j hj hj' (by omega) hu m rfl] at hp
          cases hp
      obtain ⟨b, hb⟩ : ∃ b, U.all (fun u => u) = b := ⟨_, rfl⟩
      have HB : Hid (fitsL n P (leftOf C U) = b) := hfit.symm.trans hb
      rw [hb]
      clear hfit hb htl hke
      go_wp2_with fail
      go_ret
      rw [HB.out]
      exact ⟨rfl, HG.out.1, fun _ => HG.out.2⟩
theorem try_any : ∀ n, TryC n
  | 0 => try_step 0 fun m h => by omega
  | n + 1 => try_step (n + 1) fun m h => by have : m = n := by omega
                                            rw [this]; exact try_any n
end Go.Proofs.Ytogfkbkfcelgcao
