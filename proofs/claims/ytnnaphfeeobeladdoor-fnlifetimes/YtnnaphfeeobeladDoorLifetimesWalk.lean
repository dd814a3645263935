/- The law on lives, walked. -/
import Derived.Test.YtnnaphfeeobeladDoorControlDraw
import Derived.Test.YtnnaphfeeobeladDoorControlOfImpl
import Derived.Test.YtnnaphfeeobeladDoorLifeImpl
import Derived.Test.YtnnaphfeeobeladDoorLifeSpec
import Derived.Test.YtnnaphfeeobeladDoorDecimal
import Derived.Test.YtnnaphfeeobeladDoorDrawTurn
import Derived.Test.YtnnaphfeeobeladDoorBig
import Derived.Test.YtnnaphfeeobeladDoorQuietTail
import Derived.Deep.Quiet
import Derived.BigQuiet
import Derived.Lib.QuietBelow
import Derived.Deep.RegionHeld3
import Derived.Deep.DeepCutAuto
namespace Go.Proofs.YtnnaphfeeobeladDoor
open Go.RowKit Go.Sort
theorem lifeC_none {c : Ct} (h : c.ns = true ∨ c.nc = true) : lifeC c = 0 := by unfold lifeC; rw [if_pos h]
theorem lifeC_ge (c : Ct) : 0 ≤ lifeC c := by
  unfold lifeC
  split
  · omega
  · split
    · assumption
    · split
      · assumption
      · omega
theorem CtB.atAll {w : World} {T : Nat} {c : Ct} (h : CtB w T c) (wi : World) (hi : Below w.heap.size w wi) : (wi.cell? ⟨T, 0, none⟩ = some (.bool c.ns) ∧ wi.cell? ⟨T, 1, none⟩ = some (.bool c.nc) ∧ wi.cell? ⟨T, 2, none⟩ = some (.int .i64 c.ma) ∧ wi.cell? ⟨T, 3, none⟩ = some (.int .i64 c.sh)) := (h.on hi).cells
set_option maxRecDepth 100000 in
set_option maxHeartbeats 16000000 in
theorem lifetimes_walk (ca : Option Addr) (n cap : Nat) (w : World) (hcode : CodeAt w ca n w.heap.size) (hlen : n ≤ maxLen) :
    Calls Tryd.prog 6 #[.slice ca n cap] w fun e w' => e = .returned (.bool true) ∧ Below w.heap.size w w' := by
  unfold maxLen at hlen
  have cb := big_any ca n cap w hlen
  by_cases hn : n ≤ 1048576
  case neg =>
    rw [show decide (1048576 < n) = true by simp; omega] at cb
    go_enter Tryd.func6, Tryd.ntmps6
    go_wp2_with fail
    refine cb.mono ?_
    rintro e w' ⟨rfl, rfl⟩
    go_wp2_with fail
    go_ret
    exact ⟨rfl, Below.refl _ _⟩
  rw [show decide (1048576 < n) = false by simp; omega] at cb
  have c1 := drawControl_any w ca n cap hcode hn
  have C2 : Hid (∀ w', Below w.heap.size w w' → Calls Tryd.prog 24 #[.slice ca n cap] w' fun e w'' => ∃ (v : Value) (l : List Int), e = .returned v ∧ l.length = 12 ∧ (∀ z ∈ l, 0 ≤ z ∧ z < 10000) ∧ OwnV w'' w'.heap.size 3 v (ints l) ∧ Below w'.heap.size w' w'') := by
    intro w' hb
    refine drawPlaces_any w' ca n cap (fun j hj => ?_) hn
    obtain ⟨b, off, z, h1, h2, h3, h4⟩ := hcode j hj
    exact ⟨b, off, z, h1, Nat.lt_of_lt_of_le h2 hb.size, (hb.cell (p := ⟨b, off + j, none⟩) h2).trans h3, h4⟩
  clear hcode
  go_enter Tryd.func6, Tryd.ntmps6
  go_wp2_with fail
  refine cb.mono ?_
  rintro e w' ⟨rfl, rfl⟩
  clear cb
  go_wp2_with fail
  refine c1.mono ?_
  rintro e w1 ⟨c, _, _, rfl, hb1⟩
  clear c1
  obtain ⟨w2, hw2⟩ : ∃ x, w1.alloc (.cells #[.bool c.ns, .bool c.nc, .int .i64 c.ma, .int .i64 c.sh] 47) = x := ⟨_, rfl⟩
  obtain ⟨T, hT⟩ : ∃ x, w1.heap.size = x := ⟨_, rfl⟩
  have hb2 : Below w1.heap.size w1 w2 := by rw [← hw2]; exact (Below.refl _ _).alloc (Nat.le_refl _) _
  have hK2 : CtB w2 T c := by rw [← hw2, ← hT]; exact heap_alloc_new w1 _
  have HT : Hid (CtB w2 T c) := hK2
  have HW : Hid (Below w.heap.size w w2) := hb1.trans (hb2.mono hb1.size)
  obtain ⟨t0, t1, t2, t3⟩ := hK2.cells
  clear hb1 hb2 hK2
  go_wp2_with fail
  clear hw2 hT
  have cI := implLifetime_any w2 c
  refine cI.mono ?_
  rintro e w3 ⟨rfl, hb3⟩
  have HT : Hid (CtB w3 T c) := HT.out.on hb3
  have HW : Hid (Below w.heap.size w w3) := HW.out.trans (hb3.mono HW.out.size)
  clear cI hb3 t0 t1 t2 t3
  go_wp2_with fail
  refine (C2.out w3 HW.out).mono ?_
  rintro e w7 ⟨v7, l, rfl, hl, hlz, hown, hb7⟩
  have HT : Hid (CtB w7 T c) := HT.out.on hb7
  have HW : Hid (Below w.heap.size w w7) := HW.out.trans (hb7.mono HW.out.size)
  obtain ⟨pa, pc, rfl, hcells⟩ := hown.shape
  obtain ⟨g, rfl, hz0, _, _, hg⟩ := hcells 0 (by rw [ints_length]; omega)
  obtain ⟨g', hgg, hz1, _, _, _⟩ := hcells 1 (by rw [ints_length]; omega)
  simp only [Option.some.injEq, Addr.mk.injEq, and_true] at hgg
  subst hgg
  rw [ints_at (by omega)] at hz0 hz1
  obtain ⟨q0, hq0⟩ : ∃ x, l[0] = x := ⟨_, rfl⟩
  obtain ⟨q1, hq1⟩ : ∃ x, l[1] = x := ⟨_, rfl⟩
  rw [hq0] at hz0
  rw [hq1] at hz1
  have hr0 := hlz q0 (by rw [← hq0]; exact List.getElem_mem _)
  have hr1 := hlz q1 (by rw [← hq1]; exact List.getElem_mem _)
  have hln : (ints l).length = 12 := by rw [ints_length]; exact hl
  rw [hln]
  have HZ : Hid (∀ wi, Below w7.heap.size w7 wi → wi.cell? ⟨g, 0, none⟩ = some (.int .i64 q0) ∧ wi.cell? ⟨g, 1, none⟩ = some (.int .i64 q1)) := fun wi hi => ⟨(hi.cell (World.block_lt_of_cell? w7 _ hz0)).trans hz0, (hi.cell (World.block_lt_of_cell? w7 _ hz1)).trans hz1⟩
  clear hown hcells hlz hl hln hq0 hq1 hb7 C2 hg
  -- the texts
  obtain ⟨m0, hm0⟩ : ∃ m : Nat, q0 = (m : Int) := ⟨q0.toNat, by omega⟩
  obtain ⟨m1, hm1⟩ : ∃ m : Nat, q1 = (m : Int) := ⟨q1.toNat, by omega⟩
  obtain ⟨D, hD⟩ : ∃ D : ByteArray, (⟨(decOf q0).toArray⟩ : ByteArray) = D := ⟨_, rfl⟩
  obtain ⟨E, hE⟩ : ∃ E : ByteArray, (⟨(decOf q1).toArray⟩ : ByteArray) = E := ⟨_, rfl⟩
  have hDl : D.data.toList = decOf (m0 : Int) := by rw [← hD, hm0]
  have hEl : E.data.toList = decOf (m1 : Int) := by rw [← hE, hm1]
  have hDz : D.size ≤ 6 := by rw [Lib.size_eq, hDl]; exact (decOf_told m0 (by omega)).1.2
  have hEz : E.size ≤ 6 := by rw [Lib.size_eq, hEl]; exact (decOf_told m1 (by omega)).1.2
  have CD : Hid (∀ wi, Calls Tryd.prog 34 #[.int .i64 q0] wi fun e w' => e = .returned (.string D) ∧ Below wi.heap.size wi w') := by intro wi; rw [← hD]; exact specDecimal_any q0 wi (by omega) (by omega)
  have CE : Hid (∀ wi, Calls Tryd.prog 34 #[.int .i64 q1] wi fun e w' => e = .returned (.string E) ∧ Below wi.heap.size wi w') := by intro wi; rw [← hE]; exact specDecimal_any q1 wi (by omega) (by omega)
  have s1 := fun w => run_string_add_sum (P := Tryd.prog) (w := w) ⟨#[109, 97, 120, 45, 97, 103, 101, 61]⟩ D (by show 8 + _ ≤ _; omega)
  have s2 := fun w => run_string_add_sum (P := Tryd.prog) (w := w) (⟨#[109, 97, 120, 45, 97, 103, 101, 61]⟩ ++ D) ⟨#[44, 32, 115, 45, 109, 97, 120, 97, 103, 101, 61]⟩ (by rw [ByteArray.size_append]; show 8 + _ + 11 ≤ _; omega)
  have s3 := fun w => run_string_add_sum (P := Tryd.prog) (w := w) ((⟨#[109, 97, 120, 45, 97, 103, 101, 61]⟩ ++ D) ++ ⟨#[44, 32, 115, 45, 109, 97, 120, 97, 103, 101, 61]⟩) E (by rw [ByteArray.size_append, ByteArray.size_append]; show 8 + _ + 11 + _ ≤ _; omega)
  have s4 := fun w => run_string_add_sum (P := Tryd.prog) (w := w) ⟨#[110, 111, 45, 99, 97, 99, 104, 101, 44, 32, 109, 97, 120, 45, 97, 103, 101, 61]⟩ D (by show 18 + _ ≤ _; omega)
  have CA : Hid (∀ wi, Calls Tryd.prog 28 #[.string (⟨#[109, 97, 120, 45, 97, 103, 101, 61]⟩ ++ D)] wi fun e w' => e = .returned (.agg #[.bool false, .bool false, .int .i64 q0, .int .i64 (-1)]) ∧ Below wi.heap.size wi w') := by
    intro wi
    have h := implControlOf_any (⟨#[109, 97, 120, 45, 97, 103, 101, 61]⟩ ++ D) wi (by rw [ByteArray.size_append]; show 8 + _ ≤ _; omega)
    have e : (⟨#[109, 97, 120, 45, 97, 103, 101, 61]⟩ ++ D : ByteArray).data.toList = maxAgeL ++ decOf (m0 : Int) := by simp [maxAgeL, hDl]
    rw [e, told_age m0 (by omega), ← hm0] at h
    exact h
  have CB : Hid (∀ wi, Calls Tryd.prog 28 #[.string (((⟨#[109, 97, 120, 45, 97, 103, 101, 61]⟩ ++ D) ++ ⟨#[44, 32, 115, 45, 109, 97, 120, 97, 103, 101, 61]⟩) ++ E)] wi fun e w' => e = .returned (.agg #[.bool false, .bool false, .int .i64 q0, .int .i64 q1]) ∧ Below wi.heap.size wi w') := by
    intro wi
    have h := implControlOf_any (((⟨#[109, 97, 120, 45, 97, 103, 101, 61]⟩ ++ D) ++ ⟨#[44, 32, 115, 45, 109, 97, 120, 97, 103, 101, 61]⟩) ++ E) wi (by rw [ByteArray.size_append, ByteArray.size_append, ByteArray.size_append]; show 8 + _ + 11 + _ ≤ _; omega)
    have e : (((⟨#[109, 97, 120, 45, 97, 103, 101, 61]⟩ ++ D) ++ ⟨#[44, 32, 115, 45, 109, 97, 120, 97, 103, 101, 61]⟩) ++ E : ByteArray).data.toList = (maxAgeL ++ decOf (m0 : Int)) ++ 44 :: 32 :: (sMaxL ++ decOf (m1 : Int)) := by simp [maxAgeL, sMaxL, hDl, hEl]
    rw [e, told_both m0 m1 (by omega) (by omega), ← hm0, ← hm1] at h
    exact h
  have CC : Hid (∀ wi, Calls Tryd.prog 28 #[.string (⟨#[110, 111, 45, 99, 97, 99, 104, 101, 44, 32, 109, 97, 120, 45, 97, 103, 101, 61]⟩ ++ D)] wi fun e w' => e = .returned (.agg #[.bool false, .bool true, .int .i64 q0, .int .i64 (-1)]) ∧ Below wi.heap.size wi w') := by
    intro wi
    have h := implControlOf_any (⟨#[110, 111, 45, 99, 97, 99, 104, 101, 44, 32, 109, 97, 120, 45, 97, 103, 101, 61]⟩ ++ D) wi (by rw [ByteArray.size_append]; show 18 + _ ≤ _; omega)
    have e : (⟨#[110, 111, 45, 99, 97, 99, 104, 101, 44, 32, 109, 97, 120, 45, 97, 103, 101, 61]⟩ ++ D : ByteArray).data.toList = noCacheL ++ 44 :: 32 :: (maxAgeL ++ decOf (m0 : Int)) := by simp [noCacheL, maxAgeL, hDl]
    rw [e, told_none m0 (by omega), ← hm0] at h
    exact h
  have LA : Hid (∀ wi, Calls Tryd.prog 33 #[.agg #[.bool false, .bool false, .int .i64 q0, .int .i64 (-1)]] wi fun e w' => e = .returned (.int .i64 q0) ∧ Below wi.heap.size wi w') := by
    intro wi
    have h := implLifetime_any wi ⟨false, false, q0, -1⟩
    rw [show lifeC ⟨false, false, q0, -1⟩ = q0 by unfold lifeC; rw [if_neg (by simp), if_neg (by show ¬ (0 : Int) ≤ -1; omega)]; exact if_pos hr0.1] at h
    exact h
  have LB : Hid (∀ wi, Calls Tryd.prog 33 #[.agg #[.bool false, .bool false, .int .i64 q0, .int .i64 q1]] wi fun e w' => e = .returned (.int .i64 q1) ∧ Below wi.heap.size wi w') := by
    intro wi
    have h := implLifetime_any wi ⟨false, false, q0, q1⟩
    rw [show lifeC ⟨false, false, q0, q1⟩ = q1 by unfold lifeC; rw [if_neg (by simp), if_pos hr1.1]] at h
    exact h
  have LC : Hid (∀ wi, Calls Tryd.prog 33 #[.agg #[.bool false, .bool true, .int .i64 q0, .int .i64 (-1)]] wi fun e w' => e = .returned (.int .i64 0) ∧ Below wi.heap.size wi w') := fun wi => implLifetime_any wi ⟨false, true, q0, -1⟩
  generalize (((⟨#[109, 97, 120, 45, 97, 103, 101, 61]⟩ ++ D) ++ ⟨#[44, 32, 115, 45, 109, 97, 120, 97, 103, 101, 61]⟩) ++ E : ByteArray) = tB at s3 CB
  generalize ((⟨#[109, 97, 120, 45, 97, 103, 101, 61]⟩ ++ D) ++ ⟨#[44, 32, 115, 45, 109, 97, 120, 97, 103, 101, 61]⟩ : ByteArray) = tX at s2 s3
  generalize (⟨#[109, 97, 120, 45, 97, 103, 101, 61]⟩ ++ D : ByteArray) = tA at s1 s2 CA
  generalize (⟨#[110, 111, 45, 99, 97, 99, 104, 101, 44, 32, 109, 97, 120, 45, 97, 103, 101, 61]⟩ ++ D : ByteArray) = tC at s4 CC
  have LS : Hid (∀ wi, Calls Tryd.prog 35 #[.agg #[.bool c.ns, .bool c.nc, .int .i64 c.ma, .int .i64 c.sh]] wi fun e w' => e = .returned (.int .i64 (lifeC c)) ∧ Below wi.heap.size wi w') := fun wi => specLifetime_any wi c
  have hge := lifeC_ge c
  have HNO : Hid (c.ns = true ∨ c.nc = true → lifeC c = 0) := lifeC_none
  generalize lifeC c = y at LS hge HNO ⊢
  clear hD hE hDl hEl hDz hEz hm0 hm1 hr0 hr1
  -- 'max-age'
  go_wp2_with fail
  refine (CD.out _).mono ?_
  rintro e w8 ⟨rfl, hb8⟩
  clear hz0 hz1
  go_wp2_with fail
  refine (CA.out _).mono ?_
  rintro e w9 ⟨rfl, hb9⟩
  obtain ⟨w10, hw10⟩ : ∃ x, w9.alloc (.cells #[.bool false, .bool false, .int .i64 q0, .int .i64 (-1)] 47) = x := ⟨_, rfl⟩
  obtain ⟨A, hA⟩ : ∃ x, w9.heap.size = x := ⟨_, rfl⟩
  have HV : Hid (Below w7.heap.size w7 w10 ∧ CtB w10 A ⟨false, false, q0, -1⟩) := by
    have hb10 : Below w9.heap.size w9 w10 := by rw [← hw10]; exact (Below.refl _ _).alloc (Nat.le_refl _) _
    have h9 : Below w7.heap.size w7 w9 := hb8.trans (hb9.mono hb8.size)
    exact ⟨h9.trans (hb10.mono h9.size), by rw [← hw10, ← hA]; exact heap_alloc_new w9 _⟩
  clear hb8 hb9 CA
  obtain ⟨hz0, hz1⟩ := HZ.out w10 HV.out.1
  go_wp2_with fail
  clear hw10 hA
  -- 'max-age' and 's-maxage'
  go_cut [7] (fun p wc => ∃ X : Nat, p = .pointer (some ⟨X, 0, none⟩) ∧ CtB wc X ⟨false, false, q0, q1⟩ ∧ Below w10.heap.size w10 wc)
  case first =>
    have hdr : Below w10.heap.size w10 w10.drew := ⟨rfl, rfl, rfl, Nat.le_refl _, fun _ _ => rfl⟩
    have KS : ∀ W, Below w10.heap.size w10 W → Below w10.heap.size w10 W ∧ W.cell? ⟨g, 0, none⟩ = some (.int .i64 q0) ∧ W.cell? ⟨g, 1, none⟩ = some (.int .i64 q1) := fun W h => ⟨h, HZ.out W (HV.out.1.trans (h.mono HV.out.1.size))⟩
    have hzb : Below w10.heap.size w10 ((w10.alloc (.cells #[.bool false, .bool false, .int .i64 0, .int .i64 0] 47)).drew) := ((Below.refl _ w10).alloc (Nat.le_refl _) _).trans (⟨rfl, rfl, rfl, Nat.le_refl _, fun _ _ => rfl⟩)
    have hzn : CtB ((w10.alloc (.cells #[.bool false, .bool false, .int .i64 0, .int .i64 0] 47)).drew) w10.heap.size ⟨false, false, 0, 0⟩ := heap_alloc_new w10 _
    have NEW : ∀ W : World, CtB (W.alloc (.cells #[.bool false, .bool false, .int .i64 0, .int .i64 0] 47)) W.heap.size ⟨false, false, 0, 0⟩ := fun W => heap_alloc_new W _
    have GRW : ∀ W : World, Below w10.heap.size w10 W → Below w10.heap.size w10 (W.alloc (.cells #[.bool false, .bool false, .int .i64 0, .int .i64 0] 47)) := fun W h => h.alloc h.size _
    clear HT HW HV
    go_region_held3 (fun W => Below w10.heap.size w10 W ∧ W.cell? ⟨g, 0, none⟩ = some (.int .i64 q0) ∧ W.cell? ⟨g, 1, none⟩ = some (.int .i64 q1)) (first | with_reducible exact KS _ hdr | with_reducible exact KS _ hzb | with_reducible exact KS _ hC | with_reducible exact KS _ (GRW _ hC) | with_reducible exact KS _ (hC.alloc hC.size _) | with_reducible exact KS _ (put_below hC hzT ⟨false, false, q0, q1⟩))
      (first
        | (go_at_call 34; first
            | (with_reducible refine (CD.out w10.drew).mono ?_; rintro e wA ⟨rfl, hbA⟩; have hC : Below w10.heap.size w10 wA := hdr.trans (hbA.mono hdr.size))
            | (with_reducible refine (CD.out ((w10.alloc (.cells #[.bool false, .bool false, .int .i64 0, .int .i64 0] 47)).drew)).mono ?_; rintro e wA ⟨rfl, hbA⟩; have hC : Below w10.heap.size w10 wA := hzb.trans (hbA.mono hzb.size); have hz := hzn.on hbA; have hzT : w10.heap.size ≤ w10.heap.size := Nat.le_refl _)
            | (with_reducible refine (CE.out wA).mono ?_; rintro e wE ⟨rfl, hbE⟩; (try have hz := CtB.on hz hbE); replace hC : Below w10.heap.size w10 wE := hC.trans (hbE.mono hC.size))
            | (with_reducible refine (CE.out (wA.alloc (.cells #[.bool false, .bool false, .int .i64 0, .int .i64 0] 47))).mono ?_; rintro e wE ⟨rfl, hbE⟩; have hz := (NEW wA).on hbE; have hzT : w10.heap.size ≤ wA.heap.size := hC.size; replace hC : Below w10.heap.size w10 wE := (GRW _ hC).trans (hbE.mono (GRW _ hC).size)))
        | (go_at_call 28; (first
            | (with_reducible refine (CB.out wE).mono ?_; rintro e wG ⟨rfl, hbG⟩; (try have hz := CtB.on hz hbG); replace hC : Below w10.heap.size w10 wG := hC.trans (hbG.mono hC.size))
            | (with_reducible refine (CB.out (wE.alloc (.cells #[.bool false, .bool false, .int .i64 0, .int .i64 0] 47))).mono ?_; rintro e wG ⟨rfl, hbG⟩; have hz := (NEW wE).on hbG; have hzT : w10.heap.size ≤ wE.heap.size := hC.size; replace hC : Below w10.heap.size w10 wG := (GRW _ hC).trans (hbG.mono (GRW _ hC).size))); (try (obtain ⟨c0, c1, c2, c3⟩ := CtB.cells hz; have y0 := CtB.thaw hz 0; have y1 := CtB.thaw hz 1; have y2 := CtB.thaw hz 2; have y3 := CtB.thaw hz 3))))
    all_goals go_wp2_with fail
    all_goals go_meet
    all_goals first
      | with_reducible exact ⟨_, rfl, CtB.put hz ⟨false, false, q0, q1⟩, put_below hC hzT ⟨false, false, q0, q1⟩⟩
      | exact ⟨_, rfl, heap_alloc_new wG _, hC.alloc hC.size _⟩
      | trace_state
  case rest =>
    obtain ⟨B, rfl, hB, hbc⟩ := hcut
    obtain ⟨w11, hw11⟩ : ∃ x, wc = x := ⟨_, rfl⟩
    rw [hw11] at hB hbc ⊢
    clear hw11 hz0 hz1
    have HV : Hid (Below w7.heap.size w7 w11 ∧ CtB w11 A ⟨false, false, q0, -1⟩ ∧ CtB w11 B ⟨false, false, q0, q1⟩) := ⟨HV.out.1.trans (hbc.mono HV.out.1.size), HV.out.2.on hbc, hB⟩
    clear hB hbc
    obtain ⟨hz0, hz1⟩ := HZ.out w11 HV.out.1
    go_wp2_with fail
    refine (CD.out _).mono ?_
    rintro e w12 ⟨rfl, hb12⟩
    clear hz0 hz1
    go_wp2_with fail
    refine (CC.out _).mono ?_
    rintro e w13 ⟨rfl, hb13⟩
    obtain ⟨w14, hw14⟩ : ∃ x, w13.alloc (.cells #[.bool false, .bool true, .int .i64 q0, .int .i64 (-1)] 47) = x := ⟨_, rfl⟩
    obtain ⟨G, hG⟩ : ∃ x, w13.heap.size = x := ⟨_, rfl⟩
    have HV : Hid (Below w7.heap.size w7 w14 ∧ CtB w14 A ⟨false, false, q0, -1⟩ ∧ CtB w14 B ⟨false, false, q0, q1⟩ ∧ CtB w14 G ⟨false, true, q0, -1⟩) := by
      have hb14 : Below w13.heap.size w13 w14 := by rw [← hw14]; exact (Below.refl _ _).alloc (Nat.le_refl _) _
      have h13 : Below w11.heap.size w11 w13 := hb12.trans (hb13.mono hb12.size)
      have h14 : Below w11.heap.size w11 w14 := h13.trans (hb14.mono h13.size)
      exact ⟨HV.out.1.trans (h14.mono HV.out.1.size), HV.out.2.1.on h14, HV.out.2.2.on h14, by rw [← hw14, ← hG]; exact heap_alloc_new w13 _⟩
    clear hb12 hb13 CC CD CE CB s1 s2 s3 s4
    have HT : Hid (CtB w14 T c) := HT.out.on HV.out.1
    have HW : Hid (Below w.heap.size w w14) := HW.out.trans (HV.out.1.mono HW.out.size)
    obtain ⟨hz0, hz1⟩ := HZ.out w14 HV.out.1
    obtain ⟨t0, t1, t2, t3⟩ := HT.out.cells
    obtain ⟨a0, a1, a2, a3⟩ := HV.out.2.1.cells
    obtain ⟨b0, b1, b2, b3⟩ := HV.out.2.2.1.cells
    obtain ⟨g0, g1, g2, g3⟩ := HV.out.2.2.2.cells
    dsimp only at a0 a1 a2 a3 b0 b1 b2 b3 g0 g1 g2 g3
    go_wp2_with fail
    clear hw14 hG
    have cS : ∀ d os, Calls Tryd.prog 35 #[.agg #[.bool c.ns, .bool c.nc, .int .i64 c.ma, .int .i64 c.sh]] (grow (redrawn w14 d) os) fun e w'' => e = .returned (.int .i64 y) ∧ ∃ p : Regrown, w'' = grow (redrawn w14 p.d) p.os := fun d os => Calls.regrown_of (LS.out _)
    have cA : ∀ d os, Calls Tryd.prog 33 #[.agg #[.bool false, .bool false, .int .i64 q0, .int .i64 (-1)]] (grow (redrawn w14 d) os) fun e w'' => e = .returned (.int .i64 q0) ∧ ∃ p : Regrown, w'' = grow (redrawn w14 p.d) p.os := fun d os => Calls.regrown_of (LA.out _)
    have cB : ∀ d os, Calls Tryd.prog 33 #[.agg #[.bool false, .bool false, .int .i64 q0, .int .i64 q1]] (grow (redrawn w14 d) os) fun e w'' => e = .returned (.int .i64 q1) ∧ ∃ p : Regrown, w'' = grow (redrawn w14 p.d) p.os := fun d os => Calls.regrown_of (LB.out _)
    have cC : ∀ d os, Calls Tryd.prog 33 #[.agg #[.bool false, .bool true, .int .i64 q0, .int .i64 (-1)]] (grow (redrawn w14 d) os) fun e w'' => e = .returned (.int .i64 0) ∧ ∃ p : Regrown, w'' = grow (redrawn w14 p.d) p.os := fun d os => Calls.regrown_of (LC.out _)
    have hgeb : decide (0 ≤ y) = true := decide_eq_true hge
    have hyy : (y == y) = true := by simp
    obtain ⟨ns, nc, ma, sh⟩ := c
    dsimp only at t0 t1 t2 t3 cS HNO
    try dsimp only [List.append]
    have zt0 := cell_regrown t0
    have zt1 := cell_regrown t1
    have zt2 := cell_regrown t2
    have zt3 := cell_regrown t3
    have za0 := cell_regrown a0
    have za1 := cell_regrown a1
    have za2 := cell_regrown a2
    have za3 := cell_regrown a3
    have zb0 := cell_regrown b0
    have zb1 := cell_regrown b1
    have zb2 := cell_regrown b2
    have zb3 := cell_regrown b3
    have zg0 := cell_regrown g0
    have zg1 := cell_regrown g1
    have zg2 := cell_regrown g2
    have zg3 := cell_regrown g3
    have zhz0 := cell_regrown hz0
    have zhz1 := cell_regrown hz1
    clear t0 t1 t2 t3 a0 a1 a2 a3 b0 b1 b2 b3 g0 g1 g2 g3 hz0 hz1
    clear LS LA LB LC HT HV HZ
    cases ns with
    | true =>
      have hy0 : (y == 0) = true := by rw [HNO.out (.inl rfl)]; rfl
      refine wp_region_quiet_below (by kernel_rfl) (by kernel_rfl) ?_
      repeat (first | go_big_quiet_step (first | with_reducible exact cS _ _ | with_reducible exact cA _ _ | with_reducible exact cB _ _ | with_reducible exact cC _ _) | quiet_step (first | with_reducible exact cS _ _ | with_reducible exact cA _ _ | with_reducible exact cB _ _ | with_reducible exact cC _ _))
      refine wpQuiet_nil ?_
      intro _ hw'
      obtain ⟨⟨dq, osq⟩, hw''⟩ := hw'
      subst hw''
      go_wp2
      go_ret
      exact ⟨rfl, HW.out.trans ((below_regrown w14 dq osq).mono HW.out.size)⟩
    | false =>
      cases nc with
      | true =>
        have hy0 : (y == 0) = true := by rw [HNO.out (.inr rfl)]; rfl
        refine wp_region_quiet_below (by kernel_rfl) (by kernel_rfl) ?_
        repeat (first | go_big_quiet_step (first | with_reducible exact cS _ _ | with_reducible exact cA _ _ | with_reducible exact cB _ _ | with_reducible exact cC _ _) | quiet_step (first | with_reducible exact cS _ _ | with_reducible exact cA _ _ | with_reducible exact cB _ _ | with_reducible exact cC _ _))
        refine wpQuiet_nil ?_
        intro _ hw'
        obtain ⟨⟨dq, osq⟩, hw''⟩ := hw'
        subst hw''
        go_wp2
        go_ret
        exact ⟨rfl, HW.out.trans ((below_regrown w14 dq osq).mono HW.out.size)⟩
      | false =>
        refine wp_region_quiet_below (by kernel_rfl) (by kernel_rfl) ?_
        repeat (first | go_big_quiet_step (first | with_reducible exact cS _ _ | with_reducible exact cA _ _ | with_reducible exact cB _ _ | with_reducible exact cC _ _) | quiet_step (first | with_reducible exact cS _ _ | with_reducible exact cA _ _ | with_reducible exact cB _ _ | with_reducible exact cC _ _))
        refine wpQuiet_nil ?_
        intro _ hw'
        obtain ⟨⟨dq, osq⟩, hw''⟩ := hw'
        subst hw''
        go_wp2
        go_ret
        exact ⟨rfl, HW.out.trans ((below_regrown w14 dq osq).mono HW.out.size)⟩
end Go.Proofs.YtnnaphfeeobeladDoor
