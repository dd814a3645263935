/- The walk of the law on DoAct. -/
import Derived.Test.YtghladeamdhlhalActSpec
import Derived.Test.YtghladeamdhlhalActImpl
import Derived.Test.YtghladeamdhlhalActLaw
import Derived.Test.YtghladeamdhlhalMarkFiles
import Derived.Test.YtghladeamdhlhalLawKit
import Derived.Deep.DeepCutAuto
import Derived.Deep.RegionLaw
import Derived.Deep.RegionHeld3
namespace Go.Proofs.Ytghladeamdhlhal
open Go.RowKit Go.Sort

theorem ac_len (L : List Fil) (A : Ac) : ((ac L A).getD []).length ≤ 30 := by
  cases h : ac L A with
  | none => simp
  | some X => simpa using dOk_len (ac_dOk h)

/-- A variable's block. -/
def DBox (w : World) (P : Nat) (v : Value) : Prop := w.heap[P]? = some (.cells #[v] 31 (0, 0))
theorem DBox.new (w : World) (v : Value) : DBox (w.alloc (.cells #[v] 31)) w.heap.size v := heap_alloc_new w _
theorem DBox.lt {w : World} {P : Nat} {v : Value} (h : DBox w P v) : P < w.heap.size := (Array.getElem?_eq_some_iff.1 h).1
theorem DBox.on {w w' : World} {P : Nat} {v : Value} (h : DBox w P v) (hb : Below w.heap.size w w') : DBox w' P v := (hb.block P h.lt).trans h
theorem DBox.cell {w : World} {P : Nat} {v : Value} (h : DBox w P v) : w.cell? ⟨P, 0, none⟩ = some v := by unfold DBox at h; simp [World.cell?, h]
theorem DBox.thaw {w : World} {P : Nat} {v : Value} (h : DBox w P v) : w.frozen? ⟨P, 0, none⟩ = false := by unfold DBox at h; simp [World.frozen?, h]
theorem DBox.set {w : World} {P : Nat} {v : Value} (h : DBox w P v) (u : Value) : DBox (w.setCell ⟨P, 0, none⟩ u) P u := by
  unfold DBox at *
  simp only [World.setCell, Array.getElem?_modify, h]
  simp
theorem DBox.ne {w : World} {P : Nat} {v u : Value} {b : Nat} {L : List Fil} (h : DBox w P v) (ho : OwnF w b 63 u L) : ∀ k, u.ownBlock = some k → k ≠ P := by
  rintro k hk rfl
  rcases ho.2 with ⟨rfl, _⟩ | ⟨g, cap, cur, rfl, _, hg, _⟩
  · simp [Value.ownBlock] at hk
  · simp [Value.ownBlock] at hk
    subst hk
    have := h.symm.trans hg
    simp at this
theorem OwnF.setBox {w : World} {P b : Nat} {v u x : Value} {L : List Fil} (ho : OwnF w b 63 u L) (h : DBox w P v) : OwnF (w.setCell ⟨P, 0, none⟩ x) b 63 u L :=
  ho.kept fun k hk => heap_setCell_other _ _ _ _ (by simpa using h.ne ho k hk)

/-- What a law holds of the disks that it has at hand: the other text's answer v0, what was handed in vx, the program's answer vg, each in a variable of its own. -/
structure Hnd (P0 X0 G0 : Nat) (v0 vx vg : Value) (L M : List Fil) (wi : World) : Prop where
  c0 : DBox wi P0 v0
  cx : DBox wi X0 vx
  cg : DBox wi G0 vg
  o0 : OwnF wi 0 63 v0 M
  og : OwnF wi 0 63 vg L
theorem Hnd.next {P0 X0 G0 : Nat} {v0 vx vg : Value} {L M : List Fil} {wi wj : World} (h : Hnd P0 X0 G0 v0 vx vg L M wi) (hb : Below wi.heap.size wi wj) : Hnd P0 X0 G0 v0 vx vg L M wj :=
  ⟨h.c0.on hb, h.cx.on hb, h.cg.on hb, h.o0.below hb (Nat.le_refl _), h.og.below hb (Nat.le_refl _)⟩
theorem DBox.grown {w w' : World} {P : Nat} {v : Value} {row : Option Nat} (h : DBox w P v) (hg : w.grownBy w' row) (hn : ∀ k, row = some k → k ≠ P) : DBox w' P v := (hg.block P h.lt (fun e => hn P e.symm rfl)).trans h
/-- What was handed in is marked. -/
theorem Hnd.grown {P0 X0 G0 : Nat} {v0 vx vg : Value} {L M X : List Fil} {wi wj : World} {b : Nat} (h : Hnd P0 X0 G0 v0 vx vg L M wi) (hg : wi.grownBy wj vx.ownBlock) (ho : OwnF wi b 63 vx X) (h0 : ∀ k, vx.ownBlock = some k → v0.ownBlock ≠ some k) (h1 : ∀ k, vx.ownBlock = some k → vg.ownBlock ≠ some k) : Hnd P0 X0 G0 v0 vx vg L M wj :=
  ⟨h.c0.grown hg (h.c0.ne ho), h.cx.grown hg (h.cx.ne ho), h.cg.grown hg (h.cg.ne ho), h.o0.grown hg (fun k hk e => h0 k e hk), h.og.grown hg (fun k hk e => h1 k e hk)⟩
/-- The answer's own marks are laid. -/
theorem Hnd.marked {P0 X0 G0 : Nat} {v0 vx vg : Value} {L M N : List Fil} {wi wj : World} {b : Nat} (h : Hnd P0 X0 G0 v0 vx vg L M wi) (hg : wi.grownBy wj vg.ownBlock) (h0 : ∀ k, vg.ownBlock = some k → v0.ownBlock ≠ some k) (ho : OwnF wj b 63 vg N) : Hnd P0 X0 G0 v0 vx vg N M wj :=
  ⟨h.c0.grown hg (h.c0.ne h.og), h.cx.grown hg (h.cx.ne h.og), h.cg.grown hg (h.cg.ne h.og), h.o0.grown hg (fun k hk e => h0 k e hk), ho.mono (Nat.zero_le _)⟩

set_option maxRecDepth 100000 in
set_option maxHeartbeats 4000000 in
theorem doAct_walk (a : Option Addr) (cap : Nat) (L : List Fil) (A : Ac) (w : World) (hL : FAt w a L w.heap.size) (hs : Sized L) (hm : L.length ≤ maxLen) (hA : A.Sized) :
    Calls Try.prog 3 #[.agg #[.slice a L.length cap], .agg #[.int .i64 A.kd, .string A.nm, .string A.tx, .string A.to]] w fun e w' => e = .returned (.bool true) ∧ Below w.heap.size w w' := by
  obtain ⟨wb, hwb⟩ : ∃ wb, (w.alloc (.cells #[.slice a L.length cap] 24)).alloc (.cells #[.int .i64 A.kd, .string A.nm, .string A.tx, .string A.to] 26) = wb := ⟨_, rfl⟩
  have hb : Below w.heap.size w wb := by rw [← hwb]; exact ((Below.refl _ w).alloc (Nat.le_refl _) _).alloc (by simp) _
  have HS : Hid (wb.heap.size = w.heap.size + 2) := by show _ = _; rw [← hwb]; simp
  have hLb : FAt wb a L wb.heap.size := FAt.on hL hb
  have HB : Hid (∀ wi, Below wb.heap.size wb wi → wi.cell? ⟨w.heap.size, 0, none⟩ = some (.slice a L.length cap) ∧ wi.cell? ⟨w.heap.size + 1, 0, none⟩ = some (.int .i64 A.kd) ∧ wi.cell? ⟨w.heap.size + 1, 1, none⟩ = some (.string A.nm) ∧ wi.cell? ⟨w.heap.size + 1, 2, none⟩ = some (.string A.tx) ∧ wi.cell? ⟨w.heap.size + 1, 3, none⟩ = some (.string A.to) ∧ FAt wi a L wi.heap.size ∧ Below w.heap.size w wi) := by
    intro wi hi
    have hs2 := HS.out
    refine ⟨(hi.cell (p := ⟨w.heap.size, 0, none⟩) (by simp; omega)).trans (by rw [← hwb]; simp), (hi.cell (p := ⟨w.heap.size + 1, 0, none⟩) (by simp; omega)).trans (by rw [← hwb]; simp), (hi.cell (p := ⟨w.heap.size + 1, 1, none⟩) (by simp; omega)).trans (by rw [← hwb]; simp), (hi.cell (p := ⟨w.heap.size + 1, 2, none⟩) (by simp; omega)).trans (by rw [← hwb]; simp), (hi.cell (p := ⟨w.heap.size + 1, 3, none⟩) (by simp; omega)).trans (by rw [← hwb]; simp), FAt.on hLb hi, bthen hb hi⟩
  have c0 := szDisk_any wb a cap L 1048576 (by omega) (by omega) hLb hs hm
  have HW : Hid ((w.alloc (.cells #[.slice a L.length cap] 24)).alloc (.cells #[.int .i64 A.kd, .string A.nm, .string A.tx, .string A.to] 26) = wb) := hwb
  clear hL hs hb hwb hLb
  go_enter Try.func3, Try.ntmps3
  go_wp2_with fail
  rw [HW.out]
  refine c0.mono ?_
  rintro e w1 ⟨r, rfl, hr, hb1⟩
  obtain ⟨q1, t10, t11, t12, t13, hL1, hw1⟩ := HB.out w1 hb1
  clear c0
  rcases hr with rfl | ⟨hr0, hr1⟩
  · go_wp2
    go_ret
    exact ⟨rfl, hw1⟩
  have c1 := szAct_any w1 A r hr0 (by omega) hA
  go_wp2_with fail
  refine c1.mono ?_
  rintro e w2 ⟨r2, rfl, hr2, hb2⟩
  have hB2 := bthen hb1 hb2
  obtain ⟨q2, t20, t21, t22, t23, hL2, hw2⟩ := HB.out w2 hB2
  clear c1 q1 t10 t11 t12 t13 hL1 hw1
  rcases hr2 with rfl | ⟨hp0, hp1⟩
  · go_wp2
    go_ret
    exact ⟨rfl, hw2⟩
  have hlen : L.length ≤ 1048576 := by omega
  have hwg : A.nm.size + A.tx.size + A.to.size ≤ 1048576 := by have : A.wg = A.nm.size + A.tx.size + A.to.size := rfl; omega
  have hMl := ac_len L A
  obtain ⟨M, hM⟩ : ∃ M, (ac L A).getD [] = M := ⟨_, rfl⟩
  obtain ⟨ok, hok⟩ : ∃ ok, (ac L A).isSome = ok := ⟨_, rfl⟩
  have CS : Hid (∀ (wi : World) (x : Option Addr) (cx : Nat), FAt wi x L wi.heap.size → Calls Try.prog 10 #[.agg #[.slice x L.length cx], .agg #[.int .i64 A.kd, .string A.nm, .string A.tx, .string A.to]] wi fun e w' => ∃ y cy, e = .returned (.tuple #[.agg #[.slice y M.length cy], .bool ok]) ∧ OwnF w' wi.heap.size 63 (.slice y M.length cy) M ∧ Below wi.heap.size wi w') := by
    intro wi x cx h1
    refine (specDoAct_any wi x cx L A.kd A.nm A.tx A.to h1 hlen (by omega)).mono ?_
    rintro e w' ⟨v, he, ho, hb⟩
    rw [show (⟨A.kd, A.nm, A.tx, A.to⟩ : Ac) = A from rfl, spA_ac] at he ho
    rw [hM] at ho
    rw [hok] at he
    obtain ⟨y, cy, rfl, _⟩ := ho.shape
    exact ⟨y, cy, he, ho, hb⟩
  have CI : Hid (∀ (wi : World) (x : Option Addr) (cx : Nat), FAt wi x L wi.heap.size → Calls Try.prog 13 #[.agg #[.slice x L.length cx], .agg #[.int .i64 A.kd, .string A.nm, .string A.tx, .string A.to]] wi fun e w' => ∃ y cy, e = .returned (.tuple #[.agg #[.slice y M.length cy], .bool ok]) ∧ OwnF w' wi.heap.size 63 (.slice y M.length cy) M ∧ Below wi.heap.size wi w') := by
    intro wi x cx h1
    refine (implDoAct_any wi x cx L A.kd A.nm A.tx A.to h1 hlen (by unfold maxLen; omega)).mono ?_
    rintro e w' ⟨v, he, ho, hb⟩
    rw [show (⟨A.kd, A.nm, A.tx, A.to⟩ : Ac) = A from rfl] at he ho
    rw [hM] at ho
    rw [hok] at he
    obtain ⟨y, cy, rfl, _⟩ := ho.shape
    exact ⟨y, cy, he, ho, hb⟩
  rw [hM] at hMl
  clear hM hok hr1 hp1 hA hwg
  have hd2 : Below w2.heap.size w2 w2.drew := ⟨rfl, rfl, rfl, Nat.le_refl _, fun _ _ => rfl⟩
  obtain ⟨x20, x21, x22, x23, x24, _, _⟩ := HB.out (w2.alloc (.cells #[.slice none 0 0] 31)) (bthen hB2 (bplus (Below.refl _ _) _))
  go_wp2_with fail
  go_cut [6, 7] (fun p okv wc => ∃ (P0 : Nat) (a4 : Option Addr) (cap4 : Nat), p = .pointer (some ⟨P0, 0, none⟩) ∧ okv = .bool ok ∧ DBox wc P0 (.slice a4 M.length cap4) ∧ OwnF wc w2.heap.size 63 (.slice a4 M.length cap4) M ∧ w2.heap.size ≤ P0 ∧ Below w2.heap.size w2 wc)
  case first =>
    go_region_law (first
      | (go_simp; go_at_call 11; first
          | (refine (toDisk_any w2.drew a cap L (FAt.on hL2 hd2) hlen).mono ?_; rintro e wA ⟨vA, rfl, hoA, hbA⟩; have hA1 := bthen hd2 hbA; obtain ⟨aA, capA, rfl, hAA⟩ := hoA.at; clear hoA hbA; obtain ⟨_, m0, m1, m2, m3, _, _⟩ := HB.out wA (bthen hB2 hA1); have n0 := kept_x_new m0 (.cells #[.slice none 0 0] 31); have n1 := kept_x_new m1 (.cells #[.slice none 0 0] 31); have n2 := kept_x_new m2 (.cells #[.slice none 0 0] 31); have n3 := kept_x_new m3 (.cells #[.slice none 0 0] 31))
          | (refine (toDisk_any (w2.drew.alloc (.cells #[.slice none 0 0] 31)) a cap L (FAt.on hL2 (bplus hd2 _)) hlen).mono ?_; rintro e wA ⟨vA, rfl, hoA, hbA⟩; have hz : DBox wA w2.heap.size (.slice none 0 0) := (DBox.new w2.drew (.slice none 0 0)).on hbA; have hA1 := bthen (bplus hd2 _) hbA; obtain ⟨aA, capA, rfl, hAA⟩ := hoA.at; clear hoA hbA; obtain ⟨_, m0, m1, m2, m3, _, _⟩ := HB.out wA (bthen hB2 hA1); have n0 := kept_x_new m0 (.cells #[.slice none 0 0] 31); have n1 := kept_x_new m1 (.cells #[.slice none 0 0] 31); have n2 := kept_x_new m2 (.cells #[.slice none 0 0] 31); have n3 := kept_x_new m3 (.cells #[.slice none 0 0] 31)))
      | (go_simp; go_at_call 12; first
          | (refine (toAct_any wA A).mono ?_; rintro e wB ⟨rfl, hbB⟩; have hB1 := bthen hA1 hbB; have hAB := FAt.on hAA hbB; (try replace hz := DBox.on hz hbB); clear hbB)
          | (refine (toAct_any (wA.alloc (.cells #[.slice none 0 0] 31)) A).mono ?_; rintro e wB ⟨rfl, hbB⟩; have hz := (DBox.new wA (.slice none 0 0)).on hbB; have hB1 := bthen (bplus hA1 _) hbB; have hAB := FAt.on (FAt.on hAA (bplus (Below.refl _ _) _)) hbB; clear hbB))
      | (go_simp; go_at_call 10; first
          | (refine (CS.out wB aA capA hAB).mono ?_; rintro e wC ⟨y, cy, rfl, hoC, hbC⟩; have hC1 := bthen hB1 hbC; have hoC' := hoC.mono hB1.size; (try replace hz := DBox.on hz hbC); (try have qz := hz.cell); (try have zz := hz.thaw); clear hoC hbC)
          | (refine (CS.out (wB.alloc (.cells #[.slice none 0 0] 31)) aA capA (FAt.on hAB (bplus (Below.refl _ _) _))).mono ?_; rintro e wC ⟨y, cy, rfl, hoC, hbC⟩; have hz := (DBox.new wB (.slice none 0 0)).on hbC; have hC1 := bthen (bplus hB1 _) hbC; have hoC' := hoC.mono (bplus hB1 _).size; have qz := hz.cell; have zz := hz.thaw; clear hoC hbC)))
    all_goals go_wp2_with fail
    all_goals go_meet
    all_goals first
      | exact ⟨_, y, cy, rfl, rfl, hz.set _, hoC'.setBox hz, by have := hA1.size; have := hB1.size; simp; try omega, hC1.setCell (by have := hA1.size; have := hB1.size; simp; try omega) _⟩
      | exact ⟨_, y, cy, rfl, rfl, DBox.new _ _, hoC'.alloc _, hC1.size, bplus hC1 _⟩
      | trace_state
  case rest =>
    obtain ⟨P0, a4, cap4, rfl, rfl, hx0, ho4, hP0, hb4⟩ := hcut
    obtain ⟨w4, rfl⟩ : ∃ w4, wc = w4 := ⟨_, rfl⟩
    have hB4 := bthen hB2 hb4
    obtain ⟨q4, t40, t41, t42, t43, hL4, hw4⟩ := HB.out wc hB4
    clear q2 t20 t21 t22 t23 hL2 hw2 hd2 x20 x21 x22 x23 x24
    go_wp2_with fail
    refine (toDisk_any wc a cap L hL4 hlen).mono ?_
    rintro e w6 ⟨v6, rfl, ho6, hb6⟩
    obtain ⟨a6, cap6, rfl, hA6⟩ := ho6.at
    have hB6 := bthen hB4 hb6
    have hx6 := hx0.on hb6
    have ho46 := ho4.below hb6 (Nat.le_refl _)
    obtain ⟨w7, hw7⟩ : ∃ w7, w6.alloc (.cells #[.slice a6 L.length cap6] 31) = w7 := ⟨_, rfl⟩
    have hb7 : Below w6.heap.size w6 w7 := by rw [← hw7]; exact bplus (Below.refl _ _) _
    have hxx : DBox w7 w6.heap.size (.slice a6 L.length cap6) := by rw [← hw7]; exact DBox.new _ _
    have hs7 : w6.heap.size < w7.heap.size := by rw [← hw7]; simp
    have HW7 : Hid (w6.alloc (.cells #[.slice a6 L.length cap6] 31) = w7) := hw7
    clear hw7
    have hB7 := bthen hB6 hb7
    obtain ⟨q7, t70, t71, t72, t73, hL7, hw7'⟩ := HB.out w7 hB7
    have cx7 := hxx.cell
    have hA7 := FAt.on hA6 hb7
    have hd7 : Below w7.heap.size w7 w7.drew := ⟨rfl, rfl, rfl, Nat.le_refl _, fun _ _ => rfl⟩
    rw [← HW7.out] at q7 t70 t71 t72 t73 cx7
    clear q4 t40 t41 t42 t43 hL4 hw4
    go_wp2_with fail
    rw [HW7.out] at q7 t70 t71 t72 t73 cx7 ⊢
    obtain ⟨_, y71, y72, y73, y74, _, _⟩ := HB.out (w7.alloc (.cells #[.slice none 0 0] 31)) (bthen hB7 (bplus (Below.refl _ _) _))
    have y7x := (hxx.on (bplus (Below.refl _ _) (.cells #[.slice none 0 0] 31))).cell
    go_cut [9, 10] (fun p okv wc => ∃ (P0 : Nat) (a4 : Option Addr) (cap4 : Nat), p = .pointer (some ⟨P0, 0, none⟩) ∧ okv = .bool ok ∧ DBox wc P0 (.slice a4 M.length cap4) ∧ OwnF wc w7.heap.size 63 (.slice a4 M.length cap4) M ∧ w7.heap.size ≤ P0 ∧ Below w7.heap.size w7 wc)
    case first =>
      go_region_law (first
        | (go_simp; go_at_call 12; first
            | (refine (toAct_any w7.drew A).mono ?_; rintro e wB ⟨rfl, hbB⟩; have hB1 := bthen hd7 hbB; have hAB := FAt.on hA7 hB1; have xB := (hxx.on hB1).cell; have xBz := kept_x_new xB (.cells #[.slice none 0 0] 31); clear hbB)
            | (refine (toAct_any (w7.drew.alloc (.cells #[.slice none 0 0] 31)) A).mono ?_; rintro e wB ⟨rfl, hbB⟩; have hz : DBox wB w7.heap.size (.slice none 0 0) := (DBox.new w7.drew (.slice none 0 0)).on hbB; have hB1 := bthen (bplus hd7 _) hbB; have hAB := FAt.on hA7 hB1; have xB := (hxx.on hB1).cell; clear hbB))
        | (go_simp; go_at_call 13; first
            | (refine (CI.out wB a6 cap6 hAB).mono ?_; rintro e wC ⟨y, cy, rfl, hoC, hbC⟩; have hC1 := bthen hB1 hbC; have hoC' := hoC.mono hB1.size; (try replace hz := DBox.on hz hbC); (try have qz := hz.cell); (try have zz := hz.thaw); clear hoC hbC)
            | (refine (CI.out (wB.alloc (.cells #[.slice none 0 0] 31)) a6 cap6 (FAt.on hAB (bplus (Below.refl _ _) _))).mono ?_; rintro e wC ⟨y, cy, rfl, hoC, hbC⟩; have hz := (DBox.new wB (.slice none 0 0)).on hbC; have hC1 := bthen (bplus hB1 _) hbC; have hoC' := hoC.mono (bplus hB1 _).size; have qz := hz.cell; have zz := hz.thaw; clear hoC hbC)))
      all_goals go_wp2_with fail
      all_goals go_meet
      all_goals first
        | exact ⟨_, y, cy, rfl, rfl, hz.set _, hoC'.setBox hz, by have := hB1.size; simp; try omega, hC1.setCell (by have := hB1.size; simp; try omega) _⟩
        | exact ⟨_, y, cy, rfl, rfl, DBox.new _ _, hoC'.alloc _, hC1.size, bplus hC1 _⟩
        | trace_state
    case rest =>
      obtain ⟨G0, a9, cap9, rfl, rfl, hg0, ho9, hG0, hb9⟩ := hcut
      obtain ⟨w10, hw10⟩ : ∃ w10, wc = w10 := ⟨_, rfl⟩
      rw [hw10] at hg0 ho9 hb9 ⊢
      have hB10 := bthen hB7 hb9
      have hb69 := bthen hb7 hb9
      have H10 : Hnd P0 w6.heap.size G0 (.slice a4 M.length cap4) (.slice a6 L.length cap6) (.slice a9 M.length cap9) M M w10 :=
        ⟨hx6.on hb69, hxx.on hb9, hg0, (ho46.below hb69 (Nat.le_refl _)).mono (Nat.zero_le _), ho9.mono (Nat.zero_le _)⟩
      have hx10 : OwnF w10 0 63 (.slice a6 L.length cap6) L := (ho6.below hb69 (Nat.le_refl _)).mono (Nat.zero_le _)
      have H0X : Hid (∀ k, (Value.slice a6 L.length cap6).ownBlock = some k → (Value.slice a4 M.length cap4).ownBlock ≠ some k) := fun k hk he => by
        have h1 := (ho6.lt k hk).1
        have h2 := (ho4.lt k he).2
        omega
      have HGX : Hid (∀ k, (Value.slice a6 L.length cap6).ownBlock = some k → (Value.slice a9 M.length cap9).ownBlock ≠ some k) := fun k hk he => by
        have h1 := (ho6.lt k hk).2
        have h2 := (ho9.lt k he).1
        omega
      have H0G : Hid (∀ k, (Value.slice a9 M.length cap9).ownBlock = some k → (Value.slice a4 M.length cap4).ownBlock ≠ some k) := fun k hk he => by
        have h1 := (ho9.lt k hk).1
        have h2 := (ho46.lt k he).2
        omega
      have HXb : Hid (∀ k, (Value.slice a6 L.length cap6).ownBlock = some k → wb.heap.size ≤ k) := fun k hk => Nat.le_trans hB4.size (ho6.lt k hk).1
      have HGb : Hid (∀ k, (Value.slice a9 M.length cap9).ownBlock = some k → wb.heap.size ≤ k) := fun k hk => Nat.le_trans hB7.size (ho9.lt k hk).1
      clear hw10 hx0 ho4 hP0 hb4 ho6 hA6 hx6 ho46 hxx hs7 q7 t70 t71 t72 t73 hL7 hw7' cx7 hA7 hd7 y71 y72 y73 y74 y7x hg0 ho9 hG0 hb6 hb7 hb9 hb69 hB4 hB6 hB7 HW7
      have c10a := H10.c0.cell
      have c10b := H10.cg.cell
      go_wp2_with fail
      refine (eqDisk_same w10 0 0 _ _ M H10.og H10.o0 (by omega)).mono ?_
      rintro e w11 ⟨rfl, hb11⟩
      have hB11 := bthen hB10 hb11
      have H11 := H10.next hb11
      have hx11 := hx10.below hb11 (Nat.le_refl _)
      obtain ⟨q11, _, _, _, _, hL11, hw11⟩ := HB.out w11 hB11
      have c11 := H11.cx.cell
      have hS0 : Below w11.heap.size w11 w11.drew ∧ w11.drew.cell? ⟨w6.heap.size, 0, none⟩ = some (.slice a6 L.length cap6) ∧ w11.drew.cell? ⟨w.heap.size, 0, none⟩ = some (.slice a L.length cap) := ⟨⟨rfl, rfl, rfl, Nat.le_refl _, fun _ _ => rfl⟩, c11, q11⟩
      have hp1 : w6.heap.size < w11.heap.size := H11.cx.lt
      have hp2 : w.heap.size < w11.heap.size := World.block_lt_of_cell? w11 _ q11
      clear c10a c10b H10 hx10
      go_wp2
      go_region_held3 (fun w' => Below w11.heap.size w11 w' ∧ w'.cell? ⟨w6.heap.size, 0, none⟩ = some (.slice a6 L.length cap6) ∧ w'.cell? ⟨w.heap.size, 0, none⟩ = some (.slice a L.length cap)) (first | exact hS0 | (refine kept2 (by assumption) hp1 hp2 ?_; assumption))
        (first
          | (go_at_call 11; refine (toDisk_any _ a cap L (FAt.on hL11 (And.left (by assumption))) hlen).mono ?_; rintro e w12 ⟨v12, rfl, ho12, hb12⟩; obtain ⟨a12, cap12, rfl, hA12⟩ := ho12.at)
          | (go_at_call 14; refine (eqDisk_same _ _ _ _ _ L (hx11.below (And.left (by assumption)) (Nat.le_refl _)) ho12 hlen).mono ?_; rintro e w13 ⟨rfl, hb13⟩))
      have h11to13 : Below w11.heap.size w11 w13 := And.left (by assumption)
      have hB13 := bthen hB11 h11to13
      have H13 := H11.next h11to13
      have hx13 := hx11.below h11to13 (Nat.le_refl _)
      have c13 := H13.cx.cell
      clear q11 hL11 hw11 c11 hS0 hp1 hp2 H11 hx11 ho12 hA12
      go_wp2_with fail
      refine (markDisk_any w13 0 _ L 1 hx13 hlen (by omega) (by omega)).mono ?_
      rintro e w16 ⟨he16, ho16, hg16⟩
      obtain ⟨k16, hk16⟩ : ∃ k16 : Nat, 1 + 3 * L.length = k16 := ⟨_, rfl⟩
      rw [hk16] at he16
      subst he16
      have hd16 : decide ((k16 : Int) < 0) = false := decide_eq_false (by omega)
      have hB16 : Below wb.heap.size wb w16 := Below.grown hB13 hg16 hB13.size (fun k hk => HXb.out k hk)
      have H16 := H13.grown hg16 hx13 H0X.out HGX.out
      have c16a := H16.c0.cell
      have c16b := H16.cg.cell
      clear hk16 c13 hx13 H13 hg16 ho16
      go_wp2_with fail
      refine (eqDisk_same w16 0 0 _ _ M H16.og H16.o0 (by omega)).mono ?_
      rintro e w18 ⟨rfl, hb18⟩
      have hB18 := bthen hB16 hb18
      have H18 := H16.next hb18
      have c18 := H18.cg.cell
      clear c16a c16b H16
      go_wp2_with fail
      refine (markDisk_any w18 0 _ M 1 H18.og (by omega) (by omega) (by omega)).mono ?_
      rintro e w19 ⟨he19, ho19, hg19⟩
      obtain ⟨m, hm19⟩ : ∃ m : Nat, 1 + 3 * M.length = m := ⟨_, rfl⟩
      rw [hm19] at he19
      subst he19
      have hB19 : Below wb.heap.size wb w19 := Below.grown hB18 hg19 hB18.size (fun k hk => HGb.out k hk)
      have H19 := H18.marked hg19 H0G.out ho19
      have c19 := H19.cg.cell
      have CH : Hid (∀ wi, OwnF wi 0 63 (.slice a9 M.length cap9) (mfl 1 M.length) → Calls Try.prog 16 #[.agg #[.slice a9 M.length cap9], .int .i64 ((1 : Nat) : Int)] wi fun e w' => e = .returned (.int .i64 (m : Int)) ∧ Below wi.heap.size wi w') := by
        intro wi ho
        rw [← hm19]
        exact heldDisk_any wi 0 _ M.length 1 ho (by omega) (by omega) (by omega)
      have hdm : decide ((m : Int) < 0) = false := decide_eq_false (by omega)
      clear hm19 c18 H18 hg19 ho19 hd16
      go_wp2_with fail
      refine (CH.out w19 H19.og).mono ?_
      rintro e w20 ⟨rfl, hb20⟩
      have hB20 := bthen hB19 hb20
      have H20 := H19.next hb20
      obtain ⟨q20, t200, t201, t202, t203, hL20, hw20⟩ := HB.out w20 hB20
      have hd20 : Below w20.heap.size w20 w20.drew := ⟨rfl, rfl, rfl, Nat.le_refl _, fun _ _ => rfl⟩
      obtain ⟨x20, x21, x22, x23, x24, _, _⟩ := HB.out (w20.alloc (.cells #[.slice none 0 0] 31)) (bthen hB20 (bplus (Below.refl _ _) _))
      clear c19 H19
      go_wp2_with fail
      go_cut [14, 15] (fun p okv wc => ∃ (P0 : Nat) (a4 : Option Addr) (cap4 : Nat), p = .pointer (some ⟨P0, 0, none⟩) ∧ okv = .bool ok ∧ DBox wc P0 (.slice a4 M.length cap4) ∧ OwnF wc w20.heap.size 63 (.slice a4 M.length cap4) M ∧ w20.heap.size ≤ P0 ∧ Below w20.heap.size w20 wc)
      case first =>
        go_region_law (first
          | (go_simp; go_at_call 11; first
              | (refine (toDisk_any w20.drew a cap L (FAt.on hL20 hd20) hlen).mono ?_; rintro e wA ⟨vA, rfl, hoA, hbA⟩; have hA1 := bthen hd20 hbA; obtain ⟨aA, capA, rfl, hAA⟩ := hoA.at; clear hoA hbA; obtain ⟨_, m0, m1, m2, m3, _, _⟩ := HB.out wA (bthen hB20 hA1); have n0 := kept_x_new m0 (.cells #[.slice none 0 0] 31); have n1 := kept_x_new m1 (.cells #[.slice none 0 0] 31); have n2 := kept_x_new m2 (.cells #[.slice none 0 0] 31); have n3 := kept_x_new m3 (.cells #[.slice none 0 0] 31))
              | (refine (toDisk_any (w20.drew.alloc (.cells #[.slice none 0 0] 31)) a cap L (FAt.on hL20 (bplus hd20 _)) hlen).mono ?_; rintro e wA ⟨vA, rfl, hoA, hbA⟩; have hz : DBox wA w20.heap.size (.slice none 0 0) := (DBox.new w20.drew (.slice none 0 0)).on hbA; have hA1 := bthen (bplus hd20 _) hbA; obtain ⟨aA, capA, rfl, hAA⟩ := hoA.at; clear hoA hbA; obtain ⟨_, m0, m1, m2, m3, _, _⟩ := HB.out wA (bthen hB20 hA1); have n0 := kept_x_new m0 (.cells #[.slice none 0 0] 31); have n1 := kept_x_new m1 (.cells #[.slice none 0 0] 31); have n2 := kept_x_new m2 (.cells #[.slice none 0 0] 31); have n3 := kept_x_new m3 (.cells #[.slice none 0 0] 31)))
          | (go_simp; go_at_call 12; first
              | (refine (toAct_any wA A).mono ?_; rintro e wB ⟨rfl, hbB⟩; have hB1 := bthen hA1 hbB; have hAB := FAt.on hAA hbB; (try replace hz := DBox.on hz hbB); clear hbB)
              | (refine (toAct_any (wA.alloc (.cells #[.slice none 0 0] 31)) A).mono ?_; rintro e wB ⟨rfl, hbB⟩; have hz := (DBox.new wA (.slice none 0 0)).on hbB; have hB1 := bthen (bplus hA1 _) hbB; have hAB := FAt.on (FAt.on hAA (bplus (Below.refl _ _) _)) hbB; clear hbB))
          | (go_simp; go_at_call 13; first
              | (refine (CI.out wB aA capA hAB).mono ?_; rintro e wC ⟨y, cy, rfl, hoC, hbC⟩; have hC1 := bthen hB1 hbC; have hoC' := hoC.mono hB1.size; (try replace hz := DBox.on hz hbC); (try have qz := hz.cell); (try have zz := hz.thaw); clear hoC hbC)
              | (refine (CI.out (wB.alloc (.cells #[.slice none 0 0] 31)) aA capA (FAt.on hAB (bplus (Below.refl _ _) _))).mono ?_; rintro e wC ⟨y, cy, rfl, hoC, hbC⟩; have hz := (DBox.new wB (.slice none 0 0)).on hbC; have hC1 := bthen (bplus hB1 _) hbC; have hoC' := hoC.mono (bplus hB1 _).size; have qz := hz.cell; have zz := hz.thaw; clear hoC hbC)))
        all_goals go_wp2_with fail
        all_goals go_meet
        all_goals first
          | exact ⟨_, y, cy, rfl, rfl, hz.set _, hoC'.setBox hz, by have := hA1.size; have := hB1.size; simp; try omega, hC1.setCell (by have := hA1.size; have := hB1.size; simp; try omega) _⟩
          | exact ⟨_, y, cy, rfl, rfl, DBox.new _ _, hoC'.alloc _, hC1.size, bplus hC1 _⟩
          | trace_state
      case rest =>
        obtain ⟨Y0, a23, cap23, rfl, rfl, hy0, ho23, _, hb23⟩ := hcut
        have H24 := H20.next hb23
        have hB24 := bthen hB20 hb23
        have c24 := H24.c0.cell
        have c24y := hy0.cell
        clear q20 t200 t201 t202 t203 hL20 hw20 x20 x21 x22 x23 x24 hd20 H20
        go_wp2_with fail
        refine (eqDisk_same wc _ 0 _ _ M ho23 H24.o0 (by omega)).mono ?_
        rintro e w25 ⟨rfl, hb25⟩
        have hB25 := bthen hB24 hb25
        have H25 := H24.next hb25
        have c25 := H25.cg.cell
        clear c24 c24y H24
        go_wp2_with fail
        refine (CH.out w25 H25.og).mono ?_
        rintro e w26 ⟨rfl, hb26⟩
        have hB26 := bthen hB25 hb26
        clear c25
        go_wp2
        go_ret
        exact ⟨rfl, (HB.out w26 hB26).2.2.2.2.2.2⟩
end Go.Proofs.Ytghladeamdhlhal
