/- What may be kept: the program. -/
import Derived.Test.YtnnaphfeeobeladDoorControlOfImpl
import Derived.Test.YtnnaphfeeobeladDoorLifeImpl
import Derived.Test.YtnnaphfeeobeladDoorTargetImpl
import Derived.Test.YtnnaphfeeobeladDoorStatusImpl
import Derived.Test.YtnnaphfeeobeladDoorFieldOfImpl
import Derived.Test.YtnnaphfeeobeladDoorFieldOfSpec
import Derived.Test.YtnnaphfeeobeladDoorStorablePlain
namespace Go.Proofs.YtnnaphfeeobeladDoor
open Go.RowKit Go.Sort
set_option maxRecDepth 100000 in
set_option maxHeartbeats 4000000 in
theorem implControlIn_any (w : World) (a : Option Addr) (c : Nat) (line : ByteArray) (L : List (ByteArray × ByteArray)) (hA : DAt w a L w.heap.size) (hz : HdSz line L) (d : Ct) (hd : controlS (fieldOfS L ccN).1.data.toList = d) :
    Calls Tryd.prog 75 #[.agg #[.string line, .slice a L.length c]] w fun e w' => e = .returned (.agg #[.bool d.ns, .bool d.nc, .int .i64 d.ma, .int .i64 d.sh]) ∧ Below w.heap.size w w' := by
  obtain ⟨wa, hwa⟩ : ∃ wa, w.alloc (.cells #[.string line, .slice a L.length c] 27) = wa := ⟨_, rfl⟩
  obtain ⟨wb, hwb⟩ : ∃ wb, wa.alloc (.cells #[.bool false, .bool false, .int .i64 0, .int .i64 0] 47) = wb := ⟨_, rfl⟩
  obtain ⟨R, hR⟩ : ∃ R, wa.heap.size = R := ⟨_, rfl⟩
  have ba : Below w.heap.size w wa := by rw [← hwa]; exact (Below.refl _ _).alloc (Nat.le_refl _) _
  have bb : Below wa.heap.size wa wb := by rw [← hwb]; exact (Below.refl _ _).alloc (Nat.le_refl _) _
  have hX : KBy wb w.heap.size (.string line) (.slice a L.length c) := by
    have h1 : KBy wa w.heap.size (.string line) (.slice a L.length c) := by rw [← hwa]; exact heap_alloc_new w _
    exact h1.on bb
  have y1 : CtB wb R ⟨false, false, 0, 0⟩ := by rw [← hwb, ← hR]; exact heap_alloc_new wa _
  have hbb : Below w.heap.size w wb := ba.trans (bb.mono ba.size)
  have hAb := hA.on hbb
  have c1 := implFieldOf_any wb a c line L ccN hAb hz (by decide)
  have hqz : (fieldOfS L ccN).1.size ≤ 1048576 := fieldOfS_size ccN hz
  generalize (fieldOfS L ccN).1 = q at c1 hd hqz
  generalize (fieldOfS L ccN).2 = q2 at c1
  have CQ : Hid (∀ wi, Calls Tryd.prog 28 #[.string q] wi fun e w' => e = .returned (.agg #[.bool d.ns, .bool d.nc, .int .i64 d.ma, .int .i64 d.sh]) ∧ Below wi.heap.size wi w') := by
    intro wi
    have h := implControlOf_any q wi hqz
    rw [hd] at h
    exact h
  obtain ⟨b0, b1⟩ := hX.cells
  have HR : Hid (w.heap.size ≤ R) := by show _ ≤ _; rw [← hR]; exact ba.size
  have HS : Hid (Below w.heap.size w wb ∧ CtB wb R ⟨false, false, 0, 0⟩) := ⟨hbb, y1⟩
  clear ba bb hX y1 hbb hAb hA hz hd hqz
  go_enter Tryd.func75, Tryd.ntmps75
  go_wp2_with fail
  refine c1.mono ?_
  rintro e w1 ⟨rfl, hb1⟩
  clear c1 b0 b1
  go_wp2_with fail
  refine (CQ.out _).mono ?_
  rintro e w2 ⟨rfl, hb2⟩
  have H2 : Hid (CtB w2 R ⟨false, false, 0, 0⟩ ∧ Below w.heap.size w w2) := by
    have b : Below wb.heap.size wb w2 := hb1.trans (hb2.mono hb1.size)
    exact ⟨HS.out.2.on b, HS.out.1.trans (b.mono HS.out.1.size)⟩
  clear hb1 hb2 CQ HS
  have z0 := H2.out.1.thaw 0
  have z1 := H2.out.1.thaw 1
  have z2 := H2.out.1.thaw 2
  have z3 := H2.out.1.thaw 3
  obtain ⟨r0, r1, r2, r3⟩ := H2.out.1.cells
  clear hwa hwb hR
  go_wp2_with fail
  have HX : Hid (CtB ((((w2.setCell ⟨R, 0, none⟩ (.bool d.ns)).setCell ⟨R, 1, none⟩ (.bool d.nc)).setCell ⟨R, 2, none⟩ (.int .i64 d.ma)).setCell ⟨R, 3, none⟩ (.int .i64 d.sh)) R d ∧ Below w.heap.size w ((((w2.setCell ⟨R, 0, none⟩ (.bool d.ns)).setCell ⟨R, 1, none⟩ (.bool d.nc)).setCell ⟨R, 2, none⟩ (.int .i64 d.ma)).setCell ⟨R, 3, none⟩ (.int .i64 d.sh))) :=
    ⟨H2.out.1.put d, put_below H2.out.2 HR.out d⟩
  generalize (((w2.setCell ⟨R, 0, none⟩ (.bool d.ns)).setCell ⟨R, 1, none⟩ (.bool d.nc)).setCell ⟨R, 2, none⟩ (.int .i64 d.ma)).setCell ⟨R, 3, none⟩ (.int .i64 d.sh) = w9 at HX ⊢
  obtain ⟨q0, q1, q2, q3⟩ := HX.out.1.cells
  exact bodyPost_ret (v := .agg #[.bool d.ns, .bool d.nc, .int .i64 d.ma, .int .i64 d.sh]) (by simp [results, Tryd.results75, go_sem, q0, q1, q2, q3]) rfl ⟨rfl, HX.out.2⟩
set_option maxRecDepth 100000 in
set_option maxHeartbeats 8000000 in
theorem implStorable_any (w : World) (a a2 : Option Addr) (c c2 : Nat) (rl sl : ByteArray) (rL sL : List (ByteArray × ByteArray)) (hA : DAt w a rL w.heap.size) (hA2 : DAt w a2 sL w.heap.size) (hz : HdSz rl rL) (hz2 : HdSz sl sL) :
    Calls Tryd.prog 37 #[.agg #[.string rl, .slice a rL.length c], .agg #[.string sl, .slice a2 sL.length c2]] w fun e w' => e = .returned (.bool (storS rl rL sl sL)) ∧ Below w.heap.size w w' := by
  obtain ⟨wb, hwb⟩ : ∃ wb, (w.alloc (.cells #[.string rl, .slice a rL.length c] 27)).alloc (.cells #[.string sl, .slice a2 sL.length c2] 27) = wb := ⟨_, rfl⟩
  have hb : Below w.heap.size w wb := by rw [← hwb]; exact ((Below.refl _ _).alloc (Nat.le_refl _) _).alloc (by simp) _
  have hX : KBy wb w.heap.size (.string rl) (.slice a rL.length c) := by
    have h1 : KBy (w.alloc (.cells #[.string rl, .slice a rL.length c] 27)) w.heap.size (.string rl) (.slice a rL.length c) := heap_alloc_new w _
    refine h1.on ?_
    rw [← hwb]; exact (Below.refl _ _).alloc (Nat.le_refl _) _
  have hY : KBy wb (w.heap.size + 1) (.string sl) (.slice a2 sL.length c2) := by
    have h1 := heap_alloc_new (w.alloc (.cells #[.string rl, .slice a rL.length c] 27)) (.cells #[.string sl, .slice a2 sL.length c2] 27)
    rw [hwb] at h1
    have e : (w.alloc (.cells #[.string rl, .slice a rL.length c] 27)).heap.size = w.heap.size + 1 := by simp
    rw [e] at h1
    exact h1
  have HF : Hid (∀ wi, Below wb.heap.size wb wi → KBy wi w.heap.size (.string rl) (.slice a rL.length c) ∧ KBy wi (w.heap.size + 1) (.string sl) (.slice a2 sL.length c2) ∧ DAt wi a rL wi.heap.size ∧ DAt wi a2 sL wi.heap.size) :=
    fun wi hi => ⟨hX.on hi, hY.on hi, (hA.on hb).on hi, (hA2.on hb).on hi⟩
  have HB : Hid (Below w.heap.size w wb) := hb
  have HZ : Hid (HdSz rl rL ∧ HdSz sl sL) := ⟨hz, hz2⟩
  obtain ⟨R, hR⟩ : ∃ R, storS rl rL sl sL = R := ⟨_, rfl⟩
  rw [hR]
  unfold storS at hR
  rw [storP_short (fun h => statusS_wrong h)] at hR
  obtain ⟨b0, b1⟩ := hX.cells
  obtain ⟨b2, b3⟩ := hY.cells
  have C1 : Hid (∀ wi, Below wb.heap.size wb wi → Calls Tryd.prog 73 #[.agg #[.string rl, .slice a rL.length c]] wi fun e w' => e = .returned (.tuple #[.string (targetS rl).1, .bool (targetS rl).2]) ∧ Below wi.heap.size wi w') := fun wi hi => implTargetOf_any wi a c rl rL (HF.out wi hi).2.2.1 HZ.out.1
  have C2 : Hid (∀ wi, Below wb.heap.size wb wi → Calls Tryd.prog 74 #[.agg #[.string sl, .slice a2 sL.length c2]] wi fun e w' => e = .returned (.tuple #[.int .i64 (statusS sl).1, .bool (statusS sl).2]) ∧ Below wi.heap.size wi w') := fun wi hi => implStatusOf_any wi a2 c2 sl sL (HF.out wi hi).2.2.2 HZ.out.2
  have C5 : Hid (∀ wi, Below wb.heap.size wb wi → Calls Tryd.prog 17 #[.agg #[.string rl, .slice a rL.length c], .string auN] wi fun e w' => e = .returned (.tuple #[.string (fieldOfS rL auN).1, .bool (fieldOfS rL auN).2]) ∧ Below wi.heap.size wi w') := fun wi hi => implFieldOf_any wi a c rl rL auN (HF.out wi hi).2.2.1 HZ.out.1 (by decide)
  obtain ⟨cq, hcq⟩ : ∃ x, controlS (fieldOfS rL ccN).1.data.toList = x := ⟨_, rfl⟩
  obtain ⟨ct, hct⟩ : ∃ x, controlS (fieldOfS sL ccN).1.data.toList = x := ⟨_, rfl⟩
  rw [hcq, hct] at hR
  have CQ : Hid (∀ wi, Below wb.heap.size wb wi → Calls Tryd.prog 75 #[.agg #[.string rl, .slice a rL.length c]] wi fun e w' => e = .returned (.agg #[.bool cq.ns, .bool cq.nc, .int .i64 cq.ma, .int .i64 cq.sh]) ∧ Below wi.heap.size wi w') := fun wi hi => implControlIn_any wi a c rl rL (HF.out wi hi).2.2.1 HZ.out.1 cq hcq
  have CT : Hid (∀ wi, Below wb.heap.size wb wi → Calls Tryd.prog 75 #[.agg #[.string sl, .slice a2 sL.length c2]] wi fun e w' => e = .returned (.agg #[.bool ct.ns, .bool ct.nc, .int .i64 ct.ma, .int .i64 ct.sh]) ∧ Below wi.heap.size wi w') := fun wi hi => implControlIn_any wi a2 c2 sl sL (HF.out wi hi).2.2.2 HZ.out.2 ct hct
  generalize (targetS rl).1 = t1 at C1
  generalize (targetS rl).2 = ok at C1 hR
  generalize (statusS sl).1 = n at C2 hR
  generalize (statusS sl).2 = right at C2
  generalize (fieldOfS rL auN).1 = sa at C5
  generalize (fieldOfS rL auN).2 = sb at C5 hR
  have HR : Hid ((ok && !sb && !cq.ns && decide (n = 200) && decide (0 < lifeC ct)) = R) := hR
  have HW : Hid (Below wb.heap.size wb wb) := Below.refl _ _
  have HC : Hid (∀ wi, Below wb.heap.size wb wi → (wi.cell? ⟨w.heap.size, 0, none⟩ = some (.string rl) ∧ wi.cell? ⟨w.heap.size, 1, none⟩ = some (.slice a rL.length c)) ∧ (wi.cell? ⟨w.heap.size + 1, 0, none⟩ = some (.string sl) ∧ wi.cell? ⟨w.heap.size + 1, 1, none⟩ = some (.slice a2 sL.length c2))) := fun wi hi => ⟨(HF.out wi hi).1.cells, (HF.out wi hi).2.1.cells⟩
  clear hb hX hY hA hA2 hz hz2 hR HF HZ hcq hct
  go_enter Tryd.func37, Tryd.ntmps37
  go_wp2_with fail
  refine (C1.out _ HW.out).mono ?_
  rintro e w1 ⟨rfl, hb1⟩
  have HW : Hid (Below wb.heap.size wb w1) := HW.out.trans (hb1.mono HW.out.size)
  obtain ⟨⟨b0, b1⟩, b2, b3⟩ := HC.out w1 HW.out
  clear hb1 C1
  go_wp2_with fail
  refine (C5.out _ HW.out).mono ?_
  rintro e w2 ⟨rfl, hb2⟩
  have HW : Hid (Below wb.heap.size wb w2) := HW.out.trans (hb2.mono HW.out.size)
  obtain ⟨⟨b0, b1⟩, b2, b3⟩ := HC.out w2 HW.out
  clear hb2 C5
  go_wp2_with fail
  refine (C2.out _ HW.out).mono ?_
  rintro e w3 ⟨rfl, hb3⟩
  have HW : Hid (Below wb.heap.size wb w3) := HW.out.trans (hb3.mono HW.out.size)
  obtain ⟨⟨b0, b1⟩, b2, b3⟩ := HC.out w3 HW.out
  clear hb3 C2
  cases ok with
  | false =>
    have HN : Hid (R = false) := by show _ = _; rw [← HR.out]; rfl
    go_wp2_with fail
    go_ret
    exact ⟨by rw [HN.out]; rfl, HB.out.trans (HW.out.mono HB.out.size)⟩
  | true =>
  cases sb with
  | true =>
    have HN : Hid (R = false) := by show _ = _; rw [← HR.out]; rfl
    go_wp2_with fail
    go_ret
    exact ⟨by rw [HN.out]; rfl, HB.out.trans (HW.out.mono HB.out.size)⟩
  | false =>
  go_wp2_with fail
  refine (CQ.out _ HW.out).mono ?_
  rintro e w6 ⟨rfl, hb⟩
  have HW : Hid (Below wb.heap.size wb w6) := HW.out.trans (hb.mono HW.out.size)
  obtain ⟨⟨b0, b1⟩, b2, b3⟩ := HC.out w6 HW.out
  clear hb CQ
  have fq : ∀ (b : Bool) (wi : World), (Instr.field 47 (.agg #[.bool b, .bool cq.nc, .int .i64 cq.ma, .int .i64 cq.sh]) 0).run Tryd.prog wi = .ok (.bool b) wi := fun _ _ => by kernel_rfl
  cases hq : cq.ns with
  | true =>
    have HN : Hid (R = false) := by show _ = _; rw [← HR.out, hq]; rfl
    clear hq
    go_wp2_with fail
    go_ret
    exact ⟨by rw [HN.out]; rfl, HB.out.trans (HW.out.mono HB.out.size)⟩
  | false =>
  have HQ : Hid (cq.ns = false) := hq
  clear hq
  by_cases hn : n = 200
  case neg =>
    have hni : (n == 200) = false := by simpa using hn
    have HN : Hid (R = false) := by show _ = _; rw [← HR.out, decide_eq_false hn]; simp
    go_wp2_with fail
    go_ret
    exact ⟨by rw [HN.out]; rfl, HB.out.trans (HW.out.mono HB.out.size)⟩
  have hni : (n == 200) = true := by simpa using hn
  have HD : Hid (decide (n = 200) = true) := decide_eq_true hn
  clear hn
  go_wp2_with fail
  refine (CT.out _ HW.out).mono ?_
  rintro e w7 ⟨rfl, hb⟩
  have HW : Hid (Below wb.heap.size wb w7) := HW.out.trans (hb.mono HW.out.size)
  clear hb fq b0 b1 b2 b3
  go_wp2_with fail
  refine (implLifetime_any _ ct).mono ?_
  rintro e w9 ⟨rfl, hb⟩
  have HW : Hid (Below wb.heap.size wb w9) := HW.out.trans (hb.mono HW.out.size)
  have HN : Hid (R = decide (0 < lifeC ct)) := by show _ = _; rw [← HR.out, HD.out, HQ.out]; rfl
  clear hb
  generalize lifeC ct = m at HN ⊢
  go_wp2_with fail
  go_ret
  exact ⟨by rw [HN.out]; rfl, HB.out.trans (HW.out.mono HB.out.size)⟩
end Go.Proofs.YtnnaphfeeobeladDoor
