/- What may be kept: the other text. -/
import Derived.Test.YtnnaphfeeobeladDoorControlOfSpec
import Derived.Test.YtnnaphfeeobeladDoorLifeSpec
import Derived.Test.YtnnaphfeeobeladDoorTargetSpec
import Derived.Test.YtnnaphfeeobeladDoorStatusSpec
import Derived.Test.YtnnaphfeeobeladDoorStorablePlain
namespace Go.Proofs.YtnnaphfeeobeladDoor
open Go.RowKit Go.Sort
set_option maxRecDepth 100000 in
set_option maxHeartbeats 8000000 in
theorem specStorable_any (w : World) (a a2 : Option Addr) (c c2 : Nat) (rl sl : ByteArray) (rL sL : List (ByteArray × ByteArray)) (hA : DAt w a rL w.heap.size) (hA2 : DAt w a2 sL w.heap.size) (hz : HdSz rl rL) (hz2 : HdSz sl sL) :
    Calls Tryd.prog 38 #[.agg #[.string rl, .slice a rL.length c], .agg #[.string sl, .slice a2 sL.length c2]] w fun e w' => e = .returned (.bool (storS rl rL sl sL)) ∧ Below w.heap.size w w' := by
  obtain ⟨wb, hwb⟩ : ∃ wb, (w.alloc (.cells #[.string rl, .slice a rL.length c] 27)).alloc (.cells #[.string sl, .slice a2 sL.length c2] 27) = wb := ⟨_, rfl⟩
  have hb : Below w.heap.size w wb := by rw [← hwb]; exact ((Below.refl _ _).alloc (Nat.le_refl _) _).alloc (by simp) _
  have hX : KBy wb w.heap.size (.string rl) (.slice a rL.length c) := by
    have h1 : KBy (w.alloc (.cells #[.string rl, .slice a rL.length c] 27)) w.heap.size (.string rl) (.slice a rL.length c) := heap_alloc_new w _
    refine h1.on ?_
    rw [← hwb]; exact (Below.refl _ _).alloc (Nat.le_refl _) _
  have hY : KBy wb (w.heap.size + 1) (.string sl) (.slice a2 sL.length c2) := by
    have h1 := heap_alloc_new (w.alloc (.cells #[.string rl, .slice a rL.length c] 27)) (.cells #[.string sl, .slice a2 sL.length c2] 27)
    rw [hwb] at h1
    have e : (w.alloc (.cells #[.string rl, .slice a rL.length c] 27)).heap.size = w.heap.size + 1 := by simp
    rw [e] at h1
    exact h1
  have HF : Hid (∀ wi, Below wb.heap.size wb wi → KBy wi w.heap.size (.string rl) (.slice a rL.length c) ∧ KBy wi (w.heap.size + 1) (.string sl) (.slice a2 sL.length c2) ∧ DAt wi a rL wi.heap.size ∧ DAt wi a2 sL wi.heap.size) :=
    fun wi hi => ⟨hX.on hi, hY.on hi, (hA.on hb).on hi, (hA2.on hb).on hi⟩
  have HB : Hid (Below w.heap.size w wb) := hb
  have HZ : Hid (HdSz rl rL ∧ HdSz sl sL) := ⟨hz, hz2⟩
  have hqz : (fieldOfS rL ccN).1.size ≤ 1048576 := fieldOfS_size ccN hz
  have htz : (fieldOfS sL ccN).1.size ≤ 1048576 := fieldOfS_size ccN hz2
  obtain ⟨R, hR⟩ : ∃ R, storS rl rL sl sL = R := ⟨_, rfl⟩
  rw [hR]
  unfold storS at hR
  obtain ⟨b0, b1⟩ := hX.cells
  obtain ⟨b2, b3⟩ := hY.cells
  have C1 : Hid (∀ wi, Below wb.heap.size wb wi → Calls Tryd.prog 76 #[.agg #[.string rl, .slice a rL.length c]] wi fun e w' => e = .returned (.tuple #[.string (targetS rl).1, .bool (targetS rl).2]) ∧ Below wi.heap.size wi w') := fun wi hi => specTargetOf_any wi a c rl rL (HF.out wi hi).2.2.1 HZ.out.1
  have C2 : Hid (∀ wi, Below wb.heap.size wb wi → Calls Tryd.prog 77 #[.agg #[.string sl, .slice a2 sL.length c2]] wi fun e w' => e = .returned (.tuple #[.int .i64 (statusS sl).1, .bool (statusS sl).2]) ∧ Below wi.heap.size wi w') := fun wi hi => specStatusOf_any wi a2 c2 sl sL (HF.out wi hi).2.2.2 HZ.out.2
  have C3 : Hid (∀ wi, Below wb.heap.size wb wi → Calls Tryd.prog 18 #[.agg #[.string rl, .slice a rL.length c], .string ccN] wi fun e w' => e = .returned (.tuple #[.string (fieldOfS rL ccN).1, .bool (fieldOfS rL ccN).2]) ∧ Below wi.heap.size wi w') := fun wi hi => specFieldOf_any wi a c rl rL ccN (HF.out wi hi).2.2.1 HZ.out.1 (by decide)
  have C4 : Hid (∀ wi, Below wb.heap.size wb wi → Calls Tryd.prog 18 #[.agg #[.string sl, .slice a2 sL.length c2], .string ccN] wi fun e w' => e = .returned (.tuple #[.string (fieldOfS sL ccN).1, .bool (fieldOfS sL ccN).2]) ∧ Below wi.heap.size wi w') := fun wi hi => specFieldOf_any wi a2 c2 sl sL ccN (HF.out wi hi).2.2.2 HZ.out.2 (by decide)
  have C5 : Hid (∀ wi, Below wb.heap.size wb wi → Calls Tryd.prog 18 #[.agg #[.string rl, .slice a rL.length c], .string auN] wi fun e w' => e = .returned (.tuple #[.string (fieldOfS rL auN).1, .bool (fieldOfS rL auN).2]) ∧ Below wi.heap.size wi w') := fun wi hi => specFieldOf_any wi a c rl rL auN (HF.out wi hi).2.2.1 HZ.out.1 (by decide)
  generalize (targetS rl).1 = t1 at C1
  generalize (targetS rl).2 = ok at C1 hR
  generalize (statusS sl).1 = n at C2 hR
  generalize (statusS sl).2 = right at C2 hR
  generalize (fieldOfS rL ccN).1 = qa at C3 hR hqz
  generalize (fieldOfS rL ccN).2 = qb at C3
  generalize (fieldOfS sL ccN).1 = ta at C4 hR htz
  generalize (fieldOfS sL ccN).2 = tb at C4
  generalize (fieldOfS rL auN).1 = sa at C5
  generalize (fieldOfS rL auN).2 = sb at C5 hR
  have CQ : Hid (∀ wi, Calls Tryd.prog 32 #[.string qa] wi fun e w' => e = .returned (.agg #[.bool (controlS qa.data.toList).ns, .bool (controlS qa.data.toList).nc, .int .i64 (controlS qa.data.toList).ma, .int .i64 (controlS qa.data.toList).sh]) ∧ Below wi.heap.size wi w') := fun wi => specControlOf_any qa wi hqz
  have CT : Hid (∀ wi, Calls Tryd.prog 32 #[.string ta] wi fun e w' => e = .returned (.agg #[.bool (controlS ta.data.toList).ns, .bool (controlS ta.data.toList).nc, .int .i64 (controlS ta.data.toList).ma, .int .i64 (controlS ta.data.toList).sh]) ∧ Below wi.heap.size wi w') := fun wi => specControlOf_any ta wi htz
  generalize controlS qa.data.toList = cq at CQ hR
  generalize controlS ta.data.toList = ct at CT hR
  have HR : Hid (storP ok right n cq ct sb = R) := hR
  have HW : Hid (Below wb.heap.size wb wb) := Below.refl _ _
  have HC : Hid (∀ wi, Below wb.heap.size wb wi → (wi.cell? ⟨w.heap.size, 0, none⟩ = some (.string rl) ∧ wi.cell? ⟨w.heap.size, 1, none⟩ = some (.slice a rL.length c)) ∧ (wi.cell? ⟨w.heap.size + 1, 0, none⟩ = some (.string sl) ∧ wi.cell? ⟨w.heap.size + 1, 1, none⟩ = some (.slice a2 sL.length c2))) := fun wi hi => ⟨(HF.out wi hi).1.cells, (HF.out wi hi).2.1.cells⟩
  clear hb hX hY hA hA2 hz hz2 hR hqz htz HF HZ
  go_enter Tryd.func38, Tryd.ntmps38
  go_wp2_with fail
  refine (C1.out _ HW.out).mono ?_
  rintro e w1 ⟨rfl, hb1⟩
  have HW : Hid (Below wb.heap.size wb w1) := HW.out.trans (hb1.mono HW.out.size)
  obtain ⟨⟨b0, b1⟩, b2, b3⟩ := HC.out w1 HW.out
  clear hb1 C1
  go_wp2_with fail
  refine (C2.out _ HW.out).mono ?_
  rintro e w2 ⟨rfl, hb2⟩
  have HW : Hid (Below wb.heap.size wb w2) := HW.out.trans (hb2.mono HW.out.size)
  obtain ⟨⟨b0, b1⟩, b2, b3⟩ := HC.out w2 HW.out
  clear hb2 C2
  go_wp2_with fail
  refine (C3.out _ HW.out).mono ?_
  rintro e w3 ⟨rfl, hb3⟩
  have HW : Hid (Below wb.heap.size wb w3) := HW.out.trans (hb3.mono HW.out.size)
  obtain ⟨⟨b0, b1⟩, b2, b3⟩ := HC.out w3 HW.out
  clear hb3 C3
  go_wp2_with fail
  refine (C4.out _ HW.out).mono ?_
  rintro e w4 ⟨rfl, hb4⟩
  have HW : Hid (Below wb.heap.size wb w4) := HW.out.trans (hb4.mono HW.out.size)
  obtain ⟨⟨b0, b1⟩, b2, b3⟩ := HC.out w4 HW.out
  clear hb4 C4
  go_wp2_with fail
  refine (C5.out _ HW.out).mono ?_
  rintro e w5 ⟨rfl, hb5⟩
  have HW : Hid (Below wb.heap.size wb w5) := HW.out.trans (hb5.mono HW.out.size)
  obtain ⟨⟨b0, b1⟩, b2, b3⟩ := HC.out w5 HW.out
  clear hb5 C5
  clear b0 b1 b2 b3
  cases ok with
  | false =>
    have HN : Hid (R = false) := by show _ = _; rw [← HR.out]; rfl
    go_wp2_with fail
    go_ret
    exact ⟨by rw [HN.out]; rfl, HB.out.trans (HW.out.mono HB.out.size)⟩
  | true =>
  cases right with
  | false =>
    have HN : Hid (R = false) := by show _ = _; rw [← HR.out]; rfl
    go_wp2_with fail
    go_ret
    exact ⟨by rw [HN.out]; rfl, HB.out.trans (HW.out.mono HB.out.size)⟩
  | true =>
  by_cases hn : n = 200
  case neg =>
    have hni : (n == 200) = false := by simpa using hn
    have HN : Hid (R = false) := by show _ = _; rw [← HR.out]; unfold storP; rw [decide_eq_false hn]; rfl
    go_wp2_with fail
    go_ret
    exact ⟨by rw [HN.out]; rfl, HB.out.trans (HW.out.mono HB.out.size)⟩
  have hni : (n == 200) = true := by simpa using hn
  have HD : Hid (decide (n = 200) = true) := decide_eq_true hn
  clear hn
  go_wp2_with fail
  refine (CQ.out _).mono ?_
  rintro e w6 ⟨rfl, hb⟩
  have HW : Hid (Below wb.heap.size wb w6) := HW.out.trans (hb.mono HW.out.size)
  clear hb CQ
  have fq : ∀ (b : Bool) (wi : World), (Instr.field 47 (.agg #[.bool b, .bool cq.nc, .int .i64 cq.ma, .int .i64 cq.sh]) 0).run Tryd.prog wi = .ok (.bool b) wi := fun _ _ => by kernel_rfl
  cases hq : cq.ns with
  | true =>
    have HN : Hid (R = false) := by show _ = _; rw [← HR.out]; unfold storP; rw [HD.out, hq]; rfl
    clear hq
    go_wp2_with fail
    go_ret
    exact ⟨by rw [HN.out]; rfl, HB.out.trans (HW.out.mono HB.out.size)⟩
  | false =>
  have HQ : Hid (cq.ns = false) := hq
  clear hq
  go_wp2_with fail
  refine (CT.out _).mono ?_
  rintro e w7 ⟨rfl, hb⟩
  have HW : Hid (Below wb.heap.size wb w7) := HW.out.trans (hb.mono HW.out.size)
  clear hb fq
  have ft : ∀ (b : Bool) (wi : World), (Instr.field 47 (.agg #[.bool b, .bool ct.nc, .int .i64 ct.ma, .int .i64 ct.sh]) 0).run Tryd.prog wi = .ok (.bool b) wi := fun _ _ => by kernel_rfl
  cases ht : ct.ns with
  | true =>
    have HN : Hid (R = false) := by show _ = _; rw [← HR.out]; unfold storP; rw [HD.out, HQ.out, ht]; rfl
    clear ht
    go_wp2_with fail
    go_ret
    exact ⟨by rw [HN.out]; rfl, HB.out.trans (HW.out.mono HB.out.size)⟩
  | false =>
  have HT : Hid (ct.ns = false) := ht
  clear ht
  cases sb with
  | true =>
    have HN : Hid (R = false) := by show _ = _; rw [← HR.out]; unfold storP; rw [HD.out, HQ.out, HT.out]; rfl
    go_wp2_with fail
    go_ret
    exact ⟨by rw [HN.out]; rfl, HB.out.trans (HW.out.mono HB.out.size)⟩
  | false =>
  go_wp2_with fail
  refine (CT.out _).mono ?_
  rintro e w8 ⟨rfl, hb⟩
  have HW : Hid (Below wb.heap.size wb w8) := HW.out.trans (hb.mono HW.out.size)
  clear hb CT
  go_wp2_with fail
  refine (specLifetime_any _ ct).mono ?_
  rintro e w9 ⟨rfl, hb⟩
  have HW : Hid (Below wb.heap.size wb w9) := HW.out.trans (hb.mono HW.out.size)
  have HN : Hid (R = decide (0 < lifeC ct)) := by show _ = _; rw [← HR.out]; unfold storP; rw [HD.out, HQ.out, HT.out]; rfl
  clear hb
  generalize lifeC ct = m at HN ⊢
  go_wp2_with fail
  go_ret
  exact ⟨by rw [HN.out]; rfl, HB.out.trans (HW.out.mono HB.out.size)⟩
end Go.Proofs.YtnnaphfeeobeladDoor
