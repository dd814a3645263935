/- The program takes a part into what is told. -/
import Derived.Test.YtnnaphfeeobeladDoorKindImpl
namespace Go.Proofs.YtnnaphfeeobeladDoor
open Go.RowKit Go.Sort
theorem CtB.other {w : World} {T B : Nat} {c : Ct} (h : CtB w B c) (hne : B ≠ T) (i : Nat) (u : Value) : CtB (w.setCell ⟨T, i, none⟩ u) B c := (Below.heap_setCell _ _ _ _ (fun e => hne (by simpa using e))).trans h
/-- A whole Control is written into its box. -/
theorem CtB.put {w : World} {T : Nat} {c : Ct} (h : CtB w T c) (d : Ct) : CtB ((((w.setCell ⟨T, 0, none⟩ (.bool d.ns)).setCell ⟨T, 1, none⟩ (.bool d.nc)).setCell ⟨T, 2, none⟩ (.int .i64 d.ma)).setCell ⟨T, 3, none⟩ (.int .i64 d.sh)) T d :=
  (((h.set0 d.ns).set1 d.nc).set2 d.ma).set3 d.sh
theorem put_below {B : Nat} {w w' : World} (h : Below B w w') {T : Nat} (hT : B ≤ T) (d : Ct) : Below B w ((((w'.setCell ⟨T, 0, none⟩ (.bool d.ns)).setCell ⟨T, 1, none⟩ (.bool d.nc)).setCell ⟨T, 2, none⟩ (.int .i64 d.ma)).setCell ⟨T, 3, none⟩ (.int .i64 d.sh)) :=
  (((h.setCell hT _).setCell hT _).setCell hT _).setCell hT _
set_option maxRecDepth 100000 in
set_option maxHeartbeats 8000000 in
theorem implPart_any (w : World) (c : Ct) (s : ByteArray) (hs : s.size ≤ 1048576) :
    Calls Tryd.prog 66 #[.agg #[.bool c.ns, .bool c.nc, .int .i64 c.ma, .int .i64 c.sh], .string s] w fun e w' => e = .returned (.agg #[.bool (partC c s.data.toList).ns, .bool (partC c s.data.toList).nc, .int .i64 (partC c s.data.toList).ma, .int .i64 (partC c s.data.toList).sh]) ∧ Below w.heap.size w w' := by
  obtain ⟨wa, hwa⟩ : ∃ wa, w.alloc (.cells #[.bool c.ns, .bool c.nc, .int .i64 c.ma, .int .i64 c.sh] 47) = wa := ⟨_, rfl⟩
  obtain ⟨wb, hwb⟩ : ∃ wb, wa.alloc (.cells #[.bool false, .bool false, .int .i64 0, .int .i64 0] 47) = wb := ⟨_, rfl⟩
  obtain ⟨T, hT⟩ : ∃ T, w.heap.size = T := ⟨_, rfl⟩
  obtain ⟨R, hR⟩ : ∃ R, wa.heap.size = R := ⟨_, rfl⟩
  have ba : Below w.heap.size w wa := by rw [← hwa]; exact (Below.refl _ _).alloc (Nat.le_refl _) _
  have bb : Below wa.heap.size wa wb := by rw [← hwb]; exact (Below.refl _ _).alloc (Nat.le_refl _) _
  have hTR : T < R := by rw [← hT, ← hR, ← hwa]; simp
  have x1 : CtB wb T c := by
    have h : CtB wa T c := by rw [← hwa, ← hT]; exact heap_alloc_new w _
    exact h.on bb
  have y1 : CtB wb R ⟨false, false, 0, 0⟩ := by rw [← hwb, ← hR]; exact heap_alloc_new wa _
  have hTz : (trimT s).size ≤ 1048576 := Nat.le_trans (trimT_le s) hs
  have CT : Hid (∀ wi, Calls Tryd.prog 59 #[.string s] wi fun e w' => e = .returned (.string (trimT s)) ∧ Below wi.heap.size wi w') := fun wi => implBlanks_any s wi (by omega)
  have CL : Hid (∀ wi, Calls Tryd.prog 94 #[.string (trimT s)] wi fun e w' => e = .returned (.string ⟨(lowL (trimT s).data.toList).toArray⟩) ∧ Below wi.heap.size wi w') := fun wi => implLow_any (trimT s) wi hTz
  have CK : Hid (∀ wi, Calls Tryd.prog 93 #[.string ⟨(lowL (trimT s).data.toList).toArray⟩] wi fun e w' => e = .returned (.tuple #[.int .i64 (kindC (partW s.data.toList)).1, .int .i64 ((kindC (partW s.data.toList)).2 : Nat)]) ∧ Below wi.heap.size wi w') := fun wi => implKindOf_any _ wi
  have HP : Hid (tellC c (kindC (partW s.data.toList)) = partC c s.data.toList) := tell_part c s.data.toList
  have hrg := kindC_range (partW s.data.toList)
  generalize (⟨(lowL (trimT s).data.toList).toArray⟩ : ByteArray) = W at CL CK
  generalize trimT s = ts at CT CL
  generalize partC c s.data.toList = d at HP ⊢
  generalize kindC (partW s.data.toList) = kn at CK HP hrg
  obtain ⟨k, n⟩ := kn
  dsimp only at CK hrg
  have HS : Hid (Below T w wb ∧ CtB wb T c ∧ CtB wb R ⟨false, false, 0, 0⟩ ∧ T < R ∧ T < wb.heap.size ∧ R < wb.heap.size) := ⟨by rw [← hT]; exact ba.trans (bb.mono ba.size), x1, y1, hTR, x1.lt, y1.lt⟩
  have HT0 : Hid (w.heap.size = T) := hT
  clear ba bb hTR x1 y1 hTz hs
  go_enter Tryd.func66, Tryd.ntmps66
  go_wp2_with fail
  clear hwa hwb hT hR
  refine (CT.out _).mono ?_
  rintro e w1 ⟨rfl, hb1⟩
  clear CT
  go_wp2_with fail
  refine (CL.out _).mono ?_
  rintro e w2 ⟨rfl, hb2⟩
  clear CL
  go_wp2_with fail
  refine (CK.out _).mono ?_
  rintro e w3 ⟨rfl, hb3⟩
  clear CK
  have H3 : Hid (Below T w w3 ∧ CtB w3 T c ∧ CtB w3 R ⟨false, false, 0, 0⟩ ∧ T < R) := by
    obtain ⟨a1, a2, a3, a4, a5, a6⟩ := HS.out
    have b : Below wb.heap.size wb w3 := hb1.trans ((hb2.trans (hb3.mono hb2.size)).mono hb1.size)
    exact ⟨a1.trans (b.mono (by omega)), a2.on b, a3.on b, a4⟩
  clear hb1 hb2 hb3 HS
  obtain ⟨t0, t1, t2, t3⟩ := H3.out.2.1.cells
  have z0 := H3.out.2.1.thaw 0
  have z1 := H3.out.2.1.thaw 1
  have z2 := H3.out.2.1.thaw 2
  have z3 := H3.out.2.1.thaw 3
  have y0 := H3.out.2.2.1.thaw 0
  have y1 := H3.out.2.2.1.thaw 1
  have y2 := H3.out.2.2.1.thaw 2
  have y3 := H3.out.2.2.1.thaw 3
  obtain ⟨r0, r1, r2, r3⟩ := H3.out.2.2.1.cells
  have n1 : ¬ T = R := by have := H3.out.2.2.2; omega
  have n2 : ¬ R = T := by have := H3.out.2.2.2; omega
  -- WAYS
  rcases hrg with hk | hk | hk | hk | hk
  · subst hk
    have HD : Hid (d = c) := by show _ = _; rw [← HP.out]; rfl
    clear HP
    go_wp2_with fail
    have HX : Hid (CtB ((((w3.setCell ⟨R, 0, none⟩ (.bool c.ns)).setCell ⟨R, 1, none⟩ (.bool c.nc)).setCell ⟨R, 2, none⟩ (.int .i64 c.ma)).setCell ⟨R, 3, none⟩ (.int .i64 c.sh)) R c ∧ Below T w ((((w3.setCell ⟨R, 0, none⟩ (.bool c.ns)).setCell ⟨R, 1, none⟩ (.bool c.nc)).setCell ⟨R, 2, none⟩ (.int .i64 c.ma)).setCell ⟨R, 3, none⟩ (.int .i64 c.sh))) :=
      ⟨H3.out.2.2.1.put c, put_below H3.out.1 (Nat.le_of_lt H3.out.2.2.2) c⟩
    generalize ((((w3.setCell ⟨R, 0, none⟩ (.bool c.ns)).setCell ⟨R, 1, none⟩ (.bool c.nc)).setCell ⟨R, 2, none⟩ (.int .i64 c.ma)).setCell ⟨R, 3, none⟩ (.int .i64 c.sh)) = w9 at HX ⊢
    obtain ⟨q0, q1, q2, q3⟩ := HX.out.1.cells
    refine bodyPost_ret (v := .agg #[.bool c.ns, .bool c.nc, .int .i64 c.ma, .int .i64 c.sh]) (by simp [results, Tryd.results66, go_sem, q0, q1, q2, q3]) rfl ⟨?_, ?_⟩
    · rw [HD.out]
    · rw [HT0.out]; exact HX.out.2
  · subst hk
    have HD : Hid (d = { c with ns := true }) := by show _ = _; rw [← HP.out]; rfl
    clear HP
    go_wp2_with fail
    have HX : Hid (CtB (((((w3.setCell ⟨T, 0, none⟩ (.bool true)).setCell ⟨R, 0, none⟩ (.bool true)).setCell ⟨R, 1, none⟩ (.bool c.nc)).setCell ⟨R, 2, none⟩ (.int .i64 c.ma)).setCell ⟨R, 3, none⟩ (.int .i64 c.sh)) R { c with ns := true } ∧ Below T w (((((w3.setCell ⟨T, 0, none⟩ (.bool true)).setCell ⟨R, 0, none⟩ (.bool true)).setCell ⟨R, 1, none⟩ (.bool c.nc)).setCell ⟨R, 2, none⟩ (.int .i64 c.ma)).setCell ⟨R, 3, none⟩ (.int .i64 c.sh))) :=
      ⟨(H3.out.2.2.1.other n2 0 _).put { c with ns := true }, put_below (H3.out.1.setCell (p := ⟨T, 0, none⟩) (Nat.le_refl _) _) (Nat.le_of_lt H3.out.2.2.2) { c with ns := true }⟩
    generalize (((((w3.setCell ⟨T, 0, none⟩ (.bool true)).setCell ⟨R, 0, none⟩ (.bool true)).setCell ⟨R, 1, none⟩ (.bool c.nc)).setCell ⟨R, 2, none⟩ (.int .i64 c.ma)).setCell ⟨R, 3, none⟩ (.int .i64 c.sh)) = w9 at HX ⊢
    obtain ⟨q0, q1, q2, q3⟩ := HX.out.1.cells
    refine bodyPost_ret (v := .agg #[.bool true, .bool c.nc, .int .i64 c.ma, .int .i64 c.sh]) (by simp [results, Tryd.results66, go_sem, q0, q1, q2, q3]) rfl ⟨?_, ?_⟩
    · rw [HD.out]
    · rw [HT0.out]; exact HX.out.2
  · subst hk
    have HD : Hid (d = { c with nc := true }) := by show _ = _; rw [← HP.out]; rfl
    clear HP
    go_wp2_with fail
    have HX : Hid (CtB (((((w3.setCell ⟨T, 1, none⟩ (.bool true)).setCell ⟨R, 0, none⟩ (.bool c.ns)).setCell ⟨R, 1, none⟩ (.bool true)).setCell ⟨R, 2, none⟩ (.int .i64 c.ma)).setCell ⟨R, 3, none⟩ (.int .i64 c.sh)) R { c with nc := true } ∧ Below T w (((((w3.setCell ⟨T, 1, none⟩ (.bool true)).setCell ⟨R, 0, none⟩ (.bool c.ns)).setCell ⟨R, 1, none⟩ (.bool true)).setCell ⟨R, 2, none⟩ (.int .i64 c.ma)).setCell ⟨R, 3, none⟩ (.int .i64 c.sh))) :=
      ⟨(H3.out.2.2.1.other n2 1 _).put { c with nc := true }, put_below (H3.out.1.setCell (p := ⟨T, 1, none⟩) (Nat.le_refl _) _) (Nat.le_of_lt H3.out.2.2.2) { c with nc := true }⟩
    generalize (((((w3.setCell ⟨T, 1, none⟩ (.bool true)).setCell ⟨R, 0, none⟩ (.bool c.ns)).setCell ⟨R, 1, none⟩ (.bool true)).setCell ⟨R, 2, none⟩ (.int .i64 c.ma)).setCell ⟨R, 3, none⟩ (.int .i64 c.sh)) = w9 at HX ⊢
    obtain ⟨q0, q1, q2, q3⟩ := HX.out.1.cells
    refine bodyPost_ret (v := .agg #[.bool c.ns, .bool true, .int .i64 c.ma, .int .i64 c.sh]) (by simp [results, Tryd.results66, go_sem, q0, q1, q2, q3]) rfl ⟨?_, ?_⟩
    · rw [HD.out]
    · rw [HT0.out]; exact HX.out.2
  · subst hk
    have HD : Hid (d = { c with ma := (n : Int) }) := by show _ = _; rw [← HP.out]; rfl
    clear HP
    go_wp2_with fail
    have HX : Hid (CtB (((((w3.setCell ⟨T, 2, none⟩ (.int .i64 (n : Int))).setCell ⟨R, 0, none⟩ (.bool c.ns)).setCell ⟨R, 1, none⟩ (.bool c.nc)).setCell ⟨R, 2, none⟩ (.int .i64 (n : Int))).setCell ⟨R, 3, none⟩ (.int .i64 c.sh)) R { c with ma := (n : Int) } ∧ Below T w (((((w3.setCell ⟨T, 2, none⟩ (.int .i64 (n : Int))).setCell ⟨R, 0, none⟩ (.bool c.ns)).setCell ⟨R, 1, none⟩ (.bool c.nc)).setCell ⟨R, 2, none⟩ (.int .i64 (n : Int))).setCell ⟨R, 3, none⟩ (.int .i64 c.sh))) :=
      ⟨(H3.out.2.2.1.other n2 2 _).put { c with ma := (n : Int) }, put_below (H3.out.1.setCell (p := ⟨T, 2, none⟩) (Nat.le_refl _) _) (Nat.le_of_lt H3.out.2.2.2) { c with ma := (n : Int) }⟩
    generalize (((((w3.setCell ⟨T, 2, none⟩ (.int .i64 (n : Int))).setCell ⟨R, 0, none⟩ (.bool c.ns)).setCell ⟨R, 1, none⟩ (.bool c.nc)).setCell ⟨R, 2, none⟩ (.int .i64 (n : Int))).setCell ⟨R, 3, none⟩ (.int .i64 c.sh)) = w9 at HX ⊢
    obtain ⟨q0, q1, q2, q3⟩ := HX.out.1.cells
    refine bodyPost_ret (v := .agg #[.bool c.ns, .bool c.nc, .int .i64 (n : Int), .int .i64 c.sh]) (by simp [results, Tryd.results66, go_sem, q0, q1, q2, q3]) rfl ⟨?_, ?_⟩
    · rw [HD.out]
    · rw [HT0.out]; exact HX.out.2
  · subst hk
    have HD : Hid (d = { c with sh := (n : Int) }) := by show _ = _; rw [← HP.out]; rfl
    clear HP
    go_wp2_with fail
    have HX : Hid (CtB (((((w3.setCell ⟨T, 3, none⟩ (.int .i64 (n : Int))).setCell ⟨R, 0, none⟩ (.bool c.ns)).setCell ⟨R, 1, none⟩ (.bool c.nc)).setCell ⟨R, 2, none⟩ (.int .i64 c.ma)).setCell ⟨R, 3, none⟩ (.int .i64 (n : Int))) R { c with sh := (n : Int) } ∧ Below T w (((((w3.setCell ⟨T, 3, none⟩ (.int .i64 (n : Int))).setCell ⟨R, 0, none⟩ (.bool c.ns)).setCell ⟨R, 1, none⟩ (.bool c.nc)).setCell ⟨R, 2, none⟩ (.int .i64 c.ma)).setCell ⟨R, 3, none⟩ (.int .i64 (n : Int)))) :=
      ⟨(H3.out.2.2.1.other n2 3 _).put { c with sh := (n : Int) }, put_below (H3.out.1.setCell (p := ⟨T, 3, none⟩) (Nat.le_refl _) _) (Nat.le_of_lt H3.out.2.2.2) { c with sh := (n : Int) }⟩
    generalize (((((w3.setCell ⟨T, 3, none⟩ (.int .i64 (n : Int))).setCell ⟨R, 0, none⟩ (.bool c.ns)).setCell ⟨R, 1, none⟩ (.bool c.nc)).setCell ⟨R, 2, none⟩ (.int .i64 c.ma)).setCell ⟨R, 3, none⟩ (.int .i64 (n : Int))) = w9 at HX ⊢
    obtain ⟨q0, q1, q2, q3⟩ := HX.out.1.cells
    refine bodyPost_ret (v := .agg #[.bool c.ns, .bool c.nc, .int .i64 c.ma, .int .i64 (n : Int)]) (by simp [results, Tryd.results66, go_sem, q0, q1, q2, q3]) rfl ⟨?_, ?_⟩
    · rw [HD.out]
    · rw [HT0.out]; exact HX.out.2
end Go.Proofs.YtnnaphfeeobeladDoor
