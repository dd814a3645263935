/- Texts that stand in one: FieldOkImpl, AddImpl. -/
import Derived.Test.YtnnaphfeeobelaeGreatDoorFieldImpl
import Derived.Test.YtnnaphfeeobelaeGreatDoorReaderKitJ
import Derived.Test.YtnnaphfeeobelaeGreatDoorCutColonJ
namespace Go.Proofs.YtnnaphfeeobelaeGreatDoor
open Go.RowKit Go.Sort
set_option maxRecDepth 100000 in
set_option maxHeartbeats 4000000 in
theorem implFieldOk_any (f : ByteArray × ByteArray) (w : World) (hs1 : f.1.size ≤ 1048576) (hs2 : f.2.size ≤ 1048576) :
    Calls Tryz.prog 68 #[.agg #[.string f.1, .string f.2]] w fun e w' => e = .returned (.bool (fieldOkS f)) ∧ Below w.heap.size w w' := by
  obtain ⟨n, v⟩ := f
  dsimp only at *
  obtain ⟨wx, hwx⟩ : ∃ x, w.alloc (.cells #[.string n, .string v] 29) = x := ⟨_, rfl⟩
  have hb1 : Below w.heap.size w wx := by rw [← hwx]; exact (Below.refl _ _).alloc (Nat.le_refl _) _
  have hB : DBx wx w.heap.size (n, v) := by rw [← hwx]; exact DBx.new w (n, v)
  obtain ⟨b0, b1⟩ := hB.cells
  dsimp only at b0 b1
  have k0 := cell_regrown b0
  have k1 := cell_regrown b1
  have HW : Hid (w.alloc (.cells #[.string n, .string v] 29) = wx) := hwx
  have cN : ∀ d os, Calls Tryz.prog 85 #[.string n] (grow (redrawn wx d) os) fun e w'' => e = .returned (.bool (nameOkS n)) ∧ ∃ p : Regrown, w'' = grow (redrawn wx p.d) p.os := fun d os => Calls.regrown_of ((implName_any n _ hs1).mono (by rintro e w1 ⟨rfl, rfl⟩; exact ⟨rfl, Below.refl _ _⟩))
  have cP : ∀ d os, Calls Tryz.prog 67 #[.string v] (grow (redrawn wx d) os) fun e w'' => e = .returned (.bool (allB plainB v)) ∧ ∃ p : Regrown, w'' = grow (redrawn wx p.d) p.os := fun d os => Calls.regrown_of ((implPlain_any v _ hs2).mono (by rintro e w1 ⟨rfl, rfl⟩; exact ⟨rfl, Below.refl _ _⟩))
  have cT : ∀ d os, Calls Tryz.prog 74 #[.string v] (grow (redrawn wx d) os) fun e w'' => e = .returned (.string (trimT v)) ∧ ∃ p : Regrown, w'' = grow (redrawn wx p.d) p.os := fun d os => Calls.regrown_of (implBlanks_any v _ hs2)
  obtain ⟨R, hR⟩ : ∃ R, fieldOkS (n, v) = R := ⟨_, rfl⟩
  rw [hR]
  have HR : Hid ((nameOkS n && (allB plainB v && decide ((v.size : Int) ≤ 60)) && trimS v) = R) := hR
  have hTT := trimT_same v
  generalize trimT v = tv at cT hTT
  generalize trimS v = B at HR hTT
  have hdr := below_regrown wx
  clear hwx hB hR b0 b1
  go_enter Tryz.func68, Tryz.ntmps68
  go_wp2
  rw [HW.out]
  cases hn : nameOkS n with
  | false =>
    rw [hn] at cN HR
    have HP : Hid (R = false) := by show _ = _; rw [← HR.out]; rfl
    clear hn cP cT
    refine wp_region_quiet_below (by kernel_rfl) (by kernel_rfl) ?_
    repeat (first | go_big_quiet_step (with_reducible exact cN _ _) | quiet_step (with_reducible exact cN _ _))
    refine wpQuiet_nil ?_
    intro _ hw'
    obtain ⟨⟨dq, osq⟩, hw''⟩ := hw'
    subst hw''
    go_wp2
    go_ret
    exact ⟨by rw [HP.out]; rfl, hb1.trans ((hdr dq osq).mono hb1.size)⟩
  | true =>
    rw [hn] at cN HR
    clear hn
    by_cases h60 : (v.size : Int) ≤ 60
    · rw [decide_eq_true h60] at HR
      cases hp : allB plainB v with
      | false =>
        rw [hp] at cP HR
        have HP : Hid (R = false) := by show _ = _; rw [← HR.out]; rfl
        clear hp cT
        refine wp_region_quiet_below (by kernel_rfl) (by kernel_rfl) ?_
        repeat (first | go_big_quiet_step (first | with_reducible exact cN _ _ | with_reducible exact cP _ _) | quiet_step (first | with_reducible exact cN _ _ | with_reducible exact cP _ _))
        refine wpQuiet_nil ?_
        intro _ hw'
        obtain ⟨⟨dq, osq⟩, hw''⟩ := hw'
        subst hw''
        go_wp2
        go_ret
        exact ⟨by rw [HP.out]; rfl, hb1.trans ((hdr dq osq).mono hb1.size)⟩
      | true =>
        rw [hp] at cP HR
        have HP : Hid (R = B) := by show _ = _; rw [← HR.out]; simp
        clear hp
        refine wp_region_quiet_below (by kernel_rfl) (by kernel_rfl) ?_
        repeat (first | go_big_quiet_step (first | with_reducible exact cN _ _ | with_reducible exact cP _ _ | with_reducible exact cT _ _) | quiet_step (first | with_reducible exact cN _ _ | with_reducible exact cP _ _ | with_reducible exact cT _ _))
        refine wpQuiet_nil ?_
        intro _ hw'
        obtain ⟨⟨dq, osq⟩, hw''⟩ := hw'
        subst hw''
        go_wp2
        go_ret
        exact ⟨by rw [HP.out]; first | rfl | simp [hTT], hb1.trans ((hdr dq osq).mono hb1.size)⟩
    · have HP : Hid (R = false) := by show _ = _; rw [← HR.out, decide_eq_false h60]; simp
      clear cP cT
      refine wp_region_quiet_below (by kernel_rfl) (by kernel_rfl) ?_
      repeat (first | go_big_quiet_step (with_reducible exact cN _ _) | quiet_step (with_reducible exact cN _ _))
      refine wpQuiet_nil ?_
      intro _ hw'
      obtain ⟨⟨dq, osq⟩, hw''⟩ := hw'
      subst hw''
      go_wp2
      go_ret
      exact ⟨by rw [HP.out]; rfl, hb1.trans ((hdr dq osq).mono hb1.size)⟩
end Go.Proofs.YtnnaphfeeobelaeGreatDoor

namespace Go.Proofs.YtnnaphfeeobelaeGreatDoor
open Go.RowKit Go.Sort
theorem bdrN_alloc (w : World) (o : Obj) (n : Nat) : Below w.heap.size w ((w.alloc o).drewN n) := ((Below.refl w.heap.size w).alloc (Nat.le_refl _) o).trans ⟨rfl, rfl, rfl, Nat.le_refl _, fun _ _ => rfl⟩
set_option maxRecDepth 100000 in
set_option maxHeartbeats 8000000 in
theorem addField_ok (E : List (Nat × Obj)) (w0 : World) (T : Nat) (line : ByteArray) (v : Value) (L : List (ByteArray × ByteArray)) (t : ByteArray) (k : Nat) (w : World) (H : Rr E w0 T line v L t k w) (s : ByteArray) (b r : List UInt8) (hs : s.size ≤ 1048576) (hl : s.data.toList = b ++ 58 :: r) (hb : ∀ x ∈ b, x ≠ 58) (f : ByteArray × ByteArray) (hf : f = (⟨(lowL b).toArray⟩, trimT ⟨r.toArray⟩)) (hok : fieldOkS f = true) (hL : L.length < 8) :
    Calls Tryz.prog 55 #[.pointer (some ⟨T, 0, none⟩), .string s] w fun e w' => e = .returned (.tuple #[]) ∧ ∃ u, Rr E w0 T line u (L ++ [f]) t k w' := by
  have hsz : s.size = b.length + r.length + 1 := by rw [Lib.size_eq, hl]; simp; omega
  have hbz : (⟨b.toArray⟩ : ByteArray).size ≤ 1048576 := by show b.toArray.size ≤ _; simp; omega
  have hrz : (⟨r.toArray⟩ : ByteArray).size ≤ 1048576 := by show r.toArray.size ≤ _; simp; omega
  have c1 := cut_yes s b r w hs hl hb
  have C2 : Hid (∀ wi, Calls Tryz.prog 73 #[.string ⟨b.toArray⟩] wi fun e w' => e = .returned (.string f.1) ∧ Below wi.heap.size wi w') := by
    intro wi
    have h := implLow_any ⟨b.toArray⟩ wi hbz
    rw [hf]
    exact h
  have C3 : Hid (∀ wi, Calls Tryz.prog 74 #[.string ⟨r.toArray⟩] wi fun e w' => e = .returned (.string f.2) ∧ Below wi.heap.size wi w') := by
    intro wi
    have h := implBlanks_any ⟨r.toArray⟩ wi hrz
    rw [hf]
    exact h
  have hf1 : f.1.size ≤ 1048576 := by rw [hf]; show ((lowL b).toArray).size ≤ _; simp [lowL]; omega
  have hf2 : f.2.size ≤ 1048576 := by rw [hf]; exact Nat.le_trans (trimT_le _) hrz
  have C4 : Hid (∀ wi, Calls Tryz.prog 68 #[.agg #[.string f.1, .string f.2]] wi fun e w' => e = .returned (.bool true) ∧ Below wi.heap.size wi w') := by
    intro wi
    have h := implFieldOk_any f wi hf1 hf2
    rw [hok] at h
    exact h
  generalize (⟨b.toArray⟩ : ByteArray) = B at c1 C2
  generalize (⟨r.toArray⟩ : ByteArray) = C at c1 C3
  have HH : Hid (Rr E w0 T line v L t k w) := H
  clear hsz hbz hrz hf hok hf1 hf2 hl hb hs H
  go_enter Tryz.func55, Tryz.ntmps55
  go_wp2_with fail
  refine c1.mono ?_
  rintro e w1 ⟨rfl, hb1⟩
  have H1 := HH.out.next hb1
  have c2 := C2.out w1
  clear c1 HH hb1
  go_wp2_with fail
  refine c2.mono ?_
  rintro e w2 ⟨rfl, hb2⟩
  have H2 := H1.next hb2
  have c3 := C3.out w2
  clear c2 H1 hb2 C2
  go_wp2_with fail
  refine c3.mono ?_
  rintro e w3 ⟨rfl, hb3⟩
  have H3 := H2.next hb3
  clear c3 H2 hb3 C3
  obtain ⟨w4, hw4⟩ : ∃ x, w3.alloc (.cells #[.string f.1, .string f.2] 29) = x := ⟨_, rfl⟩
  have hb4 : Below w3.heap.size w3 w4 := by rw [← hw4]; exact (Below.refl _ _).alloc (Nat.le_refl _) _
  have hD4 : DBx w4 w3.heap.size f := by rw [← hw4]; exact DBx.new w3 f
  have HW4 : Hid (w3.alloc (.cells #[.string f.1, .string f.2] 29) = w4) := hw4
  have H4 := H3.next hb4
  have c4 := C4.out w4
  obtain ⟨d0, d1⟩ := hD4.cells
  obtain ⟨y0, y1, y2, y3⟩ := H4.box.cells
  obtain ⟨a, c, rfl, _⟩ := H4.at
  rw [← hw4] at d0 d1 y0 y1 y2 y3
  clear H3 hw4 hb4 C4
  go_wp2_with fail
  rw [HW4.out] at d0 d1 y0 y1 y2 y3 ⊢
  refine c4.mono ?_
  rintro e w5 ⟨rfl, hb5⟩
  have H5 := H4.next hb5
  have hD5 : DBx w5 w3.heap.size f := (hb5.block _ (Array.getElem?_eq_some_iff.1 hD4).1).trans hD4
  clear c4 d0 d1 y0 y1 y2 y3 H4 hD4 hb5
  obtain ⟨y0, y1, y2, y3⟩ := H5.box.cells
  have hLi : (L.length : Int) < 8 := by omega
  have cy := want_yes w5
  go_wp2_with fail
  refine cy.mono ?_
  rintro e w6 ⟨rfl, hw6⟩
  rw [hw6]
  clear cy hw6 y0 y1 y2 y3
  obtain ⟨y0, y1, y2, y3⟩ := H5.box.cells
  obtain ⟨d0, d1⟩ := hD5.cells
  have y1' := fun o => kept_xD y1 o
  have d0' := fun o => kept_xD d0 o
  have d1' := fun o => kept_xD d1 o
  have hs5 := H5.bel.size
  go_wp2_with fail
  go_region_law (refine step_snocD (by rfl) _ _ 51 (by rfl) w0.heap.size 29 Tryz.underlying51 Tryz.infoFd _ L (by rfl) (by exact H5.own.alloc _) w5.heap.size f (0, 0) (by rfl) (by exact heap_alloc_new w5 _) (by omega) (by simp; omega) ?_; intro g2 cap2 w8 hown2 hgr2; have hk2 := H5.gather (hW := bdrN_alloc w5 _ _) hgr2 hown2; obtain ⟨q0, q1, q2, q3⟩ := hk2.1.cells; have z9 := hk2.1.thaw 1)
  all_goals (
    have HR : Hid _ := hk2.2
    clear hk2 hown2 hgr2 y0 y1 y2 y3 d0 d1 y1' d0' d1' H5 hD5
    go_wp2_with fail
    exact bodyPost_end (results_none rfl _ _ _) rfl ⟨rfl, _, HR.out⟩)
set_option maxRecDepth 100000 in
set_option maxHeartbeats 8000000 in
theorem addField_no (T : Nat) (s : ByteArray) (w : World) (hs : s.size ≤ 1048576) (hb : ∀ x ∈ s.data.toList, x ≠ 58) :
    Calls Tryz.prog 55 #[.pointer (some ⟨T, 0, none⟩), .string s] w fun e w' => e = .panicked (pan 2) ∧ Below w.heap.size w w' := by
  have c1 := cut_no s w hb
  have C2 := fun wi => implLow_any s wi hs
  have C3 := fun wi => implBlanks_any ⟨#[]⟩ wi (by decide)
  generalize (⟨(lowL s.data.toList).toArray⟩ : ByteArray) = F1 at C2
  generalize trimT ⟨#[]⟩ = F2 at C3
  have H2 : Hid (∀ wi, Calls Tryz.prog 73 #[.string s] wi fun e w' => e = .returned (.string F1) ∧ Below wi.heap.size wi w') := C2
  have H3 : Hid (∀ wi, Calls Tryz.prog 74 #[.string ⟨#[]⟩] wi fun e w' => e = .returned (.string F2) ∧ Below wi.heap.size wi w') := C3
  clear C2 C3 hb hs
  go_enter Tryz.func55, Tryz.ntmps55
  go_wp2_with fail
  refine c1.mono ?_
  rintro e w1 ⟨rfl, hb1⟩
  have c2 := H2.out w1
  clear c1
  go_wp2_with fail
  refine c2.mono ?_
  rintro e w2 ⟨rfl, hb2⟩
  have hb12 := hb1.trans (hb2.mono hb1.size)
  have c3 := H3.out w2
  clear c2 hb1 hb2
  go_wp2_with fail
  refine c3.mono ?_
  rintro e w3 ⟨rfl, hb3⟩
  have hb13 := hb12.trans (hb3.mono hb12.size)
  clear c3 hb12 hb3
  obtain ⟨w4, hw4⟩ : ∃ x, w3.alloc (.cells #[.string F1, .string F2] 29) = x := ⟨_, rfl⟩
  have hb14 : Below w.heap.size w w4 := by rw [← hw4]; exact hb13.alloc hb13.size _
  have HW4 : Hid (w3.alloc (.cells #[.string F1, .string F2] 29) = w4) := hw4
  have c4 := want_no w4
  clear hw4
  go_wp2_with fail
  rw [HW4.out]
  refine c4.mono ?_
  rintro e w5 ⟨rfl, hw5⟩
  rw [hw5]
  go_wp2_with fail
  exact ⟨rfl, rfl, hb14⟩
end Go.Proofs.YtnnaphfeeobelaeGreatDoor
