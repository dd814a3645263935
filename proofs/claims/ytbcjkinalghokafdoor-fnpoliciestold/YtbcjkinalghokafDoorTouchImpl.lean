/- Who is asked for: the program's touch. -/
import Derived.Test.YtbcjkinalghokafDoorKeysCopyJ
import Derived.Test.YtbcjkinalghokafDoorKeyImplJ
import Derived.Test.YtbcjkinalghokafDoorSkBumpImpl
import Derived.Test.YtbcjkinalghokafDoorPolSizesJ
namespace Go.Proofs.YtbcjkinalghokafDoor
open Go.RowKit Go.Sort

/-- A list changes where it lies. -/
theorem PHold.inWin {w w' : World} {V lo : Nat} {ty : TypeId} {ext : List Value} {v1 v2 v3 : Value} {P : Pol} {W' : List ByteArray} (h : PHold w V ty ext lo v1 v2 v3 P) (ht : tyOk ty) (hg : w.grownBy w' v1.ownBlock) (ho : OwnV w' lo 9 v1 (strs W')) :
    PHold w' V ty ext lo v1 v2 v3 ⟨W', P.main, P.sk⟩ := by
  obtain ⟨hV, h1, h2, h3, h4⟩ := h
  have hVn : v1.ownBlock ≠ some V := fun e => by
    obtain ⟨cs, hc⟩ := ownV_type h1 V e
    exact ty_ne hc hV ht.1 rfl
  refine ⟨(hg.block V (Array.getElem?_eq_some_iff.1 hV).1 (fun e => hVn e.symm)).trans hV, ho, h2.grown hg (fun k hk e => h3 k e hk), h3, ?_⟩
  refine OwnSS.apart (h4.mono (Nat.le_refl _) hg.size) fun k cs t hc htt => ?_
  refine hg.block k (Array.getElem?_eq_some_iff.1 hc).1 fun e => ?_
  obtain ⟨cs', hc'⟩ := ownV_type h1 k e.symm
  rw [hc] at hc'
  simp only [Option.some.injEq, Obj.cells.injEq] at hc'
  rcases htt with rfl | rfl
  · exact absurd hc'.2.1 (by decide)
  · exact absurd hc'.2.1 (by decide)
theorem PHold.inMain {w w' : World} {V lo : Nat} {ty : TypeId} {ext : List Value} {v1 v2 v3 : Value} {P : Pol} {W' : List ByteArray} (h : PHold w V ty ext lo v1 v2 v3 P) (ht : tyOk ty) (hg : w.grownBy w' v2.ownBlock) (ho : OwnV w' lo 9 v2 (strs W')) :
    PHold w' V ty ext lo v1 v2 v3 ⟨P.win, W', P.sk⟩ := by
  obtain ⟨hV, h1, h2, h3, h4⟩ := h
  have hVn : v2.ownBlock ≠ some V := fun e => by
    obtain ⟨cs, hc⟩ := ownV_type h2 V e
    exact ty_ne hc hV ht.1 rfl
  refine ⟨(hg.block V (Array.getElem?_eq_some_iff.1 hV).1 (fun e => hVn e.symm)).trans hV, h1.grown hg (fun k hk e => h3 k hk e), ho, h3, ?_⟩
  refine OwnSS.apart (h4.mono (Nat.le_refl _) hg.size) fun k cs t hc htt => ?_
  refine hg.block k (Array.getElem?_eq_some_iff.1 hc).1 fun e => ?_
  obtain ⟨cs', hc'⟩ := ownV_type h2 k e.symm
  rw [hc] at hc'
  simp only [Option.some.injEq, Obj.cells.injEq] at hc'
  rcases htt with rfl | rfl
  · exact absurd hc'.2.1 (by decide)
  · exact absurd hc'.2.1 (by decide)
theorem Seats.inWin {w w' : World} {V G lo : Nat} {v1 v2 v3 : Value} {P : Pol} {o : ByteArray} {W' : List ByteArray} (h : Seats w V G lo v1 v2 v3 P o) (hg : w.grownBy w' v1.ownBlock) (ho : OwnV w' lo 9 v1 (strs W')) : Seats w' V G lo v1 v2 v3 ⟨W', P.main, P.sk⟩ o ∧ Below G w w' := by
  have h3 := h.2.2.1
  have h5 := h.lo
  refine ⟨⟨h.1.inWin seats_ty hg ho, (hg.block G (Array.getElem?_eq_some_iff.1 h.2.1).1 (fun e => by have := (h.1.2.1.lt G e.symm).1; omega)).trans h.2.1, h.2.2⟩, ?_⟩
  exact (Below.refl G w).grown hg (by omega) (fun k e => by have := (h.1.2.1.lt k e).1; omega)
theorem Seats.inMain {w w' : World} {V G lo : Nat} {v1 v2 v3 : Value} {P : Pol} {o : ByteArray} {W' : List ByteArray} (h : Seats w V G lo v1 v2 v3 P o) (hg : w.grownBy w' v2.ownBlock) (ho : OwnV w' lo 9 v2 (strs W')) : Seats w' V G lo v1 v2 v3 ⟨P.win, W', P.sk⟩ o ∧ Below G w w' := by
  have h3 := h.2.2.1
  have h5 := h.lo
  refine ⟨⟨h.1.inMain seats_ty hg ho, (hg.block G (Array.getElem?_eq_some_iff.1 h.2.1).1 (fun e => by have := (h.1.2.2.1.lt G e.symm).1; omega)).trans h.2.1, h.2.2⟩, ?_⟩
  exact (Below.refl G w).grown hg (by omega) (fun k e => by have := (h.1.2.2.1.lt k e).1; omega)
theorem Seats.sk {w w' : World} {V G lo : Nat} {v1 v2 v3 v3' : Value} {P : Pol} {o : ByteArray} {S : Sk} (h : Seats w V G lo v1 v2 v3 P o) (hb : Below w.heap.size w w') (ho : OwnSS w' w.heap.size w'.heap.size v3' S.rows) :
    Seats ((w'.setCell ⟨V, 2, none⟩ v3').setCell ⟨V, 3, none⟩ (.int .i64 S.added)) V G lo v1 v2 v3' ⟨P.win, P.main, S⟩ o ∧ Below G w ((w'.setCell ⟨V, 2, none⟩ v3').setCell ⟨V, 3, none⟩ (.int .i64 S.added)) := by
  have h3 := h.2.2.1
  have h4 := h.2.2.2
  have h5 := h.lo
  refine ⟨⟨h.1.setSk seats_ty hb h5 ho, ?_, h.2.2⟩, ((hb.mono (by omega)).setCell (by show G ≤ V; omega) _).setCell (by show G ≤ V; omega) _⟩
  rw [Below.heap_setCell _ _ _ _ (by show G ≠ V; omega), Below.heap_setCell _ _ _ _ (by show G ≠ V; omega)]
  exact (hb.block G (Array.getElem?_eq_some_iff.1 h.2.1).1).trans h.2.1
theorem touchP_ok {P : Pol} {key : ByteArray} (hP : okP P = true) (hk : keyOk key = true) : touchP P key = if inL P.win key = true then (⟨without P.win key ++ [key], P.main, bumpS P.sk key⟩, noKey) else if inL P.main key = true then (⟨P.win, without P.main key ++ [key], bumpS P.sk key⟩, noKey) else enterP ⟨P.win, P.main, bumpS P.sk key⟩ key := by
  unfold touchP enterP
  rw [hP, hk]
  rfl
set_option maxRecDepth 100000 in
set_option maxHeartbeats 4000000 in
theorem touch_any (w : World) (V G lo : Nat) (v1 v2 v3 : Value) (P : Pol) (key : ByteArray) (h : Seats w V G lo v1 v2 v3 P noKey) (hP : okP P = true) (hkk : keyOk key = true) (ht : ∀ W, Below G w W → Tab W) :
    Calls Tryd.prog 31 #[.pointer (some ⟨V, 0, none⟩), .string key] w fun e w' => e = .returned (.tuple #[]) ∧ Below G w w' ∧ ∃ v1' v2' v3', Seats w' V G lo v1' v2' v3' (touchP P key).1 (touchP P key).2 := by
  obtain ⟨_, _, b2, b3, _⟩ := h.1.cells
  obtain ⟨a3, k3, rfl, hL3⟩ := h.1.2.2.2.2.at
  have hsz := okP_sz hP
  obtain ⟨l1, l2, l3⟩ := hsz.parts
  obtain ⟨p1, p2, p3, p4, p5, p6, p7, p8⟩ := okP_iff.1 hP
  have hks : key.size ≤ 30 := by simp only [keyOk, decide_eq_true_eq] at hkk; exact hkk.2
  have hz : ∀ z ∈ P.win ++ P.main, z.size ≤ 1048576 := fun z hz => by
    rcases List.mem_append.1 hz with hz | hz
    · have := p1 z hz; simp only [keyOk, decide_eq_true_eq] at this; omega
    · have := p2 z hz; simp only [keyOk, decide_eq_true_eq] at this; omega
  have hsl : (bumpS P.sk key).rows.length ≤ 1048576 := by
    obtain ⟨a, b, c, e, _⟩ := okK_parts (bumpS_ok key p8)
    rw [e]; simp
  have HTP := touchP_ok hP hkk
  have HQ : Hid (touchP P key = if inL P.win key = true then (⟨without P.win key ++ [key], P.main, bumpS P.sk key⟩, noKey) else if inL P.main key = true then (⟨P.win, without P.main key ++ [key], bumpS P.sk key⟩, noKey) else enterP ⟨P.win, P.main, bumpS P.sk key⟩ key) := HTP
  have hlo := h.lo
  have hGl := h.2.2.1
  have c1 := implSketchBump_any w a3 k3 P.sk key hL3 l3 (by omega) (ht w (Below.refl _ _))
  have HS : Hid (Seats w V G lo v1 v2 (.slice a3 P.sk.rows.length k3) P noKey) := h
  have HX : Hid (P.win.Nodup ∧ P.main.Nodup ∧ P.win.length ≤ 2 ∧ P.main.length ≤ 4 ∧ key.size ≤ 1048576 ∧ (bumpS P.sk key).rows.length ≤ 1048576 ∧ (∀ z ∈ P.win ++ P.main, z.size ≤ 1048576) ∧ ∀ W, Below G w W → Tab W) := ⟨p3, p4, p6, p7, by omega, hsl, hz, ht⟩
  clear h hP hkk ht hL3 hsz l1 l2 l3 p1 p2 p3 p4 p5 p6 p7 p8 hks hz hsl HTP hlo hGl
  go_enter Tryd.func31, Tryd.ntmps31
  go_wp2_with fail
  refine c1.mono ?_
  rintro e w2 ⟨v, rfl, ⟨u, rfl, ho2⟩, hb2⟩
  obtain ⟨a4, k4, rfl, _⟩ := ho2.at
  have S1 : Seats w V G lo v1 v2 (.slice a3 P.sk.rows.length k3) P noKey := HS.out
  have S2 := S1.on hb2
  obtain ⟨_, _, c2, c3, _⟩ := S2.1.cells
  have f2 := S2.1.thaw 2
  have f3 := S2.1.thaw 3
  obtain ⟨S3, B3⟩ := S1.sk (S := bumpS P.sk key) hb2 ho2
  obtain ⟨w3, hw3⟩ : ∃ x, (w2.setCell ⟨V, 2, none⟩ (.slice a4 (bumpS P.sk key).rows.length k4)).setCell ⟨V, 3, none⟩ (.int .i64 (bumpS P.sk key).added) = x := ⟨_, rfl⟩
  have HW3 : Hid ((w2.setCell ⟨V, 2, none⟩ (.slice a4 (bumpS P.sk key).rows.length k4)).setCell ⟨V, 3, none⟩ (.int .i64 (bumpS P.sk key).added) = w3) := hw3
  rw [hw3] at S3 B3
  obtain ⟨B, hB⟩ : ∃ B, bumpS P.sk key = B := ⟨_, rfl⟩
  rw [hB] at S3 HW3 HX HQ ⊢
  obtain ⟨d0, d1, _, _, _⟩ := S3.1.cells
  have cW := toEnd_any w3 lo v1 P.win key S3.1.2.1 (by have := HX.out.2.2.1; omega) HX.out.1
  have cM := toEnd_any w3 lo v2 P.main key S3.1.2.2.1 (by have := HX.out.2.2.2.1; omega) HX.out.2.1
  have HS3 : Hid (Seats w3 V G lo v1 v2 (.slice a4 B.rows.length k4) ⟨P.win, P.main, B⟩ noKey) := S3
  have HB3 : Hid (Below G w w3) := B3
  rw [← HW3.out] at d0 d1
  clear S1 S2 S3 B3 hw3 hB ho2 hb2 c1 b2 b3
  go_wp2_with fail
  rw [HW3.out] at d0 d1 ⊢
  refine cW.mono ?_
  rintro e w' (⟨hI, rfl, hw'⟩ | ⟨hI, rfl, hoW, hgW⟩)
  · rw [hw']
    clear hw' cW
    have HI : Hid (inL P.win key = false) := hI
    clear hI
    go_wp2_with fail
    refine cM.mono ?_
    rintro e w' (⟨hI, rfl, hw'⟩ | ⟨hI, rfl, hoM, hgM⟩)
    · rw [hw']
      clear hw' cM
      have HQ' : Hid (touchP P key = enterP ⟨P.win, P.main, B⟩ key) := by show _ = _; rw [HQ.out, HI.out, hI]; rfl
      have S3 : Seats w3 V G lo v1 v2 (.slice a4 B.rows.length k4) ⟨P.win, P.main, B⟩ noKey := HS3.out
      obtain ⟨_, _, l1, l2, l3, l4, l5, l6⟩ := HX.out
      have cE := enter_any w3 V G lo v1 v2 _ ⟨P.win, P.main, B⟩ key S3 l1 l2 l4 l3 l5 (fun W hW => l6 W (HB3.out.trans hW))
      clear hI S3 HX l1 l2 l3 l4 l5 l6 d0 d1
      go_wp2_with fail
      refine cE.mono ?_
      rintro e w8 ⟨rfl, hb8', v1', v2', v3', hS8⟩
      have hb8 := HB3.out.trans hb8'
      have HF : Hid _ := hS8
      clear hS8 cE hb8'
      go_wp2_with fail
      go_end0
      refine ⟨rfl, hb8, v1', v2', v3', ?_⟩
      rw [HQ'.out]
      exact HF.out
    · have HQ' : Hid (touchP P key = (⟨P.win, without P.main key ++ [key], B⟩, noKey)) := by show _ = _; rw [HQ.out, HI.out, hI]; rfl
      have S3 : Seats w3 V G lo v1 v2 (.slice a4 B.rows.length k4) ⟨P.win, P.main, B⟩ noKey := HS3.out
      obtain ⟨S4, B4⟩ := S3.inMain hgM hoM
      have HF : Hid (Seats w' V G lo v1 v2 (.slice a4 B.rows.length k4) ⟨P.win, without P.main key ++ [key], B⟩ noKey ∧ Below G w w') := ⟨S4, HB3.out.trans B4⟩
      clear hI S3 S4 B4 hoM hgM cM
      go_wp2_with fail
      go_end0
      refine ⟨rfl, HF.out.2, v1, v2, .slice a4 B.rows.length k4, ?_⟩
      rw [HQ'.out]
      exact HF.out.1
  · have HQ' : Hid (touchP P key = (⟨without P.win key ++ [key], P.main, B⟩, noKey)) := by show _ = _; rw [HQ.out, hI]; rfl
    have S3 : Seats w3 V G lo v1 v2 (.slice a4 B.rows.length k4) ⟨P.win, P.main, B⟩ noKey := HS3.out
    obtain ⟨S4, B4⟩ := S3.inWin hgW hoW
    have HF : Hid (Seats w' V G lo v1 v2 (.slice a4 B.rows.length k4) ⟨without P.win key ++ [key], P.main, B⟩ noKey ∧ Below G w w') := ⟨S4, HB3.out.trans B4⟩
    clear hI S3 S4 B4 hoW hgW cM cW
    go_wp2_with fail
    go_end0
    refine ⟨rfl, HF.out.2, v1, v2, .slice a4 B.rows.length k4, ?_⟩
    rw [HQ'.out]
    exact HF.out.1
end Go.Proofs.YtbcjkinalghokafDoor
