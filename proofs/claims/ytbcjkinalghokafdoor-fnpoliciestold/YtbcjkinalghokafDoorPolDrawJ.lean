/- Texts that stand in one: PolDraw, SkSize, SkVar, SketchDraw. -/
import Derived.Test.YtbcjkinalghokafDoorKeysDraw12J
import Derived.Test.YtbcjkinalghokafDoorPolSizesJ
import Derived.Test.YtbcjkinalghokafDoorSkNewSpecJ
import Derived.Test.YtbcjkinalghokafDoorPolTouchSpec
import Derived.Deep.RegionLaw
import Derived.Test.YtbcjkinalghokafDoorSkLaw3J
import Derived.Test.YtbcjkinalghokafDoorSkBumpSpec
namespace Go.Proofs.YtbcjkinalghokafDoor
open Go.RowKit Go.Sort

theorem key2_ok {z : ByteArray} (h : key2 z) : keyOk z = true := by
  unfold key2 at h
  unfold keyOk
  simp only [decide_eq_true_eq]
  omega
theorem PBox.left {w w1 : World} {T p : Nat} {a b c d : Value} {ca : Option Addr} {n cap : Nat} (h : PBox w T a b c d) (hl : Left w w1 p ca n cap) (hp : T ≠ p) : PBox w1 T a b c d := h.kept (hl.2.2.block T h.lt (fun e => hp (by cases e; rfl)))
theorem OwnV.leftP {w w1 : World} {p base : Nat} {e : TypeId} {v : Value} {xs : List Value} {ca : Option Addr} {n cap : Nat} (h : OwnV w base e v xs) (hl : Left w w1 p ca n cap) (hp : p < base) : OwnV w1 base e v xs := h.past12 hl hp
theorem OwnSS.leftP {w w1 : World} {lo hi p : Nat} {v : Value} {LL : List (List Int)} {ca : Option Addr} {n cap : Nat} (h : OwnSS w lo hi v LL) (hl : Left w w1 p ca n cap) (hp : p < lo) : OwnSS w1 lo hi v LL := h.kept fun k h1 _ hk _ => hl.2.2.block k hk (fun e => by cases e; omega)
theorem PolV.left {w w1 : World} {lo T p : Nat} {a1 a2 a3 : Option Addr} {c1 c2 c3 : Nat} {P : Pol} {ca : Option Addr} {n cap : Nat} (h : PolV w lo T a1 a2 a3 c1 c2 c3 P) (hl : Left w w1 p ca n cap) (hp : p < lo) : PolV w1 lo T a1 a2 a3 c1 c2 c3 P := by
  obtain ⟨⟨hV, h1, h2, h3, h4⟩, hlo⟩ := h
  have hlt := (Array.getElem?_eq_some_iff.1 hV).1
  exact ⟨⟨(hl.2.2.block T hlt (fun e => by cases e; omega)).trans hV, h1.leftP hl hp, h2.leftP hl hp, h3, (h4.leftP hl hp).mono (Nat.le_refl _) hl.2.2.size⟩, hlo⟩
set_option maxRecDepth 100000 in
set_option maxHeartbeats 8000000 in
theorem l13Policy_any (w : World) (p : Nat) (ca : Option Addr) (n cap : Nat) (hc : Cur w p ca n cap) (hcode : CodeAt w ca n p) (hn : n ≤ 1048576) (hp : p < w.heap.size) :
    Calls Tryd.prog 24 #[.pointer (some ⟨p, 0, none⟩)] w fun e w' => ∃ (v : Value) (P : Pol), e = .returned v ∧ okP P = true ∧ POwn w' w.heap.size w'.heap.size v P ∧ Left w w' p ca n cap := by
  obtain ⟨w1, hw1⟩ : ∃ x, w.alloc (.cells #[.slice none 0 0, .slice none 0 0, .slice none 0 0, .int .i64 0] 29) = x := ⟨_, rfl⟩
  have hb1 : Below w.heap.size w w1 := by rw [← hw1]; exact (Below.refl _ _).alloc (Nat.le_refl _) _
  have s1 : w1.heap.size = w.heap.size + 1 := by rw [← hw1]; simp
  obtain ⟨R, hR⟩ : ∃ R, w.heap.size = R := ⟨_, rfl⟩
  have hR1 : PBox w1 R (.slice none 0 0) (.slice none 0 0) (.slice none 0 0) (.int .i64 0) := by rw [← hw1, ← hR]; exact PBox.new _ _ _ _ _
  have hL1 : Left w w1 p ca n cap := (Left.refl hc hcode).below hb1 hp
  have HW1 : Hid (w.alloc (.cells #[.slice none 0 0, .slice none 0 0, .slice none 0 0, .int .i64 0] 29) = w1) := hw1
  have cN := specPolicyNew_any w1
  clear hw1 hc hcode
  go_enter Tryd.func24, Tryd.ntmps24
  go_wp2_with fail
  rw [HW1.out]
  refine cN.mono ?_
  rintro e w2 ⟨v2, rfl, ho2, hb2⟩
  obtain ⟨p1, q1, p2, q2, p3, q3, rfl, _⟩ := ho2.at
  clear cN HW1
  have S3 := PolV.new ho2 hb2.size
  obtain ⟨w3, hw3⟩ : ∃ x, w2.alloc (.cells #[.slice p1 newP.win.length q1, .slice p2 newP.main.length q2, .slice p3 newP.sk.rows.length q3, .int .i64 newP.sk.added] 29) = x := ⟨_, rfl⟩
  have hbw : Below w1.heap.size w1 w3 := by rw [← hw3]; exact hb2.alloc hb2.size _
  have HW3 : Hid (w2.alloc (.cells #[.slice p1 newP.win.length q1, .slice p2 newP.main.length q2, .slice p3 newP.sk.rows.length q3, .int .i64 newP.sk.added] 29) = w3) := hw3
  obtain ⟨T, hT⟩ : ∃ T, w2.heap.size = T := ⟨_, rfl⟩
  obtain ⟨B, hBB⟩ : ∃ B, w1.heap.size = B := ⟨_, rfl⟩
  rw [hw3, hT, hBB] at S3
  have hR3 := hR1.on hbw
  have hL3 : Left w w3 p ca n cap := hL1.below (hbw.mono (by omega)) hp
  have hRB : R < B := by omega
  have hpB : p < R := by omega
  have HRW : Hid (w.heap.size = R) := hR
  have HTT : Hid (w2.heap.size = T) := hT
  clear hw3 ho2 hb2 hR1 hL1 hbw hb1 s1 hT hBB hR
  go_wp2_with fail
  rw [HW3.out, HTT.out]
  clear HW3
  try rw [HRW.out]
  go_loopw [4] (fun i wr => Box (∃ (k : Nat) (a1 a2 a3 : Option Addr) (c1 c2 c3 : Nat) (P : Pol), k ≤ 40 ∧ i = .int .i64 k ∧ Hid (okP P = true) ∧ PolV wr B T a1 a2 a3 c1 c2 c3 P ∧ PBox wr R (.slice none 0 0) (.slice none 0 0) (.slice none 0 0) (.int .i64 0) ∧ Left w wr p ca n cap))
    (fun i _ => 40 - (intOf i).toNat)
  case atStart => exact ⟨⟨0, _, _, _, _, _, _, newP, by omega, rfl, newP_ok, S3, hR3, hL3⟩⟩
  case round =>
    obtain ⟨k, a1, a2, a3, c1, c2, c3, P, hk, rfl, HOK, hS, hRr, hLr⟩ := hrel.out
    have cb := below_any wr p ca n cap 40 hLr.1 hLr.2.1 hn (by omega) (by omega)
    clear hrel S3 hR3 hL3
    go_wp2_with fail
    refine cb.mono ?_
    rintro e w4 ⟨x, hx, _, rfl, hl4⟩
    have hx2 := hx (by omega)
    have hS4 := hS.left hl4 (by omega)
    have hR4 := hRr.left hl4 (by omega)
    have hL4 := hLr.trans hl4
    clear cb hx hS hRr hLr hl4
    obtain ⟨x0, x1, x2, x3⟩ := hS4.cells
    by_cases hlt : (k : Int) < (x : Int)
    · have hdr : Below w4.heap.size w4 w4.drew := ⟨rfl, rfl, rfl, Nat.le_refl _, fun _ _ => rfl⟩
      have hS4d := hS4.on hdr
      have hL4d : Left w w4.drew p ca n cap := hL4.below (hdr.mono hL4.2.2.size) hp
      have hR4d := hR4.on hdr
      have hp4 : p < w4.heap.size := by have := hL4.2.2.size; omega
      have cK := l12Key2_any w4.drew p ca n cap hL4d.1 hL4d.2.1 hn hp4
      have HKS : Hid (∀ w5, Left w4.drew w5 p ca n cap → PolV w5 B T a1 a2 a3 c1 c2 c3 P ∧ PBox w5 R (.slice none 0 0) (.slice none 0 0) (.slice none 0 0) (.int .i64 0) ∧ Left w w5 p ca n cap) := fun w5 h => ⟨hS4d.left h (by omega), hR4d.left h (by omega), hL4d.trans h⟩
      have HCB : Hid (∀ w5 key, PolV w5 B T a1 a2 a3 c1 c2 c3 P → key2 key → Calls Tryd.prog 10 #[.agg #[.slice a1 P.win.length c1, .slice a2 P.main.length c2, .slice a3 P.sk.rows.length c3, .int .i64 P.sk.added], .string key] w5 fun e w' => ∃ v Q o, okP Q = true ∧ e = .returned (.tuple #[v, .string o]) ∧ POwn w' w5.heap.size w'.heap.size v Q ∧ Below w5.heap.size w5 w') := fun w5 key h hk => by
        refine (specPolicyTouch_any w5 a1 a2 a3 c1 c2 c3 P key h.at (okP_sz HOK.out) (by unfold key2 at hk; omega)).mono ?_
        rintro e w' ⟨v, he, ho, hb⟩
        exact ⟨v, _, _, (touchP_right HOK.out (key2_ok hk)).1, he, ho, hb⟩
      clear hS4 hS4d hL4 hL4d hR4 hR4d
      go_wp2_with fail
      go_region_law (first
        | (go_simp; go_at_call 27; refine cK.mono ?_; rintro e w5 ⟨key, hks, rfl, hl5⟩; obtain ⟨hS5, hR5, hL5⟩ := HKS.out w5 hl5; obtain ⟨y0, y1, y2, y3⟩ := hS5.cells)
        | (go_simp; go_at_call 10; refine (HCB.out w5 key hS5 hks).mono ?_; rintro e w6 ⟨v6, Q, o, hokQ, rfl, ho6, hb6⟩; obtain ⟨b1, d1, b2, d2, b3, d3, hv6, _⟩ := ho6.at; subst hv6; obtain ⟨hBX, hVN⟩ := hS5.put hb6 ho6; have hRN := (hR5.on hb6).kept (put4_other w6 T (.slice b1 Q.win.length d1) (.slice b2 Q.main.length d2) (.slice b3 Q.sk.rows.length d3) (.int .i64 Q.sk.added) R (by have := hS5.lo; omega)); have hLN := hL5.below (Below.put4 (T := T) (hb6.mono hL5.2.2.size) (by have := hS5.lo; have := HRW.out; omega) (.slice b1 Q.win.length d1) (.slice b2 Q.main.length d2) (.slice b3 Q.sk.rows.length d3) (.int .i64 Q.sk.added)) hp; obtain ⟨z0, z1, z2, z3⟩ := hBX.cells; have f0 := hBX.thaw 0; have f1 := hBX.thaw 1; have f2 := hBX.thaw 2; have f3 := hBX.thaw 3))
      all_goals (
        have HX : Hid (okP Q = true ∧ PolV ((((w6.setCell ⟨T, 0, none⟩ (.slice b1 Q.win.length d1)).setCell ⟨T, 1, none⟩ (.slice b2 Q.main.length d2)).setCell ⟨T, 2, none⟩ (.slice b3 Q.sk.rows.length d3)).setCell ⟨T, 3, none⟩ (.int .i64 Q.sk.added)) B T b1 b2 b3 d1 d2 d3 Q ∧ PBox ((((w6.setCell ⟨T, 0, none⟩ (.slice b1 Q.win.length d1)).setCell ⟨T, 1, none⟩ (.slice b2 Q.main.length d2)).setCell ⟨T, 2, none⟩ (.slice b3 Q.sk.rows.length d3)).setCell ⟨T, 3, none⟩ (.int .i64 Q.sk.added)) R (.slice none 0 0) (.slice none 0 0) (.slice none 0 0) (.int .i64 0) ∧ Left w ((((w6.setCell ⟨T, 0, none⟩ (.slice b1 Q.win.length d1)).setCell ⟨T, 1, none⟩ (.slice b2 Q.main.length d2)).setCell ⟨T, 2, none⟩ (.slice b3 Q.sk.rows.length d3)).setCell ⟨T, 3, none⟩ (.int .i64 Q.sk.added)) p ca n cap) := ⟨hokQ, hVN, hRN, hLN⟩
        clear z0 z1 z2 z3 f0 f1 f2 f3 hS5 hR5 hL5 y0 y1 y2 y3 hl5 hb6 cK HKS HCB hdr x0 x1 x2 x3 hokQ hVN hRN hLN hBX ho6
        go_wp2_with fail
        refine ⟨?_, ?_⟩
        · exact ⟨⟨k + 1, b1, b2, b3, d1, d2, d3, Q, by omega, by go_num, HX.out.1, HX.out.2.1, HX.out.2.2.1, HX.out.2.2.2⟩⟩
        · simp [intOf]; omega)
    · obtain ⟨r0, r1, r2, r3⟩ := hR4.cells
      have f0 := hR4.thaw 0
      have f1 := hR4.thaw 1
      have f2 := hR4.thaw 2
      have f3 := hR4.thaw 3
      have HO : Hid (PolV w4 B T a1 a2 a3 c1 c2 c3 P) := hS4
      clear hS4
      go_wp2_with fail
      have hO : PolV w4 B T a1 a2 a3 c1 c2 c3 P := HO.out
      obtain ⟨q0, q1, q2, q3⟩ := (hR4.put (.slice a1 P.win.length c1) (.slice a2 P.main.length c2) (.slice a3 P.sk.rows.length c3) (.int .i64 P.sk.added)).cells
      refine bodyPost_ret (v := .agg #[.slice a1 P.win.length c1, .slice a2 P.main.length c2, .slice a3 P.sk.rows.length c3, .int .i64 P.sk.added]) (by simp [results, Tryd.results24, go_sem, q0, q1, q2, q3]) rfl ⟨_, P, rfl, HOK.out, POwn.mono (hO.hold.own.put4 hR4 _ _ _ _) (by have := HRW.out; omega) (by simp), hL4.below (Below.put4 (T := R) (Below.refl _ _) (by have := HRW.out; omega) _ _ _ _) hp⟩
set_option maxRecDepth 100000 in
set_option maxHeartbeats 2000000 in
theorem drawPolicy_any (w : World) (ca : Option Addr) (n cap : Nat) (hcode : CodeAt w ca n w.heap.size) (hn : n ≤ 1048576) :
    Calls Tryd.prog 7 #[.slice ca n cap] w fun e w' => ∃ (v : Value) (P : Pol), e = .returned v ∧ okP P = true ∧ POwn w' w.heap.size w'.heap.size v P ∧ Below w.heap.size w w' := by
  obtain ⟨w0, hw0⟩ : ∃ x, w.alloc (.cells #[.slice none 0 0, .slice none 0 0, .slice none 0 0, .int .i64 0] 29) = x := ⟨_, rfl⟩
  have hb0 : Below w.heap.size w w0 := by rw [← hw0]; exact (Below.refl _ _).alloc (Nat.le_refl _) _
  have s0 : w0.heap.size = w.heap.size + 1 := by rw [← hw0]; simp
  have hR0 : PBox w0 w.heap.size (.slice none 0 0) (.slice none 0 0) (.slice none 0 0) (.int .i64 0) := by rw [← hw0]; exact PBox.new _ _ _ _ _
  have hcd : CodeAt w0 ca n w0.heap.size := by
    intro j hj
    obtain ⟨b, off, z, h1, h2, h3, h4⟩ := hcode j hj
    exact ⟨b, off, z, h1, by omega, (hb0.cell h2).trans h3, h4⟩
  have c1 := new_any w0 ca n cap hcd hn
  have HW : Hid (w.alloc (.cells #[.slice none 0 0, .slice none 0 0, .slice none 0 0, .int .i64 0] 29) = w0) := hw0
  clear hw0 hcode hcd
  go_enter Tryd.func7, Tryd.ntmps7
  go_wp2_with fail
  rw [HW.out]
  refine c1.mono ?_
  rintro e w1 ⟨p, rfl, hp1, hp2, hcur, hcd, hb1⟩
  have c2 := l13Policy_any w1 p ca n cap hcur hcd hn hp1
  clear c1
  go_wp2_with fail
  refine c2.mono ?_
  rintro e w2 ⟨v2, P, rfl, hok, ho2, hl2⟩
  obtain ⟨a1, c1, a2, c2', a3, c3, rfl, _⟩ := ho2.at
  have hbw1 : Below w.heap.size w w1 := hb0.trans (hb1.mono hb0.size)
  have hbw2 := below_of_left hbw1 (by omega) hl2
  have hR2 := (hR0.on hb1).left hl2 (by omega)
  obtain ⟨r0, r1, r2, r3⟩ := hR2.cells
  have f0 := hR2.thaw 0
  have f1 := hR2.thaw 1
  have f2 := hR2.thaw 2
  have f3 := hR2.thaw 3
  have HO : Hid (POwn w2 w1.heap.size w2.heap.size (.agg #[.slice a1 P.win.length c1, .slice a2 P.main.length c2', .slice a3 P.sk.rows.length c3, .int .i64 P.sk.added]) P ∧ okP P = true) := ⟨ho2, hok⟩
  have hs := hbw1.size
  clear c2 ho2 hok hR0 hl2
  go_wp2_with fail
  obtain ⟨q0, q1, q2, q3⟩ := (hR2.put (.slice a1 P.win.length c1) (.slice a2 P.main.length c2') (.slice a3 P.sk.rows.length c3) (.int .i64 P.sk.added)).cells
  refine bodyPost_ret (v := .agg #[.slice a1 P.win.length c1, .slice a2 P.main.length c2', .slice a3 P.sk.rows.length c3, .int .i64 P.sk.added]) (by simp [results, Tryd.results7, go_sem, q0, q1, q2, q3]) rfl ⟨_, P, rfl, HO.out.2, POwn.mono (POwn.put4 HO.out.1 hR2 _ _ _ _) (by omega) (by simp), Below.put4 hbw2 (Nat.le_refl _) _ _ _ _⟩
end Go.Proofs.YtbcjkinalghokafDoor

namespace Go.Proofs.YtbcjkinalghokafDoor
open Go.RowKit

theorem bumpTo_lens (key : ByteArray) (rows : List (List Int)) (k : Nat) : (bumpTo key rows k).map List.length = rows.map List.length := by
  unfold bumpTo
  apply List.ext_getElem?
  intro i
  simp only [List.getElem?_map, List.getElem?_mapIdx]
  cases rows[i]? with
  | none => rfl
  | some r =>
    simp only [Option.map_some]
    split
    · simp [bumpR]
    · rfl
theorem halfTo_lens (rows : List (List Int)) (k : Nat) : (halfTo rows k).map List.length = rows.map List.length := by
  unfold halfTo
  apply List.ext_getElem?
  intro i
  simp only [List.getElem?_map, List.getElem?_mapIdx]
  cases rows[i]? with
  | none => rfl
  | some r =>
    simp only [Option.map_some]
    split
    · simp [halfR]
    · rfl
theorem bumpS_sz (S : Sk) (key : ByteArray) (h : SkSz S) : SkSz (bumpS S key) := by
  have hl : (bumpS S key).rows.map List.length = S.rows.map List.length := by
    unfold bumpS
    split
    · split
      · simp only [halfTo_lens, bumpTo_lens]
      · simp only [bumpTo_lens]
    · rfl
  have hn : (bumpS S key).rows.length = S.rows.length := by have := congrArg List.length hl; simpa using this
  unfold SkSz at *
  rw [hn, tot_same hl]
  exact h
end Go.Proofs.YtbcjkinalghokafDoor

namespace Go.Proofs.YtbcjkinalghokafDoor
open Go.RowKit

theorem okK_sz {S : Sk} (h : okK S = true) : SkSz S := by
  obtain ⟨a, b, c, e, ha, hb, hc, _, _⟩ := okK_parts h
  unfold SkSz tot
  rw [e]
  simp [rowOk_len ha, rowOk_len hb, rowOk_len hc]
theorem bytes_ne {z key : ByteArray} (h : ¬ z = key) : (z.toList == key.toList) = false := by
  rw [ByteArray.toList_eq, ByteArray.toList_eq, beq_eq_false_iff_ne]
  intro e
  exact h (ByteArray.ext (Array.toList_inj.1 e))
/-- A sketch in a variable, its rows owned. -/
structure SB (w : World) (lo T : Nat) (a : Option Addr) (c : Nat) (S : Sk) : Prop where
  box : SkBox w T (.slice a S.rows.length c) (.int .i64 S.added)
  own : OwnSS w lo w.heap.size (.slice a S.rows.length c) S.rows
theorem SB.on {w w' : World} {lo T : Nat} {a : Option Addr} {c : Nat} {S : Sk} (h : SB w lo T a c S) (hb : Below w.heap.size w w') : SB w' lo T a c S := ⟨h.box.on hb, (h.own.below hb (Nat.le_refl _)).up⟩
theorem SB.at {w : World} {lo T : Nat} {a : Option Addr} {c : Nat} {S : Sk} (h : SB w lo T a c S) : SSAt w a S.rows w.heap.size := by
  obtain ⟨p, q, hv, hA⟩ := h.own.at
  simp only [Value.slice.injEq, true_and] at hv
  obtain ⟨rfl, rfl⟩ := hv
  exact hA
/-- Another sketch is stored into the variable. -/
theorem SB.put {w w2 : World} {lo T : Nat} {a a2 : Option Addr} {c c2 : Nat} {S S2 : Sk} (h : SB w lo T a c S) (hb : Below w.heap.size w w2) (ho : SkOwn w2 w.heap.size w2.heap.size (.agg #[.slice a2 S2.rows.length c2, .int .i64 S2.added]) S2) (hlo : lo ≤ w.heap.size) :
    w2.cell? ⟨T, 0, none⟩ = some (.slice a S.rows.length c) ∧ w2.cell? ⟨T, 1, none⟩ = some (.int .i64 S.added) ∧ w2.frozen? ⟨T, 0, none⟩ = false ∧ w2.frozen? ⟨T, 1, none⟩ = false ∧ SB ((w2.setCell ⟨T, 0, none⟩ (.slice a2 S2.rows.length c2)).setCell ⟨T, 1, none⟩ (.int .i64 S2.added)) lo T a2 c2 S2 := by
  have hB := h.box.on hb
  obtain ⟨v1, e, h1⟩ := ho
  simp only [Value.agg.injEq, Array.mk.injEq, List.cons.injEq, and_true] at e
  subst e
  exact ⟨hB.cells.1, hB.cells.2, hB.thaw 0, hB.thaw 1, hB.put _ _, by simpa using ((h1.put2 hB _ _).mono hlo (Nat.le_refl _))⟩

end Go.Proofs.YtbcjkinalghokafDoor

namespace Go.Proofs.YtbcjkinalghokafDoor
open Go.RowKit Go.Sort

theorem SkBox.left {w w1 : World} {T p : Nat} {x y : Value} {ca : Option Addr} {n cap : Nat} (h : SkBox w T x y) (hl : Left w w1 p ca n cap) (hp : T ≠ p) : SkBox w1 T x y := h.kept (hl.2.2.block T h.lt (fun e => hp (by cases e; rfl)))
theorem OwnSS.left {w w1 : World} {lo hi p : Nat} {v : Value} {LL : List (List Int)} {ca : Option Addr} {n cap : Nat} (h : OwnSS w lo hi v LL) (hl : Left w w1 p ca n cap) (hp : p < lo) : OwnSS w1 lo hi v LL := h.kept fun k h1 _ hk _ => hl.2.2.block k hk (fun e => by cases e; omega)
theorem SB.left {w w1 : World} {lo T p : Nat} {a : Option Addr} {c : Nat} {S : Sk} {ca : Option Addr} {n cap : Nat} (h : SB w lo T a c S) (hl : Left w w1 p ca n cap) (hp : p < lo) (hT : T ≠ p) : SB w1 lo T a c S := ⟨h.box.left hl hT, (h.own.left hl hp).up⟩
set_option maxRecDepth 100000 in
set_option maxHeartbeats 8000000 in
theorem l12Sketch_any (w : World) (p : Nat) (ca : Option Addr) (n cap : Nat) (hc : Cur w p ca n cap) (hcode : CodeAt w ca n p) (hn : n ≤ 1048576) (hp : p < w.heap.size) :
    Calls Tryd.prog 81 #[.pointer (some ⟨p, 0, none⟩)] w fun e w' => ∃ (v : Value) (S : Sk), e = .returned v ∧ okK S = true ∧ SkOwn w' w.heap.size w'.heap.size v S ∧ Left w w' p ca n cap := by
  obtain ⟨w1, hw1⟩ : ∃ x, w.alloc (.cells #[.slice none 0 0, .int .i64 0] 27) = x := ⟨_, rfl⟩
  have hb1 : Below w.heap.size w w1 := by rw [← hw1]; exact (Below.refl _ _).alloc (Nat.le_refl _) _
  have s1 : w1.heap.size = w.heap.size + 1 := by rw [← hw1]; simp
  obtain ⟨R, hR⟩ : ∃ R, w.heap.size = R := ⟨_, rfl⟩
  have hR1 : SkBox w1 R (.slice none 0 0) (.int .i64 0) := by rw [← hw1, ← hR]; exact SkBox.new _ _ _
  have hL1 : Left w w1 p ca n cap := (Left.refl hc hcode).below hb1 hp
  have HW1 : Hid (w.alloc (.cells #[.slice none 0 0, .int .i64 0] 27) = w1) := hw1
  have cN := specSketchNew_any w1
  clear hw1 hc hcode
  go_enter Tryd.func81, Tryd.ntmps81
  go_wp2_with fail
  rw [HW1.out]
  refine cN.mono ?_
  rintro e w2 ⟨v2, rfl, ho2, hb2⟩
  obtain ⟨a2, c2, rfl, _⟩ := ho2.at
  clear cN HW1
  obtain ⟨T, hT⟩ : ∃ T, w2.heap.size = T := ⟨_, rfl⟩
  obtain ⟨w3, hw3⟩ : ∃ x, w2.alloc (.cells #[.slice a2 newS.rows.length c2, .int .i64 newS.added] 27) = x := ⟨_, rfl⟩
  have hb3 : Below w2.heap.size w2 w3 := by rw [← hw3]; exact (Below.refl _ _).alloc (Nat.le_refl _) _
  have hB3 : SkBox w3 T (.slice a2 newS.rows.length c2) (.int .i64 newS.added) := by rw [← hw3, ← hT]; exact SkBox.new _ _ _
  have hbw : Below w1.heap.size w1 w3 := hb2.trans (hb3.mono hb2.size)
  have hS3 : SB w3 w1.heap.size T a2 c2 newS := by
    obtain ⟨v1, e, h1⟩ := ho2
    simp only [Value.agg.injEq, Array.mk.injEq, List.cons.injEq, and_true] at e
    subst e
    exact ⟨hB3, (h1.below hb3 (Nat.le_refl _)).up⟩
  have hR3 := hR1.on hbw
  have hL3 : Left w w3 p ca n cap := hL1.below (hbw.mono (by omega)) hp
  have hT1 : w1.heap.size ≤ T := by rw [← hT]; exact hb2.size
  have HW3 : Hid (w2.alloc (.cells #[.slice a2 newS.rows.length c2, .int .i64 newS.added] 27) = w3) := hw3
  obtain ⟨B, hBB⟩ : ∃ B, w1.heap.size = B := ⟨_, rfl⟩
  rw [hBB] at hS3 hT1
  have hRB : R < B := by omega
  have hpB : p < R := by omega
  have hpw : p < w.heap.size := hp
  clear hw3 ho2 hb2 hb3 hB3 hR1 hL1 hbw hb1 s1
  go_wp2_with fail
  rw [HW3.out]
  clear HW3
  go_loopw [4] (fun i wr => Box (∃ (k : Nat) (a : Option Addr) (c : Nat) (S : Sk), k ≤ 90 ∧ i = .int .i64 k ∧ Hid (okK S = true) ∧ SB wr B T a c S ∧ SkBox wr R (.slice none 0 0) (.int .i64 0) ∧ Left w wr p ca n cap ∧ B ≤ wr.heap.size))
    (fun i _ => 90 - (intOf i).toNat)
  case atStart => exact ⟨⟨0, a2, c2, newS, by omega, rfl, newS_ok, hS3, hR3, hL3, by have := hS3.box.lt; omega⟩⟩
  case round =>
    obtain ⟨k, a, c, S, hk, rfl, HOK, hS, hRr, hLr, hBr⟩ := hrel.out
    have c1 := below_any wr p ca n cap 90 hLr.1 hLr.2.1 hn (by omega) (by omega)
    clear hrel hS3 hR3 hL3
    go_wp2_with fail
    refine c1.mono ?_
    rintro e w4 ⟨x, hx, _, rfl, hl4⟩
    have hx2 := hx (by omega)
    have hS4 := hS.left hl4 (by omega) (by omega)
    have hR4 := hRr.left hl4 (by omega)
    have hL4 := hLr.trans hl4
    have hB4 : B ≤ w4.heap.size := Nat.le_trans hBr hl4.2.2.size
    clear c1 hx hS hRr hLr hl4
    obtain ⟨x0, x1⟩ := hS4.box.cells
    by_cases hlt : (k : Int) < (x : Int)
    · have hdr : Below w4.heap.size w4 w4.drew := bdrewS w4
      have hS4d := hS4.on hdr
      have hL4d : Left w w4.drew p ca n cap := hL4.below (hdr.mono hL4.2.2.size) hp
      have hR4d := hR4.on hdr
      have hp4 : p < w4.heap.size := by have := hL4.2.2.size; omega
      have cK := l12Key_any w4.drew p ca n cap hL4d.1 hL4d.2.1 hn hp4
      have HKS : Hid (∀ w5, Left w4.drew w5 p ca n cap → SB w5 B T a c S ∧ SkBox w5 R (.slice none 0 0) (.int .i64 0) ∧ Left w w5 p ca n cap ∧ B ≤ w5.heap.size) := fun w5 h => ⟨hS4d.left h (by omega) (by omega), hR4d.left h (by omega), hL4d.trans h, Nat.le_trans hB4 h.2.2.size⟩
      have HCB : Hid (∀ w5 key, SB w5 B T a c S → key.size ≤ 2 → Calls Tryd.prog 34 #[.agg #[.slice a S.rows.length c, .int .i64 S.added], .string key] w5 fun e w' => ∃ v, e = .returned v ∧ SkOwn w' w5.heap.size w'.heap.size v (bumpS S key) ∧ Below w5.heap.size w5 w') := fun w5 key h hk => specSketchBump_any w5 a c S key h.at (okK_sz HOK.out) (by omega)
      clear hS4 hS4d hL4 hL4d hR4 hR4d
      go_wp2_with fail
      go_region_law (first
        | (go_simp; go_at_call 27; refine cK.mono ?_; rintro e w5 ⟨key, hks, rfl, hl5⟩; obtain ⟨hS5, hR5, hL5, hB5⟩ := HKS.out w5 hl5; have y0 := hS5.box.cells.1; have y1 := hS5.box.cells.2)
        | (go_simp; go_at_call 34; refine (HCB.out w5 key hS5 hks).mono ?_; rintro e w6 ⟨v6, rfl, ho6, hb6⟩; obtain ⟨a6, c6, rfl, _⟩ := ho6.at; obtain ⟨z0, z1, z2, z3, hS7⟩ := hS5.put hb6 ho6 hB5; have HX : Hid (okK (bumpS S key) = true ∧ SB ((w6.setCell ⟨T, 0, none⟩ (.slice a6 (bumpS S key).rows.length c6)).setCell ⟨T, 1, none⟩ (.int .i64 (bumpS S key).added)) B T a6 c6 (bumpS S key) ∧ SkBox ((w6.setCell ⟨T, 0, none⟩ (.slice a6 (bumpS S key).rows.length c6)).setCell ⟨T, 1, none⟩ (.int .i64 (bumpS S key).added)) R (.slice none 0 0) (.int .i64 0) ∧ Left w ((w6.setCell ⟨T, 0, none⟩ (.slice a6 (bumpS S key).rows.length c6)).setCell ⟨T, 1, none⟩ (.int .i64 (bumpS S key).added)) p ca n cap ∧ B ≤ ((w6.setCell ⟨T, 0, none⟩ (.slice a6 (bumpS S key).rows.length c6)).setCell ⟨T, 1, none⟩ (.int .i64 (bumpS S key).added)).heap.size) := ⟨bumpS_ok key HOK.out, hS7, (hR5.on hb6).kept (put2_other _ _ _ _ _ (by omega)), (hL5.below (Below.put2 (hb6.mono hL5.2.2.size) (by omega) _ _) hp), by simp; have := hb6.size; omega⟩; clear ho6 hS7))
      all_goals (
        obtain ⟨S', hS'⟩ : ∃ S', bumpS S key = S' := ⟨_, rfl⟩
        rw [hS'] at HX ⊢
        clear z0 z1 z2 z3 hS5 hR5 hL5 hB5 y0 y1 hl5 hb6 cK HKS HCB hdr x0 x1 hS'
        go_wp2
        refine ⟨?_, ?_⟩
        · exact ⟨⟨k + 1, a6, c6, S', by omega, by go_num, HX.out.1, HX.out.2.1, HX.out.2.2.1, HX.out.2.2.2.1, HX.out.2.2.2.2⟩⟩
        · simp [intOf]; omega)
    · obtain ⟨r0, r1⟩ := hR4.cells
      have f0 := hR4.thaw 0
      have f1 := hR4.thaw 1
      have HO : Hid (OwnSS w4 B w4.heap.size (.slice a S.rows.length c) S.rows) := hS4.own
      clear hS4
      go_wp2
      obtain ⟨q0, q1⟩ := (hR4.put (.slice a S.rows.length c) (.int .i64 S.added)).cells
      refine bodyPost_ret (v := .agg #[.slice a S.rows.length c, .int .i64 S.added]) (by simp [results, Tryd.results81, go_sem, q0, q1]) rfl ⟨_, S, rfl, HOK.out, ⟨_, rfl, (HO.out.put2 hR4 _ _).mono (by omega) (by simp)⟩, hL4.below (Below.put2 (Below.refl _ _) (by omega) _ _) hp⟩
end Go.Proofs.YtbcjkinalghokafDoor
