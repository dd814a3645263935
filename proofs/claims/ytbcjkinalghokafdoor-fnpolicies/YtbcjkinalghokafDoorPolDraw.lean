/- Policies are drawn. -/
import Derived.Test.YtbcjkinalghokafDoorKeysDraw12J
import Derived.Test.YtbcjkinalghokafDoorPolSizesJ
import Derived.Test.YtbcjkinalghokafDoorSkNewSpecJ
import Derived.Test.YtbcjkinalghokafDoorPolTouchSpec
import Derived.Deep.RegionLaw
namespace Go.Proofs.YtbcjkinalghokafDoor
open Go.RowKit Go.Sort

theorem key2_ok {z : ByteArray} (h : key2 z) : keyOk z = true := by
  unfold key2 at h
  unfold keyOk
  simp only [decide_eq_true_eq]
  omega
theorem PBox.left {w w1 : World} {T p : Nat} {a b c d : Value} {ca : Option Addr} {n cap : Nat} (h : PBox w T a b c d) (hl : Left w w1 p ca n cap) (hp : T ≠ p) : PBox w1 T a b c d := h.kept (hl.2.2.block T h.lt (fun e => hp (by cases e; rfl)))
theorem OwnV.leftP {w w1 : World} {p base : Nat} {e : TypeId} {v : Value} {xs : List Value} {ca : Option Addr} {n cap : Nat} (h : OwnV w base e v xs) (hl : Left w w1 p ca n cap) (hp : p < base) : OwnV w1 base e v xs := h.past12 hl hp
theorem OwnSS.leftP {w w1 : World} {lo hi p : Nat} {v : Value} {LL : List (List Int)} {ca : Option Addr} {n cap : Nat} (h : OwnSS w lo hi v LL) (hl : Left w w1 p ca n cap) (hp : p < lo) : OwnSS w1 lo hi v LL := h.kept fun k h1 _ hk _ => hl.2.2.block k hk (fun e => by cases e; omega)
theorem PolV.left {w w1 : World} {lo T p : Nat} {a1 a2 a3 : Option Addr} {c1 c2 c3 : Nat} {P : Pol} {ca : Option Addr} {n cap : Nat} (h : PolV w lo T a1 a2 a3 c1 c2 c3 P) (hl : Left w w1 p ca n cap) (hp : p < lo) : PolV w1 lo T a1 a2 a3 c1 c2 c3 P := by
  obtain ⟨⟨hV, h1, h2, h3, h4⟩, hlo⟩ := h
  have hlt := (Array.getElem?_eq_some_iff.1 hV).1
  exact ⟨⟨(hl.2.2.block T hlt (fun e => by cases e; omega)).trans hV, h1.leftP hl hp, h2.leftP hl hp, h3, (h4.leftP hl hp).mono (Nat.le_refl _) hl.2.2.size⟩, hlo⟩
set_option maxRecDepth 100000 in
set_option maxHeartbeats 8000000 in
theorem l13Policy_any (w : World) (p : Nat) (ca : Option Addr) (n cap : Nat) (hc : Cur w p ca n cap) (hcode : CodeAt w ca n p) (hn : n ≤ 1048576) (hp : p < w.heap.size) :
    Calls Tryd.prog 24 #[.pointer (some ⟨p, 0, none⟩)] w fun e w' => ∃ (v : Value) (P : Pol), e = .returned v ∧ okP P = true ∧ POwn w' w.heap.size w'.heap.size v P ∧ Left w w' p ca n cap := by
  obtain ⟨w1, hw1⟩ : ∃ x, w.alloc (.cells #[.slice none 0 0, .slice none 0 0, .slice none 0 0, .int .i64 0] 29) = x := ⟨_, rfl⟩
  have hb1 : Below w.heap.size w w1 := by rw [← hw1]; exact (Below.refl _ _).alloc (Nat.le_refl _) _
  have s1 : w1.heap.size = w.heap.size + 1 := by rw [← hw1]; simp
  obtain ⟨R, hR⟩ : ∃ R, w.heap.size = R := ⟨_, rfl⟩
  have hR1 : PBox w1 R (.slice none 0 0) (.slice none 0 0) (.slice none 0 0) (.int .i64 0) := by rw [← hw1, ← hR]; exact PBox.new _ _ _ _ _
  have hL1 : Left w w1 p ca n cap := (Left.refl hc hcode).below hb1 hp
  have HW1 : Hid (w.alloc (.cells #[.slice none 0 0, .slice none 0 0, .slice none 0 0, .int .i64 0] 29) = w1) := hw1
  have cN := specPolicyNew_any w1
  clear hw1 hc hcode
  go_enter Tryd.func24, Tryd.ntmps24
  go_wp2_with fail
  rw [HW1.out]
  refine cN.mono ?_
  rintro e w2 ⟨v2, rfl, ho2, hb2⟩
  obtain ⟨p1, q1, p2, q2, p3, q3, rfl, _⟩ := ho2.at
  clear cN HW1
  have S3 := PolV.new ho2 hb2.size
  obtain ⟨w3, hw3⟩ : ∃ x, w2.alloc (.cells #[.slice p1 newP.win.length q1, .slice p2 newP.main.length q2, .slice p3 newP.sk.rows.length q3, .int .i64 newP.sk.added] 29) = x := ⟨_, rfl⟩
  have hbw : Below w1.heap.size w1 w3 := by rw [← hw3]; exact hb2.alloc hb2.size _
  have HW3 : Hid (w2.alloc (.cells #[.slice p1 newP.win.length q1, .slice p2 newP.main.length q2, .slice p3 newP.sk.rows.length q3, .int .i64 newP.sk.added] 29) = w3) := hw3
  obtain ⟨T, hT⟩ : ∃ T, w2.heap.size = T := ⟨_, rfl⟩
  obtain ⟨B, hBB⟩ : ∃ B, w1.heap.size = B := ⟨_, rfl⟩
  rw [hw3, hT, hBB] at S3
  have hR3 := hR1.on hbw
  have hL3 : Left w w3 p ca n cap := hL1.below (hbw.mono (by omega)) hp
  have hRB : R < B := by omega
  have hpB : p < R := by omega
  have HRW : Hid (w.heap.size = R) := hR
  have HTT : Hid (w2.heap.size = T) := hT
  clear hw3 ho2 hb2 hR1 hL1 hbw hb1 s1 hT hBB hR
  go_wp2_with fail
  rw [HW3.out, HTT.out]
  clear HW3
  try rw [HRW.out]
  go_loopw [4] (fun i wr => Box (∃ (k : Nat) (a1 a2 a3 : Option Addr) (c1 c2 c3 : Nat) (P : Pol), k ≤ 40 ∧ i = .int .i64 k ∧ Hid (okP P = true) ∧ PolV wr B T a1 a2 a3 c1 c2 c3 P ∧ PBox wr R (.slice none 0 0) (.slice none 0 0) (.slice none 0 0) (.int .i64 0) ∧ Left w wr p ca n cap))
    (fun i _ => 40 - (intOf i).toNat)
  case atStart => exact ⟨⟨0, _, _, _, _, _, _, newP, by omega, rfl, newP_ok, S3, hR3, hL3⟩⟩
  case round =>
    obtain ⟨k, a1, a2, a3, c1, c2, c3, P, hk, rfl, HOK, hS, hRr, hLr⟩ := hrel.out
    have cb := below_any wr p ca n cap 40 hLr.1 hLr.2.1 hn (by omega) (by omega)
    clear hrel S3 hR3 hL3
    go_wp2_with fail
    refine cb.mono ?_
    rintro e w4 ⟨x, hx, _, rfl, hl4⟩
    have hx2 := hx (by omega)
    have hS4 := hS.left hl4 (by omega)
    have hR4 := hRr.left hl4 (by omega)
    have hL4 := hLr.trans hl4
    clear cb hx hS hRr hLr hl4
    obtain ⟨x0, x1, x2, x3⟩ := hS4.cells
    by_cases hlt : (k : Int) < (x : Int)
    · have hdr : Below w4.heap.size w4 w4.drew := ⟨rfl, rfl, rfl, Nat.le_refl _, fun _ _ => rfl⟩
      have hS4d := hS4.on hdr
      have hL4d : Left w w4.drew p ca n cap := hL4.below (hdr.mono hL4.2.2.size) hp
      have hR4d := hR4.on hdr
      have hp4 : p < w4.heap.size := by have := hL4.2.2.size; omega
      have cK := l12Key2_any w4.drew p ca n cap hL4d.1 hL4d.2.1 hn hp4
      have HKS : Hid (∀ w5, Left w4.drew w5 p ca n cap → PolV w5 B T a1 a2 a3 c1 c2 c3 P ∧ PBox w5 R (.slice none 0 0) (.slice none 0 0) (.slice none 0 0) (.int .i64 0) ∧ Left w w5 p ca n cap) := fun w5 h => ⟨hS4d.left h (by omega), hR4d.left h (by omega), hL4d.trans h⟩
      have HCB : Hid (∀ w5 key, PolV w5 B T a1 a2 a3 c1 c2 c3 P → key2 key → Calls Tryd.prog 10 #[.agg #[.slice a1 P.win.length c1, .slice a2 P.main.length c2, .slice a3 P.sk.rows.length c3, .int .i64 P.sk.added], .string key] w5 fun e w' => ∃ v Q o, okP Q = true ∧ e = .returned (.tuple #[v, .string o]) ∧ POwn w' w5.heap.size w'.heap.size v Q ∧ Below w5.heap.size w5 w') := fun w5 key h hk => by
        refine (specPolicyTouch_any w5 a1 a2 a3 c1 c2 c3 P key h.at (okP_sz HOK.out) (by unfold key2 at hk; omega)).mono ?_
        rintro e w' ⟨v, he, ho, hb⟩
        exact ⟨v, _, _, (touchP_right HOK.out (key2_ok hk)).1, he, ho, hb⟩
      clear hS4 hS4d hL4 hL4d hR4 hR4d
      go_wp2_with fail
      go_region_law (first
        | (go_simp; go_at_call 27; refine cK.mono ?_; rintro e w5 ⟨key, hks, rfl, hl5⟩; obtain ⟨hS5, hR5, hL5⟩ := HKS.out w5 hl5; obtain ⟨y0, y1, y2, y3⟩ := hS5.cells)
        | (go_simp; go_at_call 10; refine (HCB.out w5 key hS5 hks).mono ?_; rintro e w6 ⟨v6, Q, o, hokQ, rfl, ho6, hb6⟩; obtain ⟨b1, d1, b2, d2, b3, d3, hv6, _⟩ := ho6.at; subst hv6; obtain ⟨hBX, hVN⟩ := hS5.put hb6 ho6; have hRN := (hR5.on hb6).kept (put4_other w6 T (.slice b1 Q.win.length d1) (.slice b2 Q.main.length d2) (.slice b3 Q.sk.rows.length d3) (.int .i64 Q.sk.added) R (by have := hS5.lo; omega)); have hLN := hL5.below (Below.put4 (T := T) (hb6.mono hL5.2.2.size) (by have := hS5.lo; have := HRW.out; omega) (.slice b1 Q.win.length d1) (.slice b2 Q.main.length d2) (.slice b3 Q.sk.rows.length d3) (.int .i64 Q.sk.added)) hp; obtain ⟨z0, z1, z2, z3⟩ := hBX.cells; have f0 := hBX.thaw 0; have f1 := hBX.thaw 1; have f2 := hBX.thaw 2; have f3 := hBX.thaw 3))
      all_goals (
        have HX : Hid (okP Q = true ∧ PolV ((((w6.setCell ⟨T, 0, none⟩ (.slice b1 Q.win.length d1)).setCell ⟨T, 1, none⟩ (.slice b2 Q.main.length d2)).setCell ⟨T, 2, none⟩ (.slice b3 Q.sk.rows.length d3)).setCell ⟨T, 3, none⟩ (.int .i64 Q.sk.added)) B T b1 b2 b3 d1 d2 d3 Q ∧ PBox ((((w6.setCell ⟨T, 0, none⟩ (.slice b1 Q.win.length d1)).setCell ⟨T, 1, none⟩ (.slice b2 Q.main.length d2)).setCell ⟨T, 2, none⟩ (.slice b3 Q.sk.rows.length d3)).setCell ⟨T, 3, none⟩ (.int .i64 Q.sk.added)) R (.slice none 0 0) (.slice none 0 0) (.slice none 0 0) (.int .i64 0) ∧ Left w ((((w6.setCell ⟨T, 0, none⟩ (.slice b1 Q.win.length d1)).setCell ⟨T, 1, none⟩ (.slice b2 Q.main.length d2)).setCell ⟨T, 2, none⟩ (.slice b3 Q.sk.rows.length d3)).setCell ⟨T, 3, none⟩ (.int .i64 Q.sk.added)) p ca n cap) := ⟨hokQ, hVN, hRN, hLN⟩
        clear z0 z1 z2 z3 f0 f1 f2 f3 hS5 hR5 hL5 y0 y1 y2 y3 hl5 hb6 cK HKS HCB hdr x0 x1 x2 x3 hokQ hVN hRN hLN hBX ho6
        go_wp2_with fail
        refine ⟨?_, ?_⟩
        · exact ⟨⟨k + 1, b1, b2, b3, d1, d2, d3, Q, by omega, by go_num, HX.out.1, HX.out.2.1, HX.out.2.2.1, HX.out.2.2.2⟩⟩
        · simp [intOf]; omega)
    · obtain ⟨r0, r1, r2, r3⟩ := hR4.cells
      have f0 := hR4.thaw 0
      have f1 := hR4.thaw 1
      have f2 := hR4.thaw 2
      have f3 := hR4.thaw 3
      have HO : Hid (PolV w4 B T a1 a2 a3 c1 c2 c3 P) := hS4
      clear hS4
      go_wp2_with fail
      have hO : PolV w4 B T a1 a2 a3 c1 c2 c3 P := HO.out
      obtain ⟨q0, q1, q2, q3⟩ := (hR4.put (.slice a1 P.win.length c1) (.slice a2 P.main.length c2) (.slice a3 P.sk.rows.length c3) (.int .i64 P.sk.added)).cells
      refine bodyPost_ret (v := .agg #[.slice a1 P.win.length c1, .slice a2 P.main.length c2, .slice a3 P.sk.rows.length c3, .int .i64 P.sk.added]) (by simp [results, Tryd.results24, go_sem, q0, q1, q2, q3]) rfl ⟨_, P, rfl, HOK.out, POwn.mono (hO.hold.own.put4 hR4 _ _ _ _) (by have := HRW.out; omega) (by simp), hL4.below (Below.put4 (T := R) (Below.refl _ _) (by have := HRW.out; omega) _ _ _ _) hp⟩
set_option maxRecDepth 100000 in
set_option maxHeartbeats 2000000 in
theorem drawPolicy_any (w : World) (ca : Option Addr) (n cap : Nat) (hcode : CodeAt w ca n w.heap.size) (hn : n ≤ 1048576) :
    Calls Tryd.prog 7 #[.slice ca n cap] w fun e w' => ∃ (v : Value) (P : Pol), e = .returned v ∧ okP P = true ∧ POwn w' w.heap.size w'.heap.size v P ∧ Below w.heap.size w w' := by
  obtain ⟨w0, hw0⟩ : ∃ x, w.alloc (.cells #[.slice none 0 0, .slice none 0 0, .slice none 0 0, .int .i64 0] 29) = x := ⟨_, rfl⟩
  have hb0 : Below w.heap.size w w0 := by rw [← hw0]; exact (Below.refl _ _).alloc (Nat.le_refl _) _
  have s0 : w0.heap.size = w.heap.size + 1 := by rw [← hw0]; simp
  have hR0 : PBox w0 w.heap.size (.slice none 0 0) (.slice none 0 0) (.slice none 0 0) (.int .i64 0) := by rw [← hw0]; exact PBox.new _ _ _ _ _
  have hcd : CodeAt w0 ca n w0.heap.size := by
    intro j hj
    obtain ⟨b, off, z, h1, h2, h3, h4⟩ := hcode j hj
    exact ⟨b, off, z, h1, by omega, (hb0.cell h2).trans h3, h4⟩
  have c1 := new_any w0 ca n cap hcd hn
  have HW : Hid (w.alloc (.cells #[.slice none 0 0, .slice none 0 0, .slice none 0 0, .int .i64 0] 29) = w0) := hw0
  clear hw0 hcode hcd
  go_enter Tryd.func7, Tryd.ntmps7
  go_wp2_with fail
  rw [HW.out]
  refine c1.mono ?_
  rintro e w1 ⟨p, rfl, hp1, hp2, hcur, hcd, hb1⟩
  have c2 := l13Policy_any w1 p ca n cap hcur hcd hn hp1
  clear c1
  go_wp2_with fail
  refine c2.mono ?_
  rintro e w2 ⟨v2, P, rfl, hok, ho2, hl2⟩
  obtain ⟨a1, c1, a2, c2', a3, c3, rfl, _⟩ := ho2.at
  have hbw1 : Below w.heap.size w w1 := hb0.trans (hb1.mono hb0.size)
  have hbw2 := below_of_left hbw1 (by omega) hl2
  have hR2 := (hR0.on hb1).left hl2 (by omega)
  obtain ⟨r0, r1, r2, r3⟩ := hR2.cells
  have f0 := hR2.thaw 0
  have f1 := hR2.thaw 1
  have f2 := hR2.thaw 2
  have f3 := hR2.thaw 3
  have HO : Hid (POwn w2 w1.heap.size w2.heap.size (.agg #[.slice a1 P.win.length c1, .slice a2 P.main.length c2', .slice a3 P.sk.rows.length c3, .int .i64 P.sk.added]) P ∧ okP P = true) := ⟨ho2, hok⟩
  have hs := hbw1.size
  clear c2 ho2 hok hR0 hl2
  go_wp2_with fail
  obtain ⟨q0, q1, q2, q3⟩ := (hR2.put (.slice a1 P.win.length c1) (.slice a2 P.main.length c2') (.slice a3 P.sk.rows.length c3) (.int .i64 P.sk.added)).cells
  refine bodyPost_ret (v := .agg #[.slice a1 P.win.length c1, .slice a2 P.main.length c2', .slice a3 P.sk.rows.length c3, .int .i64 P.sk.added]) (by simp [results, Tryd.results7, go_sem, q0, q1, q2, q3]) rfl ⟨_, P, rfl, HO.out.2, POwn.mono (POwn.put4 HO.out.1 hR2 _ _ _ _) (by omega) (by simp), Below.put4 hbw2 (Nat.le_refl _) _ _ _ _⟩
end Go.Proofs.YtbcjkinalghokafDoor
