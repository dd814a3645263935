/- An entry that is read: the other text's walk. Written by mkrespec.py. -/
import Derived.Test.YtepfblabdibggabDoorVarJ
import Derived.Test.YtepfblabdibggabDoorEnLaw
import Derived.Test.YtepfblabdibggabDoorReadShortJ
import Derived.Test.YtepfblabdibggabDoorEntText
namespace Go.Proofs.YtepfblabdibggabDoor
open Go.RowKit
set_option maxRecDepth 100000 in
set_option maxHeartbeats 4000000 in
theorem specReadEntry_any (t : ByteArray) (w : World) (hs : t.size ≤ 1048576) :
    Calls Tryd.prog 36 #[.string t] w fun e w' => e = .returned (.tuple #[.agg #[.string (rdEn t).key, .int .i64 (rdEn t).st, .int .i64 (rdEn t).lf, .string (rdEn t).bd], .bool (reOk t)]) ∧ Below w.heap.size w w' := by
  have c1 := fun w => specReadShort_any t 0 w hs
  have c2 := fun w => specReadVar_any t (reA t) w hs
  have c3 := fun w => specReadVar_any t (reB t) w hs
  obtain ⟨k, hk⟩ : ∃ k, rsText t 0 = k := ⟨_, rfl⟩
  obtain ⟨a1, ha1⟩ : ∃ a, reA t = a := ⟨_, rfl⟩
  obtain ⟨a2, ha2⟩ : ∃ a, reB t = a := ⟨_, rfl⟩
  obtain ⟨a3, ha3⟩ : ∃ a, reC t = a := ⟨_, rfl⟩
  obtain ⟨n2, hn2⟩ : ∃ a, rvN t.data.toList (reA t) = a := ⟨_, rfl⟩
  obtain ⟨n3, hn3⟩ : ∃ a, rvN t.data.toList (reB t) = a := ⟨_, rfl⟩
  have hE : reE t = ⟨k, n2, n3, t.extract a3 t.size⟩ := by unfold reE; rw [hk, hn2, hn3, ha3]
  have h3 : a3 ≤ t.size := by rw [← ha3]; have := (rv_bound t.data.toList (reB t)).1; rw [size_listE] at this; exact this
  have hks : k.size ≤ t.size := by
    rw [← hk]; unfold rsText; split
    · rw [ByteArray.size_extract]; omega
    · exact Nat.zero_le _
  have ec2 : rvE t.data.toList (reA t) = a2 := ha2
  have ec3 : rvE t.data.toList (reB t) = a3 := ha3
  have ec1 : rsE t 0 = a1 := ha1
  rw [hk, ec1] at c1
  rw [hn2, ec2, ha1] at c2
  rw [hn3, ec3, ha2] at c3
  have hP : reP t = (rsOk t 0 && (rvOk t.data.toList (a1 : Int) && rvOk t.data.toList (a2 : Int))) := by unfold reP; rw [ha1, ha2]
  have hO : reOk t = (reP t && enOk (reE t)) := rfl
  generalize rsOk t 0 = o1 at c1 hP
  generalize rvOk t.data.toList (a1 : Int) = o2 at c2 hP
  generalize rvOk t.data.toList (a2 : Int) = o3 at c3 hP
  have HE : Hid (reE t = ⟨k, n2, n3, t.extract a3 t.size⟩) := hE
  clear hk ha1 ha2 ha3 hn2 hn3 hE ec1 ec2 ec3
  obtain ⟨R, hR⟩ : ∃ R, w.heap.size = R := ⟨_, rfl⟩
  obtain ⟨wb, hwb⟩ : ∃ wb, w.alloc (.cells #[.string ⟨#[]⟩, .int .i64 0, .int .i64 0, .string ⟨#[]⟩] 28) = wb := ⟨_, rfl⟩
  have HX : Hid (EnB wb R 28 zen ∧ Below R w wb ∧ R ≤ wb.heap.size) := by
    rw [← hwb, ← hR]
    exact ⟨EnB.new w _ zen, (Below.refl _ _).alloc (Nat.le_refl _) _, by simp⟩
  cases hpp : reP t
  case false =>
    have HZ : Hid (reOk t = false ∧ rdEn t = zen) := by
      have h : reOk t = false := by rw [hO, hpp]; rfl
      exact ⟨h, rdEn_out h⟩
    rw [hpp] at hP
    rw [HZ.out.1, HZ.out.2]
    dsimp only [zen]
    clear hpp hO
    have ways : o1 = false ∨ (o1 = true ∧ o2 = false) ∨ (o1 = true ∧ o2 = true ∧ o3 = false) := by
      cases o1 <;> cases o2 <;> cases o3 <;> simp at hP ⊢
    clear hP
    rcases ways with rfl | ⟨rfl, rfl⟩ | ⟨rfl, rfl, rfl⟩
    all_goals
      go_enter Tryd.func36, Tryd.ntmps36
      go_wp2_with fail
      refine (c1 _).mono ?_
      rintro e w1 ⟨rfl, hb1⟩
      have HB1 : Hid (Below R w w1 ∧ EnB w1 R 28 zen ∧ R ≤ w1.heap.size) := ⟨HX.out.2.1.trans (hb1.mono HX.out.2.2), HX.out.1.on hb1, Nat.le_trans HX.out.2.2 hb1.size⟩
      clear c1 hb1
      go_wp2_with fail
      refine (c2 _).mono ?_
      rintro e w2 ⟨rfl, hb2⟩
      have HB2 : Hid (Below R w w2 ∧ EnB w2 R 28 zen ∧ R ≤ w2.heap.size) := ⟨HB1.out.1.trans (hb2.mono HB1.out.2.2), HB1.out.2.1.on hb2, Nat.le_trans HB1.out.2.2 hb2.size⟩
      clear c2 hb2 HB1
      go_wp2_with fail
      refine (c3 _).mono ?_
      rintro e w3 ⟨rfl, hb3⟩
      have HB3 : Hid (Below R w w3 ∧ EnB w3 R 28 zen ∧ R ≤ w3.heap.size) := ⟨HB2.out.1.trans (hb3.mono HB2.out.2.2), HB2.out.2.1.on hb3, Nat.le_trans HB2.out.2.2 hb3.size⟩
      clear c3 hb3 HB2
      obtain ⟨b0, b1, b2, b3⟩ := HB3.out.2.1.cells
      dsimp only [zen] at b0 b1 b2 b3
      have t0 := HB3.out.2.1.thaw 0
      have t1 := HB3.out.2.1.thaw 1
      have t2 := HB3.out.2.1.thaw 2
      have t3 := HB3.out.2.1.thaw 3
      go_wp2_with fail
      have HQ : Hid (Below R w (putE w3 R zen) ∧ EnB (putE w3 R zen) R 28 zen) := ⟨below_putE HB3.out.1 (Nat.le_refl _) zen, HB3.out.2.1.put zen⟩
      dsimp only [putE, zen] at HQ
      generalize (((w3.setCell ⟨R, 0, none⟩ (.string ⟨#[]⟩)).setCell ⟨R, 1, none⟩ (.int .i64 0)).setCell ⟨R, 2, none⟩ (.int .i64 0)).setCell ⟨R, 3, none⟩ (.string ⟨#[]⟩) = w9 at HQ ⊢
      obtain ⟨q0, q1, q2, q3⟩ := HQ.out.2.cells
      dsimp only at q0 q1 q2 q3
      rw [hR]
      refine bodyPost_ret (v := .tuple #[.agg #[.string ⟨#[]⟩, .int .i64 0, .int .i64 0, .string ⟨#[]⟩], .bool false]) (by simp [results, Tryd.results36, go_sem, q0, q1, q2, q3]) rfl ⟨rfl, HQ.out.1⟩
  case true =>
    rw [hpp] at hP
    have ways : o1 = true ∧ o2 = true ∧ o3 = true := by
      cases o1 <;> cases o2 <;> cases o3 <;> simp at hP ⊢
    obtain ⟨rfl, rfl, rfl⟩ := ways
    have hO' : reOk t = enOk (reE t) := by rw [hO, hpp]; rfl
    have HO : Hid (reOk t = enOk ⟨k, n2, n3, t.extract a3 t.size⟩) := by show _ = _; rw [hO', HE.out]
    clear hP hO hpp hO'
    have hxs : (t.extract a3 t.size).size ≤ 1048576 := by rw [ByteArray.size_extract]; omega
    have c4 := fun w => specEntryText_any w k (t.extract a3 t.size) n2 n3 (by omega) (by omega)
    obtain ⟨bd, hbd⟩ : ∃ bd, t.extract a3 t.size = bd := ⟨_, rfl⟩
    have HBD : Hid (t.extract a3 t.size = bd) := hbd
    rw [hbd] at c4 hxs HO HE
    cases hok : enOk ⟨k, n2, n3, bd⟩
    case false =>
      have HZ : Hid (reOk t = false ∧ rdEn t = zen) := by
        have h : reOk t = false := by rw [HO.out, hok]
        exact ⟨h, rdEn_out h⟩
      rw [HZ.out.1, HZ.out.2]
      rw [hok] at c4
      dsimp only [zen]
      clear hok
      generalize enText ⟨k, n2, n3, bd⟩ = bt at c4
      go_enter Tryd.func36, Tryd.ntmps36
      go_wp2_with fail
      refine (c1 _).mono ?_
      rintro e w1 ⟨rfl, hb1⟩
      have HB1 : Hid (Below R w w1 ∧ EnB w1 R 28 zen ∧ R ≤ w1.heap.size) := ⟨HX.out.2.1.trans (hb1.mono HX.out.2.2), HX.out.1.on hb1, Nat.le_trans HX.out.2.2 hb1.size⟩
      clear c1 hb1
      go_wp2_with fail
      refine (c2 _).mono ?_
      rintro e w2 ⟨rfl, hb2⟩
      have HB2 : Hid (Below R w w2 ∧ EnB w2 R 28 zen ∧ R ≤ w2.heap.size) := ⟨HB1.out.1.trans (hb2.mono HB1.out.2.2), HB1.out.2.1.on hb2, Nat.le_trans HB1.out.2.2 hb2.size⟩
      clear c2 hb2 HB1
      go_wp2_with fail
      refine (c3 _).mono ?_
      rintro e w3 ⟨rfl, hb3⟩
      have HB3 : Hid (Below R w w3 ∧ EnB w3 R 28 zen ∧ R ≤ w3.heap.size) := ⟨HB2.out.1.trans (hb3.mono HB2.out.2.2), HB2.out.2.1.on hb3, Nat.le_trans HB2.out.2.2 hb3.size⟩
      clear c3 hb3 HB2
      go_wp2_with fail
      obtain ⟨wE, hwE⟩ : ∃ wE, w3.alloc (.cells #[.string k, .int .i64 (n2 : Int), .int .i64 (n3 : Int), .string bd] 28) = wE := ⟨_, rfl⟩
      obtain ⟨T, hT⟩ : ∃ T, w3.heap.size = T := ⟨_, rfl⟩
      have HE1 : Hid (EnB wE T 28 ⟨k, n2, n3, bd⟩ ∧ EnB wE R 28 zen ∧ Below R w wE ∧ R ≤ T ∧ R ≤ wE.heap.size ∧ R ≠ T) := by
        have hlt := HB3.out.2.1.lt
        have hbE : Below w3.heap.size w3 wE := by rw [← hwE]; exact (Below.refl _ _).alloc (Nat.le_refl _) _
        refine ⟨?_, HB3.out.2.1.on hbE, HB3.out.1.trans (hbE.mono (by omega)), by omega, by have := hbE.size; omega, by omega⟩
        rw [← hwE, ← hT]
        exact EnB.new w3 _ ⟨k, n2, n3, bd⟩
      rw [hwE, hT]
      clear hwE hT
      refine (c4 _).mono ?_
      rintro e w4 ⟨rfl, hb4⟩
      have HE2 : Hid (EnB w4 T 28 ⟨k, n2, n3, bd⟩ ∧ EnB w4 R 28 zen ∧ Below R w w4 ∧ R ≤ T ∧ R ≠ T) := ⟨HE1.out.1.on hb4, HE1.out.2.1.on hb4, HE1.out.2.2.1.trans (hb4.mono HE1.out.2.2.2.2.1), HE1.out.2.2.2.1, HE1.out.2.2.2.2.2⟩
      clear c4 hb4 HE1 HB3
      obtain ⟨b0, b1, b2, b3⟩ := HE2.out.2.1.cells
      dsimp only [zen] at b0 b1 b2 b3
      have t0 := HE2.out.2.1.thaw 0
      have t1 := HE2.out.2.1.thaw 1
      have t2 := HE2.out.2.1.thaw 2
      have t3 := HE2.out.2.1.thaw 3
      go_wp2_with fail
      have HQ : Hid (Below R w (putE w4 R zen) ∧ EnB (putE w4 R zen) R 28 zen) := ⟨below_putE HE2.out.2.2.1 (Nat.le_refl _) zen, HE2.out.2.1.put zen⟩
      dsimp only [putE, zen] at HQ
      generalize (((w4.setCell ⟨R, 0, none⟩ (.string ⟨#[]⟩)).setCell ⟨R, 1, none⟩ (.int .i64 0)).setCell ⟨R, 2, none⟩ (.int .i64 0)).setCell ⟨R, 3, none⟩ (.string ⟨#[]⟩) = w9 at HQ ⊢
      obtain ⟨q0, q1, q2, q3⟩ := HQ.out.2.cells
      dsimp only at q0 q1 q2 q3
      rw [hR]
      refine bodyPost_ret (v := .tuple #[.agg #[.string ⟨#[]⟩, .int .i64 0, .int .i64 0, .string ⟨#[]⟩], .bool false]) (by simp [results, Tryd.results36, go_sem, q0, q1, q2, q3]) rfl ⟨rfl, HQ.out.1⟩
    case true =>
      have HZ : Hid (reOk t = true ∧ rdEn t = ⟨k, n2, n3, bd⟩) := by
        have h : reOk t = true := by rw [HO.out, hok]
        exact ⟨h, by rw [rdEn_in h, HE.out]⟩
      have hbk : enText ⟨k, n2, n3, bd⟩ = t := by
        rw [enText_in hok, ← HE.out]
        exact re_back HZ.out.1
      rw [HZ.out.1, HZ.out.2]
      rw [hok, hbk] at c4
      dsimp only
      clear hok hbk
      go_enter Tryd.func36, Tryd.ntmps36
      go_wp2_with fail
      refine (c1 _).mono ?_
      rintro e w1 ⟨rfl, hb1⟩
      have HB1 : Hid (Below R w w1 ∧ EnB w1 R 28 zen ∧ R ≤ w1.heap.size) := ⟨HX.out.2.1.trans (hb1.mono HX.out.2.2), HX.out.1.on hb1, Nat.le_trans HX.out.2.2 hb1.size⟩
      clear c1 hb1
      go_wp2_with fail
      refine (c2 _).mono ?_
      rintro e w2 ⟨rfl, hb2⟩
      have HB2 : Hid (Below R w w2 ∧ EnB w2 R 28 zen ∧ R ≤ w2.heap.size) := ⟨HB1.out.1.trans (hb2.mono HB1.out.2.2), HB1.out.2.1.on hb2, Nat.le_trans HB1.out.2.2 hb2.size⟩
      clear c2 hb2 HB1
      go_wp2_with fail
      refine (c3 _).mono ?_
      rintro e w3 ⟨rfl, hb3⟩
      have HB3 : Hid (Below R w w3 ∧ EnB w3 R 28 zen ∧ R ≤ w3.heap.size) := ⟨HB2.out.1.trans (hb3.mono HB2.out.2.2), HB2.out.2.1.on hb3, Nat.le_trans HB2.out.2.2 hb3.size⟩
      clear c3 hb3 HB2
      go_wp2_with fail
      obtain ⟨wE, hwE⟩ : ∃ wE, w3.alloc (.cells #[.string k, .int .i64 (n2 : Int), .int .i64 (n3 : Int), .string bd] 28) = wE := ⟨_, rfl⟩
      obtain ⟨T, hT⟩ : ∃ T, w3.heap.size = T := ⟨_, rfl⟩
      have HE1 : Hid (EnB wE T 28 ⟨k, n2, n3, bd⟩ ∧ EnB wE R 28 zen ∧ Below R w wE ∧ R ≤ T ∧ R ≤ wE.heap.size ∧ R ≠ T) := by
        have hlt := HB3.out.2.1.lt
        have hbE : Below w3.heap.size w3 wE := by rw [← hwE]; exact (Below.refl _ _).alloc (Nat.le_refl _) _
        refine ⟨?_, HB3.out.2.1.on hbE, HB3.out.1.trans (hbE.mono (by omega)), by omega, by have := hbE.size; omega, by omega⟩
        rw [← hwE, ← hT]
        exact EnB.new w3 _ ⟨k, n2, n3, bd⟩
      rw [hwE, hT]
      clear hwE hT
      refine (c4 _).mono ?_
      rintro e w4 ⟨rfl, hb4⟩
      have HE2 : Hid (EnB w4 T 28 ⟨k, n2, n3, bd⟩ ∧ EnB w4 R 28 zen ∧ Below R w w4 ∧ R ≤ T ∧ R ≠ T) := ⟨HE1.out.1.on hb4, HE1.out.2.1.on hb4, HE1.out.2.2.1.trans (hb4.mono HE1.out.2.2.2.2.1), HE1.out.2.2.2.1, HE1.out.2.2.2.2.2⟩
      clear c4 hb4 HE1 HB3
      obtain ⟨x0, x1, x2, x3⟩ := HE2.out.1.cells
      dsimp only at x0 x1 x2 x3
      obtain ⟨b0, b1, b2, b3⟩ := HE2.out.2.1.cells
      dsimp only [zen] at b0 b1 b2 b3
      have t0 := HE2.out.2.1.thaw 0
      have t1 := HE2.out.2.1.thaw 1
      have t2 := HE2.out.2.1.thaw 2
      have t3 := HE2.out.2.1.thaw 3
      go_wp2_with fail
      have HQ : Hid (Below R w (putE w4 R ⟨k, n2, n3, bd⟩) ∧ EnB (putE w4 R ⟨k, n2, n3, bd⟩) R 28 ⟨k, n2, n3, bd⟩) := ⟨below_putE HE2.out.2.2.1 (Nat.le_refl _) ⟨k, n2, n3, bd⟩, HE2.out.2.1.put ⟨k, n2, n3, bd⟩⟩
      dsimp only [putE, zen] at HQ
      generalize (((w4.setCell ⟨R, 0, none⟩ (.string k)).setCell ⟨R, 1, none⟩ (.int .i64 n2)).setCell ⟨R, 2, none⟩ (.int .i64 n3)).setCell ⟨R, 3, none⟩ (.string bd) = w9 at HQ ⊢
      obtain ⟨q0, q1, q2, q3⟩ := HQ.out.2.cells
      dsimp only at q0 q1 q2 q3
      rw [hR]
      refine bodyPost_ret (v := .tuple #[.agg #[.string k, .int .i64 n2, .int .i64 n3, .string bd], .bool true]) (by simp [results, Tryd.results36, go_sem, q0, q1, q2, q3]) rfl ⟨rfl, HQ.out.1⟩
end Go.Proofs.YtepfblabdibggabDoor
