/- The text of an entry: the program's walk and the other text's. -/
import Derived.Test.YtepfblabdibggaaEntOk
import Derived.Test.YtepfblabdibggaaEnLaw
import Derived.Test.YtepfblabdibggaaJoinedImpl
import Derived.Test.YtepfblabdibggaaShortImpl
import Derived.Lib.QuietBelow
import Derived.BigQuiet
namespace Go.Proofs.Ytepfblabdibggaa
open Go.RowKit Go.Sort

set_option maxRecDepth 100000 in
set_option maxHeartbeats 2000000 in
theorem specEntryText_any (w : World) (k b : ByteArray) (s l : Int) (hk : k.size ≤ 1099511627776) (hbd : b.size ≤ 1099511627776) :
    Calls Try.prog 22 #[.agg #[.string k, .int .i64 s, .int .i64 l, .string b]] w fun e w' => e = .returned (.tuple #[.string (enText ⟨k, s, l, b⟩), .bool (enOk ⟨k, s, l, b⟩)]) ∧ Below w.heap.size w w' := by
  obtain ⟨wb, hwb⟩ : ∃ wb, w.alloc (.cells #[.string k, .int .i64 s, .int .i64 l, .string b] 25) = wb := ⟨_, rfl⟩
  have hb : Below w.heap.size w wb := by rw [← hwb]; exact (Below.refl _ _).alloc (Nat.le_refl _) _
  obtain ⟨A, hA⟩ : ∃ A, w.heap.size = A := ⟨_, rfl⟩
  have hx : EnB wb A 25 ⟨k, s, l, b⟩ := by rw [← hwb, ← hA]; exact EnB.new w _ ⟨k, s, l, b⟩
  have c0 := specEntryOk_any wb k b s l
  obtain ⟨b0, b1, b2, b3⟩ := hx.cells
  dsimp only at b0 b1 b2 b3
  have HX : Hid (EnB wb A 25 ⟨k, s, l, b⟩ ∧ Below w.heap.size w wb ∧ w.heap.size ≤ wb.heap.size) := ⟨hx, hb, hb.size⟩
  clear hx hb
  cases hok : enOk ⟨k, s, l, b⟩
  case false =>
    rw [enText_out hok]
    rw [hok] at c0
    go_enter Try.func22, Try.ntmps22
    go_wp2_with fail
    refine c0.mono ?_
    rintro e w1 ⟨rfl, hb1⟩
    have HB1 : Hid (Below w.heap.size w w1) := HX.out.2.1.trans (hb1.mono HX.out.2.2)
    clear c0 hb1
    go_wp2_with fail
    go_ret2
    exact ⟨rfl, HB1.out⟩
  case true =>
    rw [enText_in hok]
    obtain ⟨h1, h2, h3, h4⟩ := enOk_iff.1 hok
    dsimp only at h1 h2 h3 h4
    rw [hok] at c0
    clear hok
    unfold enAll
    dsimp only
    obtain ⟨m1, hm1⟩ : ∃ m : Nat, s = (m : Int) := ⟨s.toNat, by omega⟩
    obtain ⟨m2, hm2⟩ : ∃ m : Nat, l = (m : Int) := ⟨l.toNat, by omega⟩
    subst hm1 hm2
    rw [Int.toNat_natCast, Int.toNat_natCast]
    have v1 := varF_length 8 k.size
    have v2 := varF_length 8 m1
    have v3 := varF_length 8 m2
    have cA := fun w => l01Var_any k.size w (by omega)
    have cB := fun w => l01Var_any m1 w (by omega)
    have cC := fun w => l01Var_any m2 w (by omega)
    obtain ⟨tA, hA'⟩ : ∃ t, varF 8 k.size = t := ⟨_, rfl⟩
    obtain ⟨tB, hB'⟩ : ∃ t, varF 8 m1 = t := ⟨_, rfl⟩
    obtain ⟨tC, hC'⟩ : ∃ t, varF 8 m2 = t := ⟨_, rfl⟩
    rw [hA'] at cA v1 ⊢
    rw [hB'] at cB v2 ⊢
    rw [hC'] at cC v3 ⊢
    clear hA' hB' hC'
    go_enter Try.func22, Try.ntmps22
    go_wp2_with fail
    refine c0.mono ?_
    rintro e w1 ⟨rfl, hb1⟩
    have hx1 := HX.out.1.on hb1
    have HB1 : Hid (Below w.heap.size w w1 ∧ w.heap.size ≤ w1.heap.size) := ⟨HX.out.2.1.trans (hb1.mono HX.out.2.2), Nat.le_trans HX.out.2.2 hb1.size⟩
    clear c0 hb1 b0 b1 b2 b3
    obtain ⟨b0, b1, b2, b3⟩ := hx1.cells
    dsimp only at b0 b1 b2 b3
    have k0 := cell_regrown b0
    have k1 := cell_regrown b1
    have k2 := cell_regrown b2
    have k3 := cell_regrown b3
    have cA' : ∀ d os, Calls Try.prog 42 #[.int .i64 (k.size : Int)] (grow (redrawn w1 d) os) fun e w'' => e = .returned (.string ⟨tA.toArray⟩) ∧ ∃ p : Regrown, w'' = grow (redrawn w1 p.d) p.os := fun d os => Calls.regrown_of (by have := cA (grow (redrawn w1 d) os); simpa using this)
    have cB' : ∀ d os, Calls Try.prog 42 #[.int .i64 (m1 : Int)] (grow (redrawn w1 d) os) fun e w'' => e = .returned (.string ⟨tB.toArray⟩) ∧ ∃ p : Regrown, w'' = grow (redrawn w1 p.d) p.os := fun d os => Calls.regrown_of (by have := cB (grow (redrawn w1 d) os); simpa using this)
    have cC' : ∀ d os, Calls Try.prog 42 #[.int .i64 (m2 : Int)] (grow (redrawn w1 d) os) fun e w'' => e = .returned (.string ⟨tC.toArray⟩) ∧ ∃ p : Regrown, w'' = grow (redrawn w1 p.d) p.os := fun d os => Calls.regrown_of (by have := cC (grow (redrawn w1 d) os); simpa using this)
    clear b0 b1 b2 b3 hx1 cA cB cC
    go_wp2_with fail
    refine wp_region_quiet_below (by kernel_rfl) (by kernel_rfl) ?_
    repeat (first | go_big_quiet_step (first | with_reducible exact cA' _ _ | with_reducible exact cB' _ _ | with_reducible exact cC' _ _) | quiet_step (first | with_reducible exact cA' _ _ | with_reducible exact cB' _ _ | with_reducible exact cC' _ _))
    refine wpQuiet_nil ?_
    intro _ hw'
    obtain ⟨⟨dq, osq⟩, hw''⟩ := hw'
    subst hw''
    go_wp2_with fail
    go_ret2
    exact ⟨rfl, HB1.out.1.trans ((below_regrown w1 dq osq).mono HB1.out.2)⟩
theorem enAll_jn (k b : ByteArray) (m1 m2 : Nat) (t1 : ByteArray) (h1 : t1 = ⟨(varF 8 k.size).toArray⟩ ++ k) : jnB [t1, ⟨(varF 8 m1).toArray⟩, ⟨(varF 8 m2).toArray⟩, b] = enAll ⟨k, m1, m2, b⟩ := by
  subst h1
  rw [toList_injE, enAll_list]
  simp [jnB, jn]
set_option maxRecDepth 100000 in
set_option maxHeartbeats 2000000 in
theorem implEntText_any (w : World) (E : En) (hok : enOk E = true) :
    Calls Try.prog 26 #[.agg #[.string E.key, .int .i64 E.st, .int .i64 E.lf, .string E.bd]] w fun e w' => e = .returned (.string (enAll E)) ∧ Below w.heap.size w w' := by
  obtain ⟨k, s, l, b⟩ := E
  obtain ⟨h1, h2, h3, h4⟩ := enOk_iff.1 hok
  dsimp only at h1 h2 h3 h4 ⊢
  obtain ⟨m1, hm1⟩ : ∃ m : Nat, s = (m : Int) := ⟨s.toNat, by omega⟩
  obtain ⟨m2, hm2⟩ : ∃ m : Nat, l = (m : Int) := ⟨l.toNat, by omega⟩
  subst hm1 hm2
  clear hok
  obtain ⟨wb, hwb⟩ : ∃ wb, w.alloc (.cells #[.string k, .int .i64 m1, .int .i64 m2, .string b] 25) = wb := ⟨_, rfl⟩
  have hb : Below w.heap.size w wb := by rw [← hwb]; exact (Below.refl _ _).alloc (Nat.le_refl _) _
  obtain ⟨A, hA⟩ : ∃ A, w.heap.size = A := ⟨_, rfl⟩
  have hx : EnB wb A 25 ⟨k, m1, m2, b⟩ := by rw [← hwb, ← hA]; exact EnB.new w _ ⟨k, m1, m2, b⟩
  have HX : Hid (∀ wi, Below wb.heap.size wb wi → (wi.cell? ⟨A, 0, none⟩ = some (.string k) ∧ wi.cell? ⟨A, 1, none⟩ = some (.int .i64 m1) ∧ wi.cell? ⟨A, 2, none⟩ = some (.int .i64 m2) ∧ wi.cell? ⟨A, 3, none⟩ = some (.string b)) ∧ Below w.heap.size w wi) := fun wi hi => ⟨(hx.on hi).cells, hb.trans (hi.mono hb.size)⟩
  have HJ : Hid (∀ t1, shText k = t1 → jnB [t1, ⟨(varF 8 m1).toArray⟩, ⟨(varF 8 m2).toArray⟩, b] = enAll ⟨k, m1, m2, b⟩) := fun t1 ht => enAll_jn k b m1 m2 t1 (by rw [← ht]; unfold shText; rw [if_pos (by omega)])
  have hsk : shText k = ⟨(varF 8 k.size).toArray⟩ ++ k := by unfold shText; rw [if_pos (by omega)]
  have hsz : (shText k).size ≤ 100 := by
    have := varF_length 8 k.size
    rw [hsk, ByteArray.size_append]
    show (varF 8 k.size).length + k.size ≤ 100
    omega
  have c1 := fun w => implShort_any k w (by omega)
  have c2 := fun w => implVarText_in m1 w (by omega)
  have c3 := fun w => implVarText_in m2 w (by omega)
  have v1 := varF_length 8 m1
  have v2 := varF_length 8 m2
  obtain ⟨b0, b1, b2, b3⟩ := (HX.out wb (Below.refl _ _)).1
  generalize shOk k = oo at c1
  obtain ⟨t1, ht1⟩ : ∃ t, shText k = t := ⟨_, rfl⟩
  obtain ⟨t2, ht2⟩ : ∃ t, varF 8 m1 = t := ⟨_, rfl⟩
  obtain ⟨t3, ht3⟩ : ∃ t, varF 8 m2 = t := ⟨_, rfl⟩
  have HJ2 : Hid (jnB [t1, ⟨t2.toArray⟩, ⟨t3.toArray⟩, b] = enAll ⟨k, m1, m2, b⟩) := by rw [← ht2, ← ht3]; exact HJ.out t1 ht1
  rw [ht1] at c1 hsz
  rw [ht2] at c2 v1
  rw [ht3] at c3 v2
  have HS : Hid ((jn [t1, ⟨t2.toArray⟩, ⟨t3.toArray⟩, b]).length ≤ 1000000000) := by
    show _ ≤ _
    have e2 : (⟨t2.toArray⟩ : ByteArray).size = t2.length := by show t2.toArray.size = _; simp
    have e3 : (⟨t3.toArray⟩ : ByteArray).size = t3.length := by show t3.toArray.size = _; simp
    simp only [jn, List.flatMap_cons, List.flatMap_nil, List.length_append, List.append_nil, size_list]
    omega
  clear hb hx hsk HJ ht1 ht2 ht3
  go_enter Try.func26, Try.ntmps26
  go_wp2_with fail
  refine (c1 _).mono ?_
  rintro e w1 ⟨rfl, hb1⟩
  have HB1 : Hid (Below wb.heap.size wb w1) := hb1
  obtain ⟨⟨b0, b1, b2, b3⟩, _⟩ := HX.out w1 HB1.out
  clear hb1 c1
  go_wp2_with fail
  refine (c2 _).mono ?_
  rintro e w2 ⟨rfl, hb2⟩
  have HB2 : Hid (Below wb.heap.size wb w2) := HB1.out.trans (hb2.mono HB1.out.size)
  obtain ⟨⟨b0, b1, b2, b3⟩, _⟩ := HX.out w2 HB2.out
  clear hb2 c2 HB1
  go_wp2_with fail
  refine (c3 _).mono ?_
  rintro e w3 ⟨rfl, hb3⟩
  have HB3 : Hid (Below wb.heap.size wb w3) := HB2.out.trans (hb3.mono HB2.out.size)
  obtain ⟨⟨b0, b1, b2, b3⟩, _⟩ := HX.out w3 HB3.out
  clear hb3 c3 HB2
  go_wp2_with fail
  refine (joined_any _ _ 4 [t1, ⟨t2.toArray⟩, ⟨t3.toArray⟩, b] (lat_new w3 9 [t1, ⟨t2.toArray⟩, ⟨t3.toArray⟩, b]) (by simp) HS.out).mono ?_
  rintro e w4 ⟨rfl, hb4⟩
  rw [HJ2.out]
  have HB4 : Hid (Below w.heap.size w w4) := ((HX.out w3 HB3.out).2.alloc (HX.out w3 HB3.out).2.size _).trans (hb4.mono (by have := (HX.out w3 HB3.out).2.size; simp; omega))
  clear hb4
  go_wp2_with fail
  go_ret
  exact ⟨rfl, HB4.out⟩
set_option maxRecDepth 100000 in
set_option maxHeartbeats 2000000 in
theorem implEntryText_any (w : World) (k b : ByteArray) (s l : Int) (hk : k.size ≤ 1099511627776) (hbd : b.size ≤ 1099511627776) :
    Calls Try.prog 10 #[.agg #[.string k, .int .i64 s, .int .i64 l, .string b]] w fun e w' => e = .returned (.tuple #[.string (enText ⟨k, s, l, b⟩), .bool (enOk ⟨k, s, l, b⟩)]) ∧ Below w.heap.size w w' := by
  obtain ⟨wb, hwb⟩ : ∃ wb, w.alloc (.cells #[.string k, .int .i64 s, .int .i64 l, .string b] 25) = wb := ⟨_, rfl⟩
  have hb : Below w.heap.size w wb := by rw [← hwb]; exact (Below.refl _ _).alloc (Nat.le_refl _) _
  obtain ⟨A, hA⟩ : ∃ A, w.heap.size = A := ⟨_, rfl⟩
  have hx : EnB wb A 25 ⟨k, s, l, b⟩ := by rw [← hwb, ← hA]; exact EnB.new w _ ⟨k, s, l, b⟩
  have c0 := implEntryOk_any wb k b s l hk hbd
  have HC : Hid (∀ wi, enOk ⟨k, s, l, b⟩ = true → Calls Try.prog 26 #[.agg #[.string k, .int .i64 s, .int .i64 l, .string b]] wi fun e w' => e = .returned (.string (enAll ⟨k, s, l, b⟩)) ∧ Below wi.heap.size wi w') := fun wi h => implEntText_any wi ⟨k, s, l, b⟩ h
  obtain ⟨b0, b1, b2, b3⟩ := hx.cells
  dsimp only at b0 b1 b2 b3
  have HX : Hid (EnB wb A 25 ⟨k, s, l, b⟩ ∧ Below w.heap.size w wb ∧ w.heap.size ≤ wb.heap.size) := ⟨hx, hb, hb.size⟩
  clear hx hb
  cases hok : enOk ⟨k, s, l, b⟩
  case false =>
    rw [enText_out hok]
    rw [hok] at c0
    go_enter Try.func10, Try.ntmps10
    go_wp2_with fail
    refine c0.mono ?_
    rintro e w1 ⟨rfl, hb1⟩
    have HB1 : Hid (Below w.heap.size w w1) := HX.out.2.1.trans (hb1.mono HX.out.2.2)
    clear c0 hb1
    go_wp2_with fail
    go_ret2
    exact ⟨rfl, HB1.out⟩
  case true =>
    rw [enText_in hok]
    have c1 := fun wi => HC.out wi hok
    rw [hok] at c0
    clear hok HC
    generalize enAll ⟨k, s, l, b⟩ = t at c1 ⊢
    go_enter Try.func10, Try.ntmps10
    go_wp2_with fail
    refine c0.mono ?_
    rintro e w1 ⟨rfl, hb1⟩
    have hx1 := HX.out.1.on hb1
    have HB1 : Hid (Below w.heap.size w w1 ∧ w.heap.size ≤ w1.heap.size) := ⟨HX.out.2.1.trans (hb1.mono HX.out.2.2), Nat.le_trans HX.out.2.2 hb1.size⟩
    clear c0 hb1 b0 b1 b2 b3
    obtain ⟨b0, b1, b2, b3⟩ := hx1.cells
    dsimp only at b0 b1 b2 b3
    go_wp2_with fail
    refine (c1 _).mono ?_
    rintro e w2 ⟨rfl, hb2⟩
    have HB2 : Hid (Below w.heap.size w w2) := HB1.out.1.trans (hb2.mono HB1.out.2)
    clear c1 hb2
    go_wp2_with fail
    go_ret2
    exact ⟨rfl, HB2.out⟩
end Go.Proofs.Ytepfblabdibggaa
