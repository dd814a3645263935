/- The law on answers, walked. -/
import Derived.Test.YtnnaphfeeobelaeGreatDoorAnsBack
import Derived.Test.YtnnaphfeeobelaeGreatDoorGoodReadJ
import Derived.Test.YtnnaphfeeobelaeGreatDoorAnswerImpl
import Derived.Test.YtnnaphfeeobelaeGreatDoorAnswerSpec
import Derived.Test.YtnnaphfeeobelaeGreatDoorAnswerDrawJ
import Derived.Test.YtnnaphfeeobelaeGreatDoorBodyImpl
import Derived.Test.YtnnaphfeeobelaeGreatDoorRowLawJ
import Derived.BigQuiet
import Derived.Lib.QuietBelow
namespace Go.Proofs.YtnnaphfeeobelaeGreatDoor
open Go.RowKit Go.Sort
theorem litX (w : World) (f : ByteArray × ByteArray) : DAt (w.alloc (.cells #[.string f.1, .string f.2] 29)) (some ⟨w.heap.size, 0, none⟩) [f] (w.alloc (.cells #[.string f.1, .string f.2] 29)).heap.size := by
  have h : OwnD (w.alloc (.cells #[.string f.1, .string f.2] 29)) w.heap.size 29 (.slice (some ⟨w.heap.size, 0, none⟩) 1 1) [f] :=
    World.ownsRow_lit (base := w.heap.size) (e := 29) (size := 2) w #[.string f.1, .string f.2] 1 (Nat.le_refl _) (by simp [maxLen]) (by rfl)
  obtain ⟨a9, c9, e9, hD⟩ := h.at
  injection e9 with e1 _ _
  rw [← e1] at hD
  exact hD
theorem flag_any (b : Bool) (w : World) : Calls Tryz.prog 11 #[.bool b] w fun e w' => e = .returned (.int .i64 (if b = true then 1 else 0)) ∧ w' = w := by
  cases b with
  | true =>
    go_enter Tryz.func11, Tryz.ntmps11
    go_wp2_with fail
    go_ret
    exact ⟨rfl, rfl⟩
  | false =>
    go_enter Tryz.func11, Tryz.ntmps11
    go_wp2_with fail
    go_ret
    exact ⟨rfl, rfl⟩
set_option maxRecDepth 100000 in
set_option maxHeartbeats 4000000 in
theorem answers_walk (ca : Option Addr) (n cap : Nat) (w : World) (hcode : CodeAt w ca n w.heap.size) (hlen : n ≤ maxLen) (htab : Lib.TabIs Tryz.prog w "internal/strconv.uint64pow10" .u64 Lib.pow10Tab) (hT : ErrT w) :
    Calls Tryz.prog 3 #[.slice ca n cap] w fun e w' => e = .returned (.bool true) ∧ Below w.heap.size w w' := by
  unfold maxLen at hlen
  have cb := big_any ca n cap w hlen
  by_cases hn : n ≤ 1048576
  case neg =>
    rw [show decide (1048576 < n) = true by simp; omega] at cb
    clear hT htab
    go_enter Tryz.func3, Tryz.ntmps3
    go_wp2_with fail
    refine cb.mono ?_
    rintro e w' ⟨rfl, rfl⟩
    go_wp2_with fail
    go_ret
    exact ⟨rfl, Below.refl _ _⟩
  rw [show decide (1048576 < n) = false by simp; omega] at cb
  have HC : Hid (∀ wi, Below w.heap.size w wi → CodeAt wi ca n wi.heap.size) := by
    intro wi hb j hj
    obtain ⟨b, off, z, h1, h2, h3, h4⟩ := hcode j hj
    exact ⟨b, off, z, h1, Nat.lt_of_lt_of_le h2 hb.size, (hb.cell (p := ⟨b, off + j, none⟩) h2).trans h3, h4⟩
  have HE : Hid (∀ wi, Below w.heap.size w wi → ErrT wi) := fun wi hb => hT.on hb (Nat.le_refl _)
  have HTB : Hid (∀ wi, Below w.heap.size w wi → Lib.TabIs Tryz.prog wi "internal/strconv.uint64pow10" .u64 Lib.pow10Tab) := fun wi hb => tab_below gPow htab hb
  have c1 := drawPlaces_any w ca n cap hcode hn
  clear hcode hT htab
  go_enter Tryz.func3, Tryz.ntmps3
  go_wp2_with fail
  refine cb.mono ?_
  rintro e w' ⟨rfl, rfl⟩
  clear cb
  go_wp2_with fail
  refine c1.mono ?_
  rintro e w1 ⟨v7, l, rfl, hl, hlz, hown, hb1⟩
  clear c1
  obtain ⟨pa, pc, rfl, hcells⟩ := hown.shape
  obtain ⟨g, rfl, hz0, _, _, hg⟩ := hcells 0 (by rw [ints_length]; omega)
  obtain ⟨g', hgg, hz1, _, _, _⟩ := hcells 1 (by rw [ints_length]; omega)
  simp only [Option.some.injEq, Addr.mk.injEq, and_true] at hgg
  subst hgg
  rw [ints_at (by omega)] at hz0 hz1
  obtain ⟨q0, hq0⟩ : ∃ x, l[0] = x := ⟨_, rfl⟩
  obtain ⟨q1, hq1⟩ : ∃ x, l[1] = x := ⟨_, rfl⟩
  rw [hq0] at hz0
  rw [hq1] at hz1
  have hr0 := hlz q0 (by rw [← hq0]; exact List.getElem_mem _)
  have hr1 := hlz q1 (by rw [← hq1]; exact List.getElem_mem _)
  have hln : (ints l).length = 12 := by rw [ints_length]; exact hl
  rw [hln]
  obtain ⟨m, hm⟩ : ∃ d : Nat, (d : Int) = q0 % 401 := ⟨(q0 % 401).toNat, by omega⟩
  obtain ⟨p, hp⟩ : ∃ d : Nat, (d : Int) = q1 := ⟨q1.toNat, by omega⟩
  have hm4 : m ≤ 400 := by omega
  have hp4 : p < 10000 := by omega
  have m0 : q0.tmod 401 = (m : Int) := by rw [Int.tmod_eq_emod_of_nonneg hr0.1]; exact hm.symm
  rw [← hp] at hz1
  obtain ⟨B, hB⟩ : ∃ B : ByteArray, (⟨(List.replicate m 98).toArray⟩ : ByteArray) = B := ⟨_, rfl⟩
  have hBd : B.data.toList = List.replicate m 98 := by rw [← hB]
  have hBs : B.size = m := by rw [Lib.size_eq, hBd, List.length_replicate]
  have cR := row_any w1 m 98 (by omega)
  rw [hB] at cR
  obtain ⟨D, hD⟩ : ∃ D, decB p = D := ⟨_, rfl⟩
  have CD : Hid (∀ wi, Calls Tryz.prog 7 #[.int .i64 (p : Int)] wi fun e w' => e = .returned (.string D) ∧ Below wi.heap.size wi w') := by intro wi; rw [← hD]; exact specDecimal_any (p : Int) wi (by omega) (by omega)
  -- what is told, and read again
  obtain ⟨M, hM⟩ : ∃ M, [(xN, decB p), (clN, decB m)] = M := ⟨_, rfl⟩
  obtain ⟨T0, hT0⟩ : ∃ T0, headT stN M = T0 := ⟨_, rfl⟩
  have hT200 : T0.size ≤ 200 := by rw [← hT0, ← hM]; exact (good_ok stN_in (ansGood p m hp4 hm4) (by simp)).2
  have hSz : HdSz stN [(xN, D)] := by rw [← hD]; exact (headOk_sz (good_ok stN_in (L := [(xN, decB p)]) (fun f hf => by simp at hf; subst hf; exact gd_dec p hp4 (by decide) (by decide) ⟨by decide, by decide⟩) (by simp)).1).1
  have hMz : HdSz stN M := by rw [← hM]; exact (headOk_sz (good_ok stN_in (ansGood p m hp4 hm4) (by simp)).1).1
  have CA : Hid (∀ wi (a : Option Addr), Below w.heap.size w wi → DAt wi a [(xN, D)] wi.heap.size → Calls Tryz.prog 8 #[.agg #[.string ⟨#[72, 84, 84, 80, 47, 49, 46, 49, 32, 50, 48, 48, 32, 111, 107]⟩, .slice a 1 1], .string B] wi fun e w' => e = .returned (.tuple #[.string (T0 ++ B), .bool true]) ∧ Below wi.heap.size wi w') := by
    intro wi a hb hA
    have h := implAnswer_any wi a 1 stN [(xN, D)] B hA hSz (by omega) (HTB.out wi hb)
    rw [← hD, ans_told p m hp4 hm4 B hBs, hM, hT0] at h
    exact h
  have CH : Hid (∀ wi, Calls Tryz.prog 9 #[.string (T0 ++ B)] wi fun e w' => ∃ v, e = .returned (.tuple #[.agg #[.string ⟨#[72, 84, 84, 80, 47, 49, 46, 49, 32, 50, 48, 48, 32, 111, 107]⟩, v], .int .i64 (T0.size : Int), .int .i64 0]) ∧ OwnD w' wi.heap.size 29 v M ∧ Below wi.heap.size wi w') := by
    intro wi
    have h := readHead_good wi (T0 ++ B) stN M B.data.toList stN_in (by rw [← hM]; exact ansGood p m hp4 hm4) (by rw [← hM]; simp) (by rw [hT0]; simp) (by rw [hBd]; intro x hx; rw [List.mem_replicate] at hx; rw [hx.2]; decide) (by rw [hBd, List.length_replicate]; omega)
    rw [hT0] at h
    exact h
  have CB : Hid (∀ wi (a : Option Addr) (k : Nat) (t : ByteArray), Below w.heap.size w wi → DAt wi a M wi.heap.size → t.size ≤ 1000 → Calls Tryz.prog 10 #[.agg #[.string ⟨#[72, 84, 84, 80, 47, 49, 46, 49, 32, 50, 48, 48, 32, 111, 107]⟩, .slice a M.length k], .string t] wi fun e w' => e = .returned (.tuple #[.string ⟨(bodyI M t.data.toList).1.toArray⟩, .int .i64 (bodyI M t.data.toList).2.1, .int .i64 (bodyI M t.data.toList).2.2]) ∧ Below wi.heap.size wi w') := fun wi a k t hb hA ht => implBodyOf_any wi a k stN M t hA hMz (by omega) (HE.out wi hb)
  obtain ⟨S, hS⟩ : ∃ S, T0 ++ B = S := ⟨_, rfl⟩
  rw [hS] at CA CH
  have hSd : S.data.toList = T0.data.toList ++ B.data.toList := by rw [← hS]; simp
  have hSs : S.size = T0.size + m := by rw [← hS, ByteArray.size_append, hBs]
  have HX1 : Hid (S.extract T0.size S.size = B) := by
    show _ = _
    rw [← Lib.mk_data (S.extract T0.size S.size), Lib.extract_data, hSd, Lib.size_eq T0, List.drop_left, List.take_of_length_le (by rw [← Lib.size_eq, ← Lib.size_eq]; omega), Lib.mk_data]
  have HX2 : Hid (∀ e, e ≤ m → (S.extract T0.size (T0.size + e)).data.toList = B.data.toList.take e) := by
    intro e he
    rw [Lib.extract_data, hSd, Lib.size_eq T0, List.drop_left, Nat.add_sub_cancel_left]
  have HSS : Hid (S.size = T0.size + m ∧ B.size = m ∧ T0.size ≤ 200) := ⟨hSs, hBs, hT200⟩
  have HB1 : Hid (Below w.heap.size w w1) := hb1
  have HM : Hid ([(xN, decB p), (clN, decB m)] = M) := hM
  have HBD : Hid (B.data.toList = List.replicate m 98) := hBd
  clear hown hcells hlz hl hln hq0 hq1 hb1 hg hm hp hr0 hr1 hB hD hM hT0 hBd hS hSd hSs hBs hT200
  go_wp2_with fail
  refine cR.mono ?_
  rintro e wv ⟨rfl, hwv⟩
  rw [hwv]
  clear hwv wv cR m0
  go_wp2_with fail
  refine (CD.out _).mono ?_
  rintro e w3 ⟨rfl, hb3⟩
  have HB3 : Hid (Below w.heap.size w w3) := HB1.out.trans (hb3.mono HB1.out.size)
  clear hz0 hz1 hb3 CD
  obtain ⟨w4, hw4⟩ : ∃ x, w3.alloc (.cells #[.string ⟨#[120]⟩, .string D] 29) = x := ⟨_, rfl⟩
  have hb4 : Below w3.heap.size w3 w4 := by rw [← hw4]; exact (Below.refl _ _).alloc (Nat.le_refl _) _
  have hD4 : DAt w4 (some ⟨w3.heap.size, 0, none⟩) [(xN, D)] w4.heap.size := by rw [← hw4]; exact litX w3 (xN, D)
  obtain ⟨F, hF⟩ : ∃ x, w3.heap.size = x := ⟨_, rfl⟩
  obtain ⟨T, hTT⟩ : ∃ x, F + 1 = x := ⟨_, rfl⟩
  have hT4 : w4.heap.size = T := by rw [← hw4, ← hTT, ← hF]; simp
  obtain ⟨w5, hw5⟩ : ∃ x, w4.alloc (.cells #[.string ⟨#[72, 84, 84, 80, 47, 49, 46, 49, 32, 50, 48, 48, 32, 111, 107]⟩, .slice (some ⟨F, 0, none⟩) 1 1] 32) = x := ⟨_, rfl⟩
  have hb5 : Below w4.heap.size w4 w5 := by rw [← hw5]; exact (Below.refl _ _).alloc (Nat.le_refl _) _
  have hX5 : HBx w5 T 32 (.string ⟨#[72, 84, 84, 80, 47, 49, 46, 49, 32, 50, 48, 48, 32, 111, 107]⟩) (.slice (some ⟨F, 0, none⟩) 1 1) := by rw [← hw5, ← hT4]; exact HBx.new _ _ _ _
  have HB5 : Hid (Below w.heap.size w w5) := by
    have h35 : Below w3.heap.size w3 w5 := hb4.trans (hb5.mono hb4.size)
    exact HB3.out.trans (h35.mono HB3.out.size)
  have c6 := CA.out w5 (some ⟨F, 0, none⟩) HB5.out (by rw [← hF]; exact hD4.on hb5)
  obtain ⟨x0, x1⟩ := hX5.cells
  go_wp2_with fail
  refine c6.mono ?_
  rintro e w6 ⟨rfl, hb6⟩
  have HB6 : Hid (Below w.heap.size w w6) := HB5.out.trans (hb6.mono HB5.out.size)
  clear c6 x0 x1 hb6 hX5 hb5 hb4 hD4 hw4 hw5 hF hTT hT4 CA
  go_wp2_with fail
  refine (CH.out _).mono ?_
  rintro e w7 ⟨v, rfl, ho7, hb7⟩
  have HB7 : Hid (Below w.heap.size w w7) := HB6.out.trans (hb7.mono HB6.out.size)
  obtain ⟨a5, k5, rfl, hA7⟩ := ho7.at
  clear ho7 hb7 CH
  obtain ⟨w8, hw8⟩ : ∃ x, w7.alloc (.cells #[.string ⟨#[72, 84, 84, 80, 47, 49, 46, 49, 32, 50, 48, 48, 32, 111, 107]⟩, .slice a5 M.length k5] 32) = x := ⟨_, rfl⟩
  obtain ⟨T8, hT8⟩ : ∃ x, w7.heap.size = x := ⟨_, rfl⟩
  have hb8 : Below w7.heap.size w7 w8 := by rw [← hw8]; exact (Below.refl _ _).alloc (Nat.le_refl _) _
  have hX8 : HBx w8 T8 32 (.string ⟨#[72, 84, 84, 80, 47, 49, 46, 49, 32, 50, 48, 48, 32, 111, 107]⟩) (.slice a5 M.length k5) := by rw [← hw8, ← hT8]; exact HBx.new _ _ _ _
  have HB8 : Hid (Below w.heap.size w w8) := HB7.out.trans (hb8.mono HB7.out.size)
  have HA8 : Hid (∀ wi, Below w8.heap.size w8 wi → DAt wi a5 M wi.heap.size ∧ HBx wi T8 32 (.string ⟨#[72, 84, 84, 80, 47, 49, 46, 49, 32, 50, 48, 48, 32, 111, 107]⟩) (.slice a5 M.length k5) ∧ Below w.heap.size w wi) := fun wi hi => ⟨(hA7.on hb8).on hi, hX8.on hi, HB8.out.trans (hi.mono HB8.out.size)⟩
  clear hA7 hb8
  go_wp2_with fail
  -- the body, and more behind it
  have hsl := fun w => run_slice_string_l (P := Tryz.prog) w 9 S Tryz.underlying9 .i64 (T0.size : Int) (by omega) (by have := HSS.out; omega)
  rw [Int.toNat_natCast, HX1.out] at hsl
  have hadd := fun w => run_string_add_sum (P := Tryz.prog) (w := w) B ⟨#[98, 101, 104, 105, 110, 100]⟩ (by have := HSS.out; show _ + 6 ≤ _; omega)
  obtain ⟨B6, hB6⟩ : ∃ x, B ++ (⟨#[98, 101, 104, 105, 110, 100]⟩ : ByteArray) = x := ⟨_, rfl⟩
  rw [hB6] at hadd
  have hB6d : B6.data.toList = B.data.toList ++ [98, 101, 104, 105, 110, 100] := by rw [← hB6]; simp
  have cB : ∀ d os, Calls Tryz.prog 10 #[.agg #[.string ⟨#[72, 84, 84, 80, 47, 49, 46, 49, 32, 50, 48, 48, 32, 111, 107]⟩, .slice a5 M.length k5], .string B6] (grow (redrawn w8 d) os) fun e w'' => e = .returned (.tuple #[.string B, .int .i64 (m : Int), .int .i64 0]) ∧ ∃ p : Regrown, w'' = grow (redrawn w8 p.d) p.os := fun d os => Calls.regrown_of (by
    obtain ⟨hA, _, hbw⟩ := HA8.out _ (below_regrown w8 d os)
    have h := CB.out _ a5 k5 B6 hbw hA (by have := HSS.out; rw [← hB6, ByteArray.size_append]; show _ + 6 ≤ _; omega)
    rw [hB6d, ← HM.out, ans_body p m hm4 B.data.toList _ (by rw [← Lib.size_eq]; exact HSS.out.2.1), HM.out] at h
    rw [show (⟨B.data.toList.toArray⟩ : ByteArray) = B from Lib.mk_data B] at h
    exact h)
  obtain ⟨x0, x1⟩ := hX8.cells
  have z0 := cell_regrown x0
  have z1 := cell_regrown x1
  clear hX8 hB6 hB6d
  refine wp_region_quiet_below (by kernel_rfl) (by kernel_rfl) ?_
  repeat (first | go_big_quiet_step (first | with_reducible exact cB _ _) | quiet_step (first | with_reducible exact cB _ _))
  refine wpQuiet_nil ?_
  intro _ hw'
  obtain ⟨⟨dq, osq⟩, hw''⟩ := hw'
  subst hw''
  obtain ⟨w9, hw9⟩ : ∃ x, grow (redrawn w8 dq) osq = x := ⟨_, rfl⟩
  have hb9 : Below w8.heap.size w8 w9 := by rw [← hw9]; exact below_regrown w8 dq osq
  have HA9 : Hid (∀ wi, Below w9.heap.size w9 wi → DAt wi a5 M wi.heap.size ∧ HBx wi T8 32 (.string ⟨#[72, 84, 84, 80, 47, 49, 46, 49, 32, 50, 48, 48, 32, 111, 107]⟩) (.slice a5 M.length k5) ∧ Below w.heap.size w wi) := fun wi hi => HA8.out wi (hb9.trans (hi.mono hb9.size))
  obtain ⟨_, hX9, _⟩ := HA9.out w9 (Below.refl _ _)
  rw [hw9]
  clear hw9 cB z0 z1 x0 x1 hsl hadd HA8 hb9 hw8 hT8
  go_wp2_with fail
  by_cases hm0 : m = 0
  · have hpos : ¬ (0 : Int) < (B.size : Int) := by have := HSS.out; omega
    obtain ⟨E, hE⟩ : ∃ x : Nat, S.size - 0 = x := ⟨_, rfl⟩
    have hE64 : wrap64 (S.size : Int) = (E : Int) := by unfold wrap64; have := HSS.out; omega
    have hEw : IntKind.i64.wrap ((S.size : Int) - 0) = (E : Int) := by rw [IntKind.wrap_i64]; have := HSS.out; omega
    have hslc := fun w => run_slice_string (P := Tryz.prog) (w := w) 9 S .i64 .i64 (T0.size : Int) (E : Int) Tryz.underlying9 (by omega) (by have := HSS.out; omega) (by have := HSS.out; omega)
    simp only [Int.toNat_natCast] at hslc
    have hC2d : (S.extract T0.size E).data.toList = B.data.toList.take (m - 0) := by
      have h := HX2.out (m - 0) (by omega)
      rw [show T0.size + (m - 0) = E by have := HSS.out; omega] at h
      exact h
    obtain ⟨C2, hC2⟩ : ∃ x, S.extract T0.size E = x := ⟨_, rfl⟩
    rw [hC2] at hslc hC2d
    have hC2z : C2.size ≤ 400 := by rw [Lib.size_eq, hC2d, List.length_take]; omega
    have cF : ∀ d os, Calls Tryz.prog 11 #[.bool false] (grow (redrawn w9 d) os) fun e w'' => e = .returned (.int .i64 0) ∧ ∃ p : Regrown, w'' = grow (redrawn w9 p.d) p.os := fun d os => Calls.regrown_of ((flag_any false _).mono fun e w' h => ⟨h.1, by rw [h.2]; exact Below.refl _ _⟩)
    have cF2 : ∀ d os, Calls Tryz.prog 11 #[.bool (decide ((0 : Int) < (B.size : Int)))] (grow (redrawn w9 d) os) fun e w'' => e = .returned (.int .i64 0) ∧ ∃ p : Regrown, w'' = grow (redrawn w9 p.d) p.os := by
      rw [show decide ((0 : Int) < (B.size : Int)) = false from decide_eq_false hpos]
      exact cF
    have cF3 : ∀ d os, Calls Tryz.prog 11 #[.bool (decide (0 < B.size))] (grow (redrawn w9 d) os) fun e w'' => e = .returned (.int .i64 0) ∧ ∃ p : Regrown, w'' = grow (redrawn w9 p.d) p.os := by
      rw [show decide (0 < B.size) = false from decide_eq_false (by omega)]
      exact cF
    have cB : ∀ d os, Calls Tryz.prog 10 #[.agg #[.string ⟨#[72, 84, 84, 80, 47, 49, 46, 49, 32, 50, 48, 48, 32, 111, 107]⟩, .slice a5 M.length k5], .string C2] (grow (redrawn w9 d) os) fun e w'' => e = .returned (.tuple #[.string ⟨#[]⟩, .int .i64 0, .int .i64 0]) ∧ ∃ p : Regrown, w'' = grow (redrawn w9 p.d) p.os := fun d os => Calls.regrown_of (by
      obtain ⟨hA, _, hbw⟩ := HA9.out _ (below_regrown w9 d os)
      have h := CB.out _ a5 k5 C2 hbw hA (by omega)
      have hm0' : B.data.toList.take (m - 0) = [] := by rw [show m - 0 = 0 by omega]; rfl
      have hl := ans_body p m hm4 [] [] (by show 0 = m; omega)
      rw [List.append_nil] at hl
      rw [hC2d, hm0', ← HM.out, hl, HM.out] at h
      rw [show (m : Int) = 0 by omega] at h
      exact h)
    obtain ⟨y0, y1⟩ := hX9.cells
    have z0 := cell_regrown y0
    have z1 := cell_regrown y1
    clear hX9 hC2 hC2d hC2z hE
    refine wp_region_quiet_below (by kernel_rfl) (by kernel_rfl) ?_
    repeat (first | go_big_quiet_step (first | with_reducible exact cB _ _ | with_reducible exact cF _ _ | with_reducible exact cF2 _ _ | with_reducible exact cF3 _ _) | quiet_step (first | with_reducible exact cB _ _ | with_reducible exact cF _ _ | with_reducible exact cF2 _ _ | with_reducible exact cF3 _ _))
    refine wpQuiet_nil ?_
    intro _ hw'
    obtain ⟨⟨dr, osr⟩, hw''⟩ := hw'
    subst hw''
    obtain ⟨w10, hw10⟩ : ∃ x, grow (redrawn w9 dr) osr = x := ⟨_, rfl⟩
    have HB10 : Hid (Below w.heap.size w w10) := by rw [← hw10]; exact (HA9.out _ (below_regrown w9 dr osr)).2.2
    rw [hw10]
    clear hw10 cB cF cF2 cF3 z0 z1 y0 y1 hslc hEw hE64 HA9
    have c11 := drawAnswer_any w10 ca n cap (HC.out w10 HB10.out) hn
    go_wp2_with fail
    refine c11.mono ?_
    rintro e w11 ⟨ln, a6, k6, L, u, rfl, hsz, hu, hD11, hb11⟩
    have HB11 : Hid (Below w.heap.size w w11) := HB10.out.trans (hb11.mono HB10.out.size)
    obtain ⟨w12, hw12⟩ : ∃ x, w11.alloc (.cells #[.string ln, .slice a6 L.length k6] 32) = x := ⟨_, rfl⟩
    have hb12 : Below w11.heap.size w11 w12 := by rw [← hw12]; exact (Below.refl _ _).alloc (Nat.le_refl _) _
    have hX12 : HBx w12 w11.heap.size 32 (.string ln) (.slice a6 L.length k6) := by rw [← hw12]; exact HBx.new _ _ _ _
    have HB12 : Hid (Below w.heap.size w w12) := HB11.out.trans (hb12.mono HB11.out.size)
    have hD12 := hD11.on hb12
    have c13 := implAnswer_any w12 a6 k6 ln L u hD12 hsz (by omega) (HTB.out w12 HB12.out)
    have C14 : Hid (∀ wi, Below w12.heap.size w12 wi → Calls Tryz.prog 13 #[.agg #[.string ln, .slice a6 L.length k6], .string u] wi fun e w' => e = .returned (.tuple #[.string (answerS ln L u).1, .bool (answerS ln L u).2]) ∧ Below wi.heap.size wi w') := fun wi hi => specAnswer_any wi a6 k6 ln L u (hD12.on hi) hsz (by omega)
    have HX12 : Hid (∀ wi, Below w12.heap.size w12 wi → wi.cell? ⟨w11.heap.size, 0, none⟩ = some (.string ln) ∧ wi.cell? ⟨w11.heap.size, 1, none⟩ = some (.slice a6 L.length k6)) := fun wi hi => (hX12.on hi).cells
    obtain ⟨b0, b1⟩ := hX12.cells
    rw [← hw12] at b0 b1
    have HW12 : Hid (w11.alloc (.cells #[.string ln, .slice a6 L.length k6] 32) = w12) := hw12
    generalize (answerS ln L u).1 = VA at c13 C14
    generalize (answerS ln L u).2 = VB at c13 C14
    clear c11 hb11 hsz hu hD11 hb12 hX12 hD12 hw12
    go_wp2_with fail
    rw [HW12.out] at b0 b1 ⊢
    refine c13.mono ?_
    rintro e w13 ⟨rfl, hb13⟩
    have HB13 : Hid (Below w.heap.size w w13) := HB12.out.trans (hb13.mono HB12.out.size)
    clear b0 b1
    obtain ⟨b0, b1⟩ := HX12.out w13 hb13
    have c14 := C14.out w13 hb13
    clear c13 C14 HX12 hb13
    go_wp2_with fail
    refine c14.mono ?_
    rintro e w14 ⟨rfl, hb14⟩
    have HB14 : Hid (Below w.heap.size w w14) := HB13.out.trans (hb14.mono HB13.out.size)
    have h1 : (B.toList == B.toList) = true := by simp
    have h2 : (VA.toList == VA.toList) = true := by simp
    have h3 : (VB == VB) = true := by simp
    have h4 : (B.size : Int) = 0 := by have := HSS.out; omega
    clear hpos
    clear c14 b0 b1 hb14
    go_wp2_with fail
    go_ret
    exact ⟨rfl, HB14.out⟩
  · have hpos : (0 : Int) < (B.size : Int) := by have := HSS.out; omega
    obtain ⟨E, hE⟩ : ∃ x : Nat, S.size - 1 = x := ⟨_, rfl⟩
    have hE64 : wrap64 ((S.size : Int) - 1) = (E : Int) := by unfold wrap64; have := HSS.out; omega
    have hEw : IntKind.i64.wrap ((S.size : Int) - 1) = (E : Int) := by rw [IntKind.wrap_i64]; have := HSS.out; omega
    have hslc := fun w => run_slice_string (P := Tryz.prog) (w := w) 9 S .i64 .i64 (T0.size : Int) (E : Int) Tryz.underlying9 (by omega) (by have := HSS.out; omega) (by have := HSS.out; omega)
    simp only [Int.toNat_natCast] at hslc
    have hC2d : (S.extract T0.size E).data.toList = B.data.toList.take (m - 1) := by
      have h := HX2.out (m - 1) (by omega)
      rw [show T0.size + (m - 1) = E by have := HSS.out; omega] at h
      exact h
    obtain ⟨C2, hC2⟩ : ∃ x, S.extract T0.size E = x := ⟨_, rfl⟩
    rw [hC2] at hslc hC2d
    have hC2z : C2.size ≤ 400 := by rw [Lib.size_eq, hC2d, List.length_take]; omega
    have cF : ∀ d os, Calls Tryz.prog 11 #[.bool true] (grow (redrawn w9 d) os) fun e w'' => e = .returned (.int .i64 1) ∧ ∃ p : Regrown, w'' = grow (redrawn w9 p.d) p.os := fun d os => Calls.regrown_of ((flag_any true _).mono fun e w' h => ⟨h.1, by rw [h.2]; exact Below.refl _ _⟩)
    have cF2 : ∀ d os, Calls Tryz.prog 11 #[.bool (decide ((0 : Int) < (B.size : Int)))] (grow (redrawn w9 d) os) fun e w'' => e = .returned (.int .i64 1) ∧ ∃ p : Regrown, w'' = grow (redrawn w9 p.d) p.os := by
      rw [show decide ((0 : Int) < (B.size : Int)) = true from decide_eq_true hpos]
      exact cF
    have cF3 : ∀ d os, Calls Tryz.prog 11 #[.bool (decide (0 < B.size))] (grow (redrawn w9 d) os) fun e w'' => e = .returned (.int .i64 1) ∧ ∃ p : Regrown, w'' = grow (redrawn w9 p.d) p.os := by
      rw [show decide (0 < B.size) = true from decide_eq_true (by omega)]
      exact cF
    have cB : ∀ d os, Calls Tryz.prog 10 #[.agg #[.string ⟨#[72, 84, 84, 80, 47, 49, 46, 49, 32, 50, 48, 48, 32, 111, 107]⟩, .slice a5 M.length k5], .string C2] (grow (redrawn w9 d) os) fun e w'' => e = .returned (.tuple #[.string ⟨#[]⟩, .int .i64 0, .int .i64 1]) ∧ ∃ p : Regrown, w'' = grow (redrawn w9 p.d) p.os := fun d os => Calls.regrown_of (by
      obtain ⟨hA, _, hbw⟩ := HA9.out _ (below_regrown w9 d os)
      have h := CB.out _ a5 k5 C2 hbw hA (by omega)
      rw [hC2d, ← HM.out, ans_more p m hm4 _ (by rw [List.length_take]; omega), HM.out] at h
      exact h)
    obtain ⟨y0, y1⟩ := hX9.cells
    have z0 := cell_regrown y0
    have z1 := cell_regrown y1
    clear hX9 hC2 hC2d hC2z hE
    refine wp_region_quiet_below (by kernel_rfl) (by kernel_rfl) ?_
    repeat (first | go_big_quiet_step (first | with_reducible exact cB _ _ | with_reducible exact cF _ _ | with_reducible exact cF2 _ _ | with_reducible exact cF3 _ _) | quiet_step (first | with_reducible exact cB _ _ | with_reducible exact cF _ _ | with_reducible exact cF2 _ _ | with_reducible exact cF3 _ _))
    refine wpQuiet_nil ?_
    intro _ hw'
    obtain ⟨⟨dr, osr⟩, hw''⟩ := hw'
    subst hw''
    obtain ⟨w10, hw10⟩ : ∃ x, grow (redrawn w9 dr) osr = x := ⟨_, rfl⟩
    have HB10 : Hid (Below w.heap.size w w10) := by rw [← hw10]; exact (HA9.out _ (below_regrown w9 dr osr)).2.2
    rw [hw10]
    clear hw10 cB cF cF2 cF3 z0 z1 y0 y1 hslc hEw hE64 HA9
    have c11 := drawAnswer_any w10 ca n cap (HC.out w10 HB10.out) hn
    go_wp2_with fail
    refine c11.mono ?_
    rintro e w11 ⟨ln, a6, k6, L, u, rfl, hsz, hu, hD11, hb11⟩
    have HB11 : Hid (Below w.heap.size w w11) := HB10.out.trans (hb11.mono HB10.out.size)
    obtain ⟨w12, hw12⟩ : ∃ x, w11.alloc (.cells #[.string ln, .slice a6 L.length k6] 32) = x := ⟨_, rfl⟩
    have hb12 : Below w11.heap.size w11 w12 := by rw [← hw12]; exact (Below.refl _ _).alloc (Nat.le_refl _) _
    have hX12 : HBx w12 w11.heap.size 32 (.string ln) (.slice a6 L.length k6) := by rw [← hw12]; exact HBx.new _ _ _ _
    have HB12 : Hid (Below w.heap.size w w12) := HB11.out.trans (hb12.mono HB11.out.size)
    have hD12 := hD11.on hb12
    have c13 := implAnswer_any w12 a6 k6 ln L u hD12 hsz (by omega) (HTB.out w12 HB12.out)
    have C14 : Hid (∀ wi, Below w12.heap.size w12 wi → Calls Tryz.prog 13 #[.agg #[.string ln, .slice a6 L.length k6], .string u] wi fun e w' => e = .returned (.tuple #[.string (answerS ln L u).1, .bool (answerS ln L u).2]) ∧ Below wi.heap.size wi w') := fun wi hi => specAnswer_any wi a6 k6 ln L u (hD12.on hi) hsz (by omega)
    have HX12 : Hid (∀ wi, Below w12.heap.size w12 wi → wi.cell? ⟨w11.heap.size, 0, none⟩ = some (.string ln) ∧ wi.cell? ⟨w11.heap.size, 1, none⟩ = some (.slice a6 L.length k6)) := fun wi hi => (hX12.on hi).cells
    obtain ⟨b0, b1⟩ := hX12.cells
    rw [← hw12] at b0 b1
    have HW12 : Hid (w11.alloc (.cells #[.string ln, .slice a6 L.length k6] 32) = w12) := hw12
    generalize (answerS ln L u).1 = VA at c13 C14
    generalize (answerS ln L u).2 = VB at c13 C14
    clear c11 hb11 hsz hu hD11 hb12 hX12 hD12 hw12
    go_wp2_with fail
    rw [HW12.out] at b0 b1 ⊢
    refine c13.mono ?_
    rintro e w13 ⟨rfl, hb13⟩
    have HB13 : Hid (Below w.heap.size w w13) := HB12.out.trans (hb13.mono HB12.out.size)
    clear b0 b1
    obtain ⟨b0, b1⟩ := HX12.out w13 hb13
    have c14 := C14.out w13 hb13
    clear c13 C14 HX12 hb13
    go_wp2_with fail
    refine c14.mono ?_
    rintro e w14 ⟨rfl, hb14⟩
    have HB14 : Hid (Below w.heap.size w w14) := HB13.out.trans (hb14.mono HB13.out.size)
    have h1 : (B.toList == B.toList) = true := by simp
    have h2 : (VA.toList == VA.toList) = true := by simp
    have h3 : (VB == VB) = true := by simp
    have h4 : ((m : Int) == (B.size : Int)) = true := by have := HSS.out; simp; omega
    clear c14 b0 b1 hb14
    go_wp2_with fail
    go_ret
    exact ⟨rfl, HB14.out⟩
end Go.Proofs.YtnnaphfeeobelaeGreatDoor
