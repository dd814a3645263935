/- The law on entries, walked. -/
import Derived.Test.YtepfblabdibggaaEntDraws
import Derived.Test.YtepfblabdibggaaReadEnImpl
import Derived.Test.YtepfblabdibggaaReadEnSpec
import Derived.Test.YtepfblabdibggaaBig
import Derived.Laws.StructEq
namespace Go.Proofs.Ytepfblabdibggaa
open Go.RowKit Go.Sort
set_option maxRecDepth 100000 in
set_option maxHeartbeats 4000000 in
theorem en_eql (k b : ByteArray) (s l : Int) (w : World) : (binOp .eql 25 (.agg #[.string k, .int .i64 s, .int .i64 l, .string b]) (.agg #[.string k, .int .i64 s, .int .i64 l, .string b])).run Try.prog w = .ok (.bool true) w := by
  have h0 := Try.underlying25
  have h2 : Try.prog.stoodInHeld 25 = false := by kernel_rfl
  rw [run_eql_struct, run_equalIn_agg w 9999 25 _ _ (by unfold Program.fieldsOf; rw [h0]) h2]
  simp [go_sem, h0, Op.eqFields]
theorem codeE_on {w w' : World} {ca : Option Addr} {n : Nat} (h : CodeAt w ca n w.heap.size) (hb : Below w.heap.size w w') : CodeAt w' ca n w'.heap.size := fun j hj => by
  obtain ⟨b, off, z, h1, h2, h3, h4⟩ := h j hj
  exact ⟨b, off, z, h1, Nat.lt_of_lt_of_le h2 hb.size, (hb.cell h2).trans h3, h4⟩
theorem EnB.onAlloc {w w' : World} {T : Nat} {t : TypeId} {E : En} (h : EnB w T t E) (o : Obj) (hw : w.alloc o = w') : EnB w' T t E := by
  rw [← hw]; exact h.on ((Below.refl _ _).alloc (Nat.le_refl _) _)
theorem below_new {w w1 w2 : World} (h : Below w.heap.size w w1) (o : Obj) (hw : w1.alloc o = w2) : Below w.heap.size w w2 := by
  rw [← hw]; exact h.alloc h.size _
set_option maxRecDepth 100000 in
set_option maxHeartbeats 8000000 in
theorem entries_walk (ca : Option Addr) (n cap : Nat) (w : World) (hcode : CodeAt w ca n w.heap.size) (hlen : n ≤ maxLen) :
    Calls Try.prog 3 #[.slice ca n cap] w fun e w' => e = .returned (.bool true) ∧ Below w.heap.size w w' := by
  unfold maxLen at hlen
  have cb := big_any ca n cap w (by omega)
  by_cases hn : n ≤ 1048576
  case neg =>
    rw [show decide (1048576 < n) = true by simp; omega] at cb
    go_enter Try.func3, Try.ntmps3
    go_wp2_with fail
    refine cb.mono ?_
    rintro e w' ⟨rfl, rfl⟩
    go_wp2_with fail
    go_ret
    exact ⟨rfl, Below.refl _ _⟩
  rw [show decide (1048576 < n) = false by simp; omega] at cb
  have HCD : Hid (∀ W, Below w.heap.size w W → CodeAt W ca n W.heap.size) := fun W h => codeE_on hcode h
  have cD := drawEntryText_any w ca n cap hcode hn
  clear hcode
  go_enter Try.func3, Try.ntmps3
  go_wp2_with fail
  refine cb.mono ?_
  rintro e w' ⟨rfl, rfl⟩
  clear cb
  go_wp2_with fail
  refine cD.mono ?_
  rintro e w1 ⟨E, hE, rfl, hb1⟩
  obtain ⟨T1, hT1⟩ : ∃ T, w1.heap.size = T := ⟨_, rfl⟩
  obtain ⟨w2, hw2⟩ : ∃ x, w1.alloc (.cells #[.string E.key, .int .i64 E.st, .int .i64 E.lf, .string E.bd] 25) = x := ⟨_, rfl⟩
  have H2 : Hid (Below w.heap.size w w2 ∧ EnB w2 T1 25 E) := ⟨below_new hb1 _ hw2, by rw [← hw2, ← hT1]; exact EnB.new w1 _ E⟩
  have hk : E.key.size ≤ 1099511627776 := by have := hE.1; omega
  have hbs : E.bd.size ≤ 1099511627776 := by have := hE.2.2; omega
  have c3 := implEntryText_any w2 E.key E.bd E.st E.lf hk hbs
  have HSP : Hid (∀ wi, Calls Try.prog 14 #[.agg #[.string E.key, .int .i64 E.st, .int .i64 E.lf, .string E.bd]] wi fun e w' => e = .returned (.bool (enOk E)) ∧ Below wi.heap.size wi w') := fun wi => specEntryOk_any wi E.key E.bd E.st E.lf
  have HIM : Hid (∀ wi, Calls Try.prog 15 #[.agg #[.string E.key, .int .i64 E.st, .int .i64 E.lf, .string E.bd]] wi fun e w' => e = .returned (.bool (enOk E)) ∧ Below wi.heap.size wi w') := fun wi => implEntryOk_any wi E.key E.bd E.st E.lf hk hbs
  have hee : (⟨E.key, E.st, E.lf, E.bd⟩ : En) = E := rfl
  rw [hee] at c3
  have hts := enText_size E
  have HRT : Hid (enOk E = true → reOk (enText E) = true ∧ rdEn (enText E) = E) := fun h => by
    obtain ⟨h1, h2⟩ := re_there h
    rw [enText_in h]
    exact ⟨h1, by rw [rdEn_in h1, h2]⟩
  obtain ⟨s, hs⟩ : ∃ s, enText E = s := ⟨_, rfl⟩
  obtain ⟨ok, hok⟩ : ∃ b, enOk E = b := ⟨_, rfl⟩
  rw [hs, hok] at c3 HRT
  rw [hs] at hts
  rw [hok] at HSP HIM
  obtain ⟨x0, x1, x2, x3⟩ := H2.out.2.cells
  clear cD hE hb1 hee hs hok hk hbs
  go_wp2_with fail
  refine c3.mono ?_
  rintro e w3 ⟨rfl, hb3⟩
  have H3 : Hid (Below w.heap.size w w3 ∧ EnB w3 T1 25 E) := ⟨H2.out.1.trans (hb3.mono H2.out.1.size), H2.out.2.on hb3⟩
  have c4 := implReadEntry_any s w3 (by omega)
  obtain ⟨X, hX⟩ : ∃ X, rdEn s = X := ⟨_, rfl⟩
  obtain ⟨rt, hrt⟩ : ∃ b, reOk s = b := ⟨_, rfl⟩
  rw [hX, hrt] at c4 HRT
  clear c3 hb3 H2 x0 x1 x2 x3 hX hrt hw2
  go_wp2_with fail
  refine c4.mono ?_
  rintro e w4 ⟨rfl, hb4⟩
  obtain ⟨T2, hT2⟩ : ∃ T, w4.heap.size = T := ⟨_, rfl⟩
  obtain ⟨w5, hw5⟩ : ∃ x, w4.alloc (.cells #[.string X.key, .int .i64 X.st, .int .i64 X.lf, .string X.bd] 25) = x := ⟨_, rfl⟩
  have H4 : Hid (Below w.heap.size w w4) := H3.out.1.trans (hb4.mono H3.out.1.size)
  have H5 : Hid (Below w.heap.size w w5 ∧ EnB w5 T1 25 E ∧ EnB w5 T2 25 X) := ⟨below_new H4.out _ hw5, (H3.out.2.on hb4).onAlloc _ hw5, by rw [← hw5, ← hT2]; exact EnB.new w4 _ X⟩
  have c6 := drawReadEntry_any w5 ca n cap (HCD.out w5 H5.out.1) hn
  clear c4 hb4 H3 H4
  go_wp2_with fail
  refine c6.mono ?_
  rintro e w6 ⟨t, ht, rfl, hb6⟩
  have H6 : Hid (Below w.heap.size w w6 ∧ EnB w6 T1 25 E ∧ EnB w6 T2 25 X) := ⟨H5.out.1.trans (hb6.mono H5.out.1.size), H5.out.2.1.on hb6, H5.out.2.2.on hb6⟩
  have c7 := implReadEntry_any t w6 (by omega)
  have C8 : Hid (∀ wi, Calls Try.prog 13 #[.string t] wi fun e w' => e = .returned (.tuple #[.agg #[.string (rdEn t).key, .int .i64 (rdEn t).st, .int .i64 (rdEn t).lf, .string (rdEn t).bd], .bool (reOk t)]) ∧ Below wi.heap.size wi w') := fun wi => specReadEntry_any t wi (by omega)
  have HAG : Hid (reOk t = true → enText (rdEn t) = t) := fun h => by
    have hk := h
    unfold reOk at hk
    rw [Bool.and_eq_true] at hk
    rw [rdEn_in h, enText_in hk.2]
    exact re_back h
  have HYS : Hid ((rdEn t).key.size ≤ 1099511627776 ∧ (rdEn t).bd.size ≤ 1099511627776) := by
    cases hr : reOk t with
    | false => rw [rdEn_out hr]; exact ⟨Nat.zero_le _, Nat.zero_le _⟩
    | true =>
      rw [rdEn_in hr]
      have hk := hr
      unfold reOk at hk
      rw [Bool.and_eq_true] at hk
      obtain ⟨h1, _, _, h4⟩ := enOk_iff.1 hk.2
      exact ⟨by omega, by omega⟩
  obtain ⟨Y, hY⟩ : ∃ Y, rdEn t = Y := ⟨_, rfl⟩
  obtain ⟨may, hmay⟩ : ∃ b, reOk t = b := ⟨_, rfl⟩
  simp only [hY, hmay] at c7 C8 HAG HYS
  clear c6 hb6 H5 ht hY hmay hw5 hT2
  go_wp2_with fail
  refine c7.mono ?_
  rintro e w7 ⟨rfl, hb7⟩
  obtain ⟨T3, hT3⟩ : ∃ T, w7.heap.size = T := ⟨_, rfl⟩
  obtain ⟨w8, hw8⟩ : ∃ x, w7.alloc (.cells #[.string Y.key, .int .i64 Y.st, .int .i64 Y.lf, .string Y.bd] 25) = x := ⟨_, rfl⟩
  have H7 : Hid (Below w.heap.size w w7) := H6.out.1.trans (hb7.mono H6.out.1.size)
  have H8 : Hid (Below w.heap.size w w8 ∧ EnB w8 T1 25 E ∧ EnB w8 T2 25 X ∧ EnB w8 T3 25 Y) := ⟨below_new H7.out _ hw8, (H6.out.2.1.on hb7).onAlloc _ hw8, (H6.out.2.2.on hb7).onAlloc _ hw8, by rw [← hw8, ← hT3]; exact EnB.new w7 _ Y⟩
  clear c7 hb7 H6 H7
  go_wp2_with fail
  refine (C8.out _).mono ?_
  rintro e w9 ⟨rfl, hb9⟩
  obtain ⟨w10, hw10⟩ : ∃ x, w9.alloc (.cells #[.string Y.key, .int .i64 Y.st, .int .i64 Y.lf, .string Y.bd] 25) = x := ⟨_, rfl⟩
  have H9 : Hid (Below w.heap.size w w9) := H8.out.1.trans (hb9.mono H8.out.1.size)
  have H10 : Hid (Below w.heap.size w w10 ∧ EnB w10 T1 25 E ∧ EnB w10 T2 25 X ∧ EnB w10 T3 25 Y) := ⟨below_new H9.out _ hw10, (H8.out.2.1.on hb9).onAlloc _ hw10, (H8.out.2.2.1.on hb9).onAlloc _ hw10, (H8.out.2.2.2.on hb9).onAlloc _ hw10⟩
  obtain ⟨y0, y1, y2, y3⟩ := H10.out.2.2.2.cells
  have c11 := implEntryText_any w10 Y.key Y.bd Y.st Y.lf HYS.out.1 HYS.out.2
  have hee : (⟨Y.key, Y.st, Y.lf, Y.bd⟩ : En) = Y := rfl
  rw [hee] at c11
  obtain ⟨ag, hag⟩ : ∃ s, enText Y = s := ⟨_, rfl⟩
  rw [hag] at c11 HAG
  generalize enOk Y = oy at c11
  clear hb9 H8 H9 hee hag C8 HYS hw8 hT3
  go_wp2_with fail
  refine c11.mono ?_
  rintro e w11 ⟨rfl, hb11⟩
  have H11 : Hid (Below w.heap.size w w11 ∧ EnB w11 T1 25 E ∧ EnB w11 T2 25 X) := ⟨H10.out.1.trans (hb11.mono H10.out.1.size), H10.out.2.1.on hb11, H10.out.2.2.1.on hb11⟩
  obtain ⟨x0, x1, x2, x3⟩ := H11.out.2.1.cells
  clear c11 hb11 H10 y0 y1 y2 y3 hw10
  go_wp2_with fail
  refine (HSP.out _).mono ?_
  rintro e w12 ⟨rfl, hb12⟩
  have H12 : Hid (Below w.heap.size w w12 ∧ EnB w12 T1 25 E ∧ EnB w12 T2 25 X) := ⟨H11.out.1.trans (hb12.mono H11.out.1.size), H11.out.2.1.on hb12, H11.out.2.2.on hb12⟩
  obtain ⟨x0, x1, x2, x3⟩ := H12.out.2.1.cells
  clear hb12 H11
  have hoo : (ok == ok) = true := by simp
  go_wp2_with fail
  refine (HIM.out _).mono ?_
  rintro e w13 ⟨rfl, hb13⟩
  have H13 : Hid (Below w.heap.size w w13 ∧ EnB w13 T1 25 E ∧ EnB w13 T2 25 X) := ⟨H12.out.1.trans (hb13.mono H12.out.1.size), H12.out.2.1.on hb13, H12.out.2.2.on hb13⟩
  obtain ⟨x0, x1, x2, x3⟩ := H13.out.2.1.cells
  obtain ⟨z0, z1, z2, z3⟩ := H13.out.2.2.cells
  clear hb13 H12 HSP HIM
  have hmm : (may == may) = true := by simp
  cases ok
  case false =>
    cases may
    case false =>
      go_wp2_with fail
      go_ret
      exact ⟨rfl, H13.out.1⟩
    case true =>
      have hag := HAG.out rfl
      subst hag
      have htt : (ag.toList == ag.toList) = true := by simp
      go_wp2_with fail
      go_ret
      exact ⟨rfl, H13.out.1⟩
  case true =>
    obtain ⟨hrt, hX⟩ := HRT.out rfl
    subst hrt hX
    have heq := fun w => en_eql X.key X.bd X.st X.lf w
    cases may
    case false =>
      go_wp2_with fail
      go_ret
      exact ⟨rfl, H13.out.1⟩
    case true =>
      have hag := HAG.out rfl
      subst hag
      have htt : (ag.toList == ag.toList) = true := by simp
      go_wp2_with fail
      go_ret
      exact ⟨rfl, H13.out.1⟩
end Go.Proofs.Ytepfblabdibggaa
