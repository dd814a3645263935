/- The law on an entry's freshness, walked. -/
import Derived.Test.YtepfblabdibggaaFreshDraw
import Derived.Test.YtepfblabdibggaaEntFresh
import Derived.Test.YtepfblabdibggaaBig
namespace Go.Proofs.Ytepfblabdibggaa
open Go.RowKit Go.Sort
theorem codeE_onF {w w' : World} {ca : Option Addr} {n : Nat} (h : CodeAt w ca n w.heap.size) (hb : Below w.heap.size w w') : CodeAt w' ca n w'.heap.size := fun j hj => by
  obtain ⟨b, off, z, h1, h2, h3, h4⟩ := h j hj
  exact ⟨b, off, z, h1, Nat.lt_of_lt_of_le h2 hb.size, (hb.cell h2).trans h3, h4⟩
theorem EnB.onAllocF {w w' : World} {T : Nat} {t : TypeId} {E : En} (h : EnB w T t E) (o : Obj) (hw : w.alloc o = w') : EnB w' T t E := by
  rw [← hw]; exact h.on ((Below.refl _ _).alloc (Nat.le_refl _) _)
theorem inB_iff {v lo hi : Int} : inB v lo hi = true ↔ lo ≤ v ∧ v ≤ hi := by unfold inB; simp
theorem fresh_t {E : En} (h : DrE E) {now : Int} (h1 : E.st ≤ now) (h2 : now ≤ E.st + 999998) (h3 : now - E.st < E.lf) : enFresh E now = true := by
  unfold enFresh; rw [h.ok]; have := h.2.1; simp [inB]; omega
theorem fresh_f {E : En} {now : Int} (h3 : E.lf ≤ now - E.st ∨ now < E.st) : enFresh E now = false := by
  unfold enFresh; simp [inB]; omega
set_option maxRecDepth 100000 in
set_option maxHeartbeats 8000000 in
theorem fresh_walk (ca : Option Addr) (n cap : Nat) (w : World) (hcode : CodeAt w ca n w.heap.size) (hlen : n ≤ maxLen) :
    Calls Try.prog 4 #[.slice ca n cap] w fun e w' => e = .returned (.bool true) ∧ Below w.heap.size w w' := by
  unfold maxLen at hlen
  have cb := big_any ca n cap w (by omega)
  by_cases hn : n ≤ 1048576
  case neg =>
    rw [show decide (1048576 < n) = true by simp; omega] at cb
    go_enter Try.func4, Try.ntmps4
    go_wp2_with fail
    refine cb.mono ?_
    rintro e w' ⟨rfl, rfl⟩
    go_wp2_with fail
    go_ret
    exact ⟨rfl, Below.refl _ _⟩
  rw [show decide (1048576 < n) = false by simp; omega] at cb
  have HCD : Hid (∀ W, Below w.heap.size w W → CodeAt W ca n W.heap.size) := fun W h => codeE_onF hcode h
  have cD := drawEntry_any w ca n cap hcode hn
  clear hcode
  go_enter Try.func4, Try.ntmps4
  go_wp2_with fail
  refine cb.mono ?_
  rintro e w' ⟨rfl, rfl⟩
  clear cb
  go_wp2_with fail
  refine cD.mono ?_
  rintro e w1 ⟨E, hE, rfl, hb1⟩
  obtain ⟨T1, hT1⟩ : ∃ T, w1.heap.size = T := ⟨_, rfl⟩
  obtain ⟨w2, hw2⟩ : ∃ x, w1.alloc (.cells #[.string E.key, .int .i64 E.st, .int .i64 E.lf, .string E.bd] 25) = x := ⟨_, rfl⟩
  have H2 : Hid (Below w.heap.size w w2 ∧ EnB w2 T1 25 E) := ⟨below_new' hb1 _ hw2, by rw [← hw2, ← hT1]; exact EnB.new w1 _ E⟩
  have c3 := drawFreshAt_any w2 ca n cap (HCD.out w2 H2.out.1) hn
  have HE : Hid (DrE E) := hE
  clear cD hE hb1
  go_wp2_with fail
  refine c3.mono ?_
  rintro e w3 ⟨X, now, hX, rfl, hb3⟩
  obtain ⟨T2, hT2⟩ : ∃ T, w3.heap.size = T := ⟨_, rfl⟩
  obtain ⟨w4, hw4⟩ : ∃ x, w3.alloc (.cells #[.string X.key, .int .i64 X.st, .int .i64 X.lf, .string X.bd] 25) = x := ⟨_, rfl⟩
  have H3 : Hid (Below w.heap.size w w3) := H2.out.1.trans (hb3.mono H2.out.1.size)
  have H4 : Hid (Below w.heap.size w w4 ∧ EnB w4 T1 25 E ∧ EnB w4 T2 25 X) := ⟨below_new' H3.out _ hw4, (H2.out.2.on hb3).onAllocF _ hw4, by rw [← hw4, ← hT2]; exact EnB.new w3 _ X⟩
  have hk : E.key.size ≤ 1099511627776 := by have := HE.out.1; omega
  have hbs : E.bd.size ≤ 1099511627776 := by have := HE.out.2.2; omega
  have hkX : X.key.size ≤ 1099511627776 := by have := hX.1; omega
  have hbsX : X.bd.size ≤ 1099511627776 := by have := hX.2.2; omega
  have hst := HE.out.2.1
  have hlf := HE.out.2.2.1
  have f1 : enFresh E E.st = true := fresh_t HE.out (by omega) (by omega) (by omega)
  have f2 : enFresh E (E.st + E.lf - 1) = true := fresh_t HE.out (by omega) (by omega) (by omega)
  have f3 : enFresh E (E.st + E.lf) = false := fresh_f (by omega)
  have f4 : enFresh E (E.st - 1) = false := fresh_f (by omega)
  have cE : ∀ (b : Bool) (m : Int), enFresh E m = b → ∀ d os, Calls Try.prog 18 #[.agg #[.string E.key, .int .i64 E.st, .int .i64 E.lf, .string E.bd], .int .i64 m] (grow (redrawn w4 d) os) fun e w'' => e = .returned (.bool b) ∧ ∃ p : Regrown, w'' = grow (redrawn w4 p.d) p.os := fun b m hm d os => Calls.regrown_of (by have := implFreshAt_any (grow (redrawn w4 d) os) E.key E.bd E.st E.lf m hk hbs; rw [show (⟨E.key, E.st, E.lf, E.bd⟩ : En) = E from rfl, hm] at this; simpa using this)
  have c5 := cE true E.st f1
  have c6 := cE true (E.st + E.lf - 1) f2
  have c7 := cE false (E.st + E.lf) f3
  have c8 := cE false (E.st - 1) f4
  obtain ⟨fx, hfx⟩ : ∃ b, enFresh X now = b := ⟨_, rfl⟩
  have c9 : ∀ d os, Calls Try.prog 18 #[.agg #[.string X.key, .int .i64 X.st, .int .i64 X.lf, .string X.bd], .int .i64 now] (grow (redrawn w4 d) os) fun e w'' => e = .returned (.bool fx) ∧ ∃ p : Regrown, w'' = grow (redrawn w4 p.d) p.os := fun d os => Calls.regrown_of (by have := implFreshAt_any (grow (redrawn w4 d) os) X.key X.bd X.st X.lf now hkX hbsX; rw [show (⟨X.key, X.st, X.lf, X.bd⟩ : En) = X from rfl, hfx] at this; simpa using this)
  have c10 : ∀ d os, Calls Try.prog 19 #[.agg #[.string X.key, .int .i64 X.st, .int .i64 X.lf, .string X.bd], .int .i64 now] (grow (redrawn w4 d) os) fun e w'' => e = .returned (.bool fx) ∧ ∃ p : Regrown, w'' = grow (redrawn w4 p.d) p.os := fun d os => Calls.regrown_of (by have := specFreshAt_any (grow (redrawn w4 d) os) X.key X.bd X.st X.lf now; rw [show (⟨X.key, X.st, X.lf, X.bd⟩ : En) = X from rfl, hfx] at this; simpa using this)
  obtain ⟨b0, b1, b2, b3⟩ := H4.out.2.1.cells
  obtain ⟨y0, y1, y2, y3⟩ := H4.out.2.2.cells
  have k0 := cell_regrown b0
  have k1 := cell_regrown b1
  have k2 := cell_regrown b2
  have k3 := cell_regrown b3
  have z0 := cell_regrown y0
  have z1 := cell_regrown y1
  have z2 := cell_regrown y2
  have z3 := cell_regrown y3
  have hw1 : IntKind.i64.wrap (E.st + E.lf) = E.st + E.lf := by rw [IntKind.wrap_i64]; omega
  have hw2' : IntKind.i64.wrap (E.st + E.lf - 1) = E.st + E.lf - 1 := by rw [IntKind.wrap_i64]; omega
  have hw3 : IntKind.i64.wrap (E.st - 1) = E.st - 1 := by rw [IntKind.wrap_i64]; omega
  have hxx : (fx == fx) = true := by simp
  clear c3 hX hb3 H2 H3 hk hbs hkX hbsX hfx f1 f2 f3 f4 cE b0 b1 b2 b3 y0 y1 y2 y3 hst hlf HCD
  go_wp2_with fail
  refine wp_region_quiet_below (by kernel_rfl) (by kernel_rfl) ?_
  repeat (first | go_big_quiet_step (first | with_reducible exact c5 _ _ | with_reducible exact c6 _ _ | with_reducible exact c7 _ _ | with_reducible exact c8 _ _ | with_reducible exact c9 _ _ | with_reducible exact c10 _ _) | quiet_step (first | with_reducible exact c5 _ _ | with_reducible exact c6 _ _ | with_reducible exact c7 _ _ | with_reducible exact c8 _ _ | with_reducible exact c9 _ _ | with_reducible exact c10 _ _))
  refine wpQuiet_nil ?_
  intro _ hw'
  obtain ⟨⟨dq, osq⟩, hw''⟩ := hw'
  subst hw''
  go_wp2_with fail
  go_ret
  exact ⟨rfl, H4.out.1.trans ((below_regrown w4 dq osq).mono H4.out.1.size)⟩
end Go.Proofs.Ytepfblabdibggaa
