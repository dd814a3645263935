/- The law on what is told, walked. -/
import Derived.Test.YtnnaphfeeobeladDoorControlDraw2
import Derived.Test.YtnnaphfeeobeladDoorControlOfImpl
import Derived.Test.YtnnaphfeeobeladDoorControlOfSpec
import Derived.Test.YtnnaphfeeobeladDoorControlTextImpl
import Derived.Test.YtnnaphfeeobeladDoorBig
import Derived.Laws.StructEq
import Derived.BigQuiet
import Derived.Lib.QuietBelow
namespace Go.Proofs.YtnnaphfeeobeladDoor
open Go.RowKit Go.Sort
set_option maxRecDepth 100000 in
set_option maxHeartbeats 4000000 in
theorem ct_eql (s : Ct) (w : World) : (binOp .eql 47 (.agg #[.bool s.ns, .bool s.nc, .int .i64 s.ma, .int .i64 s.sh]) (.agg #[.bool s.ns, .bool s.nc, .int .i64 s.ma, .int .i64 s.sh])).run Tryd.prog w = .ok (.bool true) w := by
  have h0 := Tryd.underlying47
  have h2 : Tryd.prog.stoodInHeld 47 = false := by kernel_rfl
  rw [run_eql_struct, run_equalIn_agg w 9999 47 _ _ (by unfold Program.fieldsOf; rw [h0]) h2]
  simp [go_sem, h0, Op.eqFields]
theorem ct_fld (a b c d : Value) (w : World) : (Instr.field 47 (.agg #[a, b, c, d]) 2).run Tryd.prog w = .ok c w := by
  simp [Instr.field, go_sem, asAgg]
theorem ct_fld0 (a b c d : Value) (w : World) : (Instr.field 47 (.agg #[a, b, c, d]) 0).run Tryd.prog w = .ok a w := by
  simp [Instr.field, go_sem, asAgg]
set_option maxRecDepth 100000 in
set_option maxHeartbeats 16000000 in
theorem controls_walk (ca : Option Addr) (n cap : Nat) (w : World) (hcode : CodeAt w ca n w.heap.size) (hlen : n ≤ maxLen) (htab : Lib.TabIs Tryd.prog w "internal/strconv.uint64pow10" .u64 Lib.pow10Tab) :
    Calls Tryd.prog 5 #[.slice ca n cap] w fun e w' => e = .returned (.bool true) ∧ Below w.heap.size w w' := by
  unfold maxLen at hlen
  have cb := big_any ca n cap w hlen
  by_cases hn : n ≤ 1048576
  case neg =>
    rw [show decide (1048576 < n) = true by simp; omega] at cb
    clear htab
    go_enter Tryd.func5, Tryd.ntmps5
    go_wp2_with fail
    refine cb.mono ?_
    rintro e w' ⟨rfl, rfl⟩
    go_wp2_with fail
    go_ret
    exact ⟨rfl, Below.refl _ _⟩
  rw [show decide (1048576 < n) = false by simp; omega] at cb
  have c1 := drawControl_any w ca n cap hcode hn
  have HCD : Hid (∀ w', Below w.heap.size w w' → CodeAt w' ca n w'.heap.size) := by
    intro w' hb j hj
    obtain ⟨b, off, z, h1, h2, h3, h4⟩ := hcode j hj
    exact ⟨b, off, z, h1, Nat.lt_of_lt_of_le h2 hb.size, (hb.cell (p := ⟨b, off + j, none⟩) h2).trans h3, h4⟩
  have HTB : Hid (∀ w', Below w.heap.size w w' → Lib.TabIs Tryd.prog w' "internal/strconv.uint64pow10" .u64 Lib.pow10Tab) := fun w' hb => tab_below gPow htab hb
  have HN : Hid (n ≤ 1048576) := hn
  clear hcode htab hn hlen
  go_enter Tryd.func5, Tryd.ntmps5
  go_wp2_with fail
  refine cb.mono ?_
  rintro e w' ⟨rfl, rfl⟩
  clear cb
  go_wp2_with fail
  refine c1.mono ?_
  rintro e w1 ⟨c, hk1, hk2, rfl, hb1⟩
  clear c1
  obtain ⟨w2, hw2⟩ : ∃ x, w1.alloc (.cells #[.bool c.ns, .bool c.nc, .int .i64 c.ma, .int .i64 c.sh] 47) = x := ⟨_, rfl⟩
  obtain ⟨T, hT⟩ : ∃ x, w1.heap.size = x := ⟨_, rfl⟩
  have HV : Hid (Below w.heap.size w w2 ∧ CtB w2 T c) := by
    have hb2 : Below w1.heap.size w1 w2 := by rw [← hw2]; exact (Below.refl _ _).alloc (Nat.le_refl _) _
    exact ⟨hb1.trans (hb2.mono hb1.size), by rw [← hw2, ← hT]; exact heap_alloc_new w1 _⟩
  have HBK : Hid (controlS (textC c).data.toList = c) := controlS_back c hk1 hk2
  have cT := implControlText_any w2 c (HTB.out w2 HV.out.1)
  have LS : Hid (∀ wi, Calls Tryd.prog 31 #[.agg #[.bool c.ns, .bool c.nc, .int .i64 c.ma, .int .i64 c.sh]] wi fun e w' => e = .returned (.string (textC c)) ∧ Below wi.heap.size wi w') := fun wi => specControlText_any wi c
  have HSZ : Hid ((textC c).size ≤ 200) := textC_size c
  generalize textC c = S at HBK cT LS HSZ
  obtain ⟨t0, t1, t2, t3⟩ := HV.out.2.cells
  clear hb1 hk1 hk2
  go_wp2_with fail
  clear hw2 hT
  refine cT.mono ?_
  rintro e w3 ⟨rfl, hb3⟩
  have HV : Hid (Below w.heap.size w w3 ∧ CtB w3 T c) := ⟨HV.out.1.trans (hb3.mono HV.out.1.size), HV.out.2.on hb3⟩
  clear cT hb3 t0 t1 t2 t3
  have cO := implControlOf_any S w3 (by have := HSZ.out; omega)
  rw [HBK.out] at cO
  go_wp2_with fail
  refine cO.mono ?_
  rintro e w4 ⟨rfl, hb4⟩
  clear cO
  obtain ⟨w5, hw5⟩ : ∃ x, w4.alloc (.cells #[.bool c.ns, .bool c.nc, .int .i64 c.ma, .int .i64 c.sh] 47) = x := ⟨_, rfl⟩
  obtain ⟨D, hD⟩ : ∃ x, w4.heap.size = x := ⟨_, rfl⟩
  have HV : Hid (Below w.heap.size w w5 ∧ CtB w5 T c ∧ CtB w5 D c) := by
    have hb5 : Below w4.heap.size w4 w5 := by rw [← hw5]; exact (Below.refl _ _).alloc (Nat.le_refl _) _
    have h35 : Below w3.heap.size w3 w5 := hb4.trans (hb5.mono hb4.size)
    exact ⟨HV.out.1.trans (h35.mono HV.out.1.size), HV.out.2.on h35, by rw [← hw5, ← hD]; exact heap_alloc_new w4 _⟩
  clear hb4
  go_wp2_with fail
  clear hw5 hD
  refine (drawControlOf_any w5 ca n cap (HCD.out w5 HV.out.1) HN.out).mono ?_
  rintro e w6 ⟨t, hts, rfl, hb6⟩
  have HV : Hid (Below w.heap.size w w6 ∧ CtB w6 T c ∧ CtB w6 D c) := ⟨HV.out.1.trans (hb6.mono HV.out.1.size), HV.out.2.1.on hb6, HV.out.2.2.on hb6⟩
  clear hb6
  go_wp2_with fail
  refine (drawControlText_any w6 ca n cap (HCD.out w6 HV.out.1) HN.out).mono ?_
  rintro e w7 ⟨x, rfl, hb7⟩
  obtain ⟨w8, hw8⟩ : ∃ y, w7.alloc (.cells #[.bool x.ns, .bool x.nc, .int .i64 x.ma, .int .i64 x.sh] 47) = y := ⟨_, rfl⟩
  obtain ⟨X, hX⟩ : ∃ y, w7.heap.size = y := ⟨_, rfl⟩
  have HV : Hid (Below w.heap.size w w8 ∧ CtB w8 T c ∧ CtB w8 D c ∧ CtB w8 X x) := by
    have hb8 : Below w7.heap.size w7 w8 := by rw [← hw8]; exact (Below.refl _ _).alloc (Nat.le_refl _) _
    have h68 : Below w6.heap.size w6 w8 := hb7.trans (hb8.mono hb7.size)
    exact ⟨HV.out.1.trans (h68.mono HV.out.1.size), HV.out.2.1.on h68, HV.out.2.2.on h68, by rw [← hw8, ← hX]; exact heap_alloc_new w7 _⟩
  clear hb7
  go_wp2_with fail
  clear hw8 hX
  obtain ⟨k, hk⟩ : ∃ k, controlS t.data.toList = k := ⟨_, rfl⟩
  have cI : ∀ d os, Calls Tryd.prog 28 #[.string t] (grow (redrawn w8 d) os) fun e w'' => e = .returned (.agg #[.bool k.ns, .bool k.nc, .int .i64 k.ma, .int .i64 k.sh]) ∧ ∃ p : Regrown, w'' = grow (redrawn w8 p.d) p.os := fun d os => Calls.regrown_of (by rw [← hk]; exact implControlOf_any t _ hts)
  have cS : ∀ d os, Calls Tryd.prog 32 #[.string t] (grow (redrawn w8 d) os) fun e w'' => e = .returned (.agg #[.bool k.ns, .bool k.nc, .int .i64 k.ma, .int .i64 k.sh]) ∧ ∃ p : Regrown, w'' = grow (redrawn w8 p.d) p.os := fun d os => Calls.regrown_of (by rw [← hk]; exact specControlOf_any t _ hts)
  have cT : ∀ d os, Calls Tryd.prog 31 #[.agg #[.bool c.ns, .bool c.nc, .int .i64 c.ma, .int .i64 c.sh]] (grow (redrawn w8 d) os) fun e w'' => e = .returned (.string S) ∧ ∃ p : Regrown, w'' = grow (redrawn w8 p.d) p.os := fun d os => Calls.regrown_of (LS.out _)
  obtain ⟨U, hU⟩ : ∃ U, textC x = U := ⟨_, rfl⟩
  have cX : ∀ d os, Calls Tryd.prog 31 #[.agg #[.bool x.ns, .bool x.nc, .int .i64 x.ma, .int .i64 x.sh]] (grow (redrawn w8 d) os) fun e w'' => e = .returned (.string U) ∧ ∃ p : Regrown, w'' = grow (redrawn w8 p.d) p.os := fun d os => Calls.regrown_of (by rw [← hU]; exact specControlText_any _ x)
  have cY : ∀ d os, Calls Tryd.prog 27 #[.agg #[.bool x.ns, .bool x.nc, .int .i64 x.ma, .int .i64 x.sh]] (grow (redrawn w8 d) os) fun e w'' => e = .returned (.string U) ∧ ∃ p : Regrown, w'' = grow (redrawn w8 p.d) p.os := fun d os => Calls.regrown_of (by rw [← hU]; exact implControlText_any _ x (HTB.out _ (HV.out.1.trans ((below_regrown w8 d os).mono HV.out.1.size))))
  have cE : ∀ d os, Calls Tryd.prog 28 #[.string ⟨#[]⟩] (grow (redrawn w8 d) os) fun e w'' => e = .returned (.agg #[.bool false, .bool false, .int .i64 (-1), .int .i64 (-1)]) ∧ ∃ p : Regrown, w'' = grow (redrawn w8 p.d) p.os := fun d os => Calls.regrown_of (by have h := implControlOf_any ⟨#[]⟩ (grow (redrawn w8 d) os) (by decide); exact h)
  have cP : ∀ d os, Calls Tryd.prog 28 #[.string ⟨#[32, 80, 82, 73, 86, 65, 84, 69, 32, 44, 109, 97, 120, 45, 97, 103, 101, 61, 55]⟩] (grow (redrawn w8 d) os) fun e w'' => e = .returned (.agg #[.bool true, .bool false, .int .i64 7, .int .i64 (-1)]) ∧ ∃ p : Regrown, w'' = grow (redrawn w8 p.d) p.os := fun d os => Calls.regrown_of (by
    have h := implControlOf_any ⟨#[32, 80, 82, 73, 86, 65, 84, 69, 32, 44, 109, 97, 120, 45, 97, 103, 101, 61, 55]⟩ (grow (redrawn w8 d) os) (by decide)
    have e : controlS [32, 80, 82, 73, 86, 65, 84, 69, 32, 44, 109, 97, 120, 45, 97, 103, 101, 61, 55] = ⟨true, false, 7, -1⟩ := by rfl
    rw [show (⟨#[32, 80, 82, 73, 86, 65, 84, 69, 32, 44, 109, 97, 120, 45, 97, 103, 101, 61, 55]⟩ : ByteArray).data.toList = [32, 80, 82, 73, 86, 65, 84, 69, 32, 44, 109, 97, 120, 45, 97, 103, 101, 61, 55] from rfl, e] at h
    exact h)
  have q1 := fun w => ct_eql c w
  have q2 := fun w => ct_eql k w
  have f2 := ct_fld
  have f0 := ct_fld0
  have hss : (S.toList == S.toList) = true := by simp
  have huu : (U.toList == U.toList) = true := by simp
  obtain ⟨t0, t1, t2, t3⟩ := HV.out.2.1.cells
  obtain ⟨d0, d1, d2, d3⟩ := HV.out.2.2.1.cells
  obtain ⟨x0, x1, x2, x3⟩ := HV.out.2.2.2.cells
  have zt0 := cell_regrown t0
  have zt1 := cell_regrown t1
  have zt2 := cell_regrown t2
  have zt3 := cell_regrown t3
  have zd0 := cell_regrown d0
  have zd1 := cell_regrown d1
  have zd2 := cell_regrown d2
  have zd3 := cell_regrown d3
  have zx0 := cell_regrown x0
  have zx1 := cell_regrown x1
  have zx2 := cell_regrown x2
  have zx3 := cell_regrown x3
  have HW : Hid (Below w.heap.size w w8) := HV.out.1
  clear t0 t1 t2 t3 d0 d1 d2 d3 x0 x1 x2 x3 HV LS HSZ HBK hk hU hts HCD HTB
  try dsimp only [List.append]
  refine wp_region_quiet_below (by kernel_rfl) (by kernel_rfl) ?_
  repeat (first | go_big_quiet_step (first | with_reducible exact cI _ _ | with_reducible exact cS _ _ | with_reducible exact cT _ _ | with_reducible exact cX _ _ | with_reducible exact cY _ _ | with_reducible exact cE _ _ | with_reducible exact cP _ _) | quiet_step (first | with_reducible exact cI _ _ | with_reducible exact cS _ _ | with_reducible exact cT _ _ | with_reducible exact cX _ _ | with_reducible exact cY _ _ | with_reducible exact cE _ _ | with_reducible exact cP _ _))
  refine wpQuiet_nil ?_
  intro _ hw'
  obtain ⟨⟨dq, osq⟩, hw''⟩ := hw'
  subst hw''
  go_wp2
  go_ret
  exact ⟨rfl, HW.out.trans ((below_regrown w8 dq osq).mono HW.out.size)⟩
end Go.Proofs.YtnnaphfeeobeladDoor
