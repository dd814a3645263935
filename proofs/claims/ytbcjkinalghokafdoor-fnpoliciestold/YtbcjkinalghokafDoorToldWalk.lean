/- The law on what is told of policies, walked. Written by mktold.py. -/
import Derived.Test.YtbcjkinalghokafDoorPolDraws
import Derived.Test.YtbcjkinalghokafDoorSamePolJ
import Derived.Test.YtbcjkinalghokafDoorPolTouchImpl
import Derived.Test.YtbcjkinalghokafDoorDelFuncJ
import Derived.Test.YtbcjkinalghokafDoorPolDropSpecJ
import Derived.Deep.RegionHeld3
namespace Go.Proofs.YtbcjkinalghokafDoor
open Go.RowKit Go.Sort

theorem CodeAt.onT {w w' : World} {ca : Option Addr} {n : Nat} (h : CodeAt w ca n w.heap.size) (hb : Below w.heap.size w w') : CodeAt w' ca n w'.heap.size := by
  intro j hj
  obtain ⟨b, off, z, h1, h2, h3, h4⟩ := h j hj
  exact ⟨b, off, z, h1, Nat.lt_of_lt_of_le h2 hb.size, (hb.cell h2).trans h3, h4⟩
theorem balT (w : World) (o : Obj) : Below w.heap.size w (w.alloc o) := (Below.refl _ _).alloc (Nat.le_refl _) _
set_option maxRecDepth 100000 in
set_option maxHeartbeats 16000000 in
theorem policiesTold_walk (ca : Option Addr) (n cap : Nat) (w : World) (hcode : CodeAt w ca n w.heap.size) (hlen : n ≤ maxLen) (ht : Tab w) :
    Calls Tryd.prog 4 #[.slice ca n cap] w fun e w' => e = .returned (.bool true) ∧ Below w.heap.size w w' := by
  unfold maxLen at hlen
  have cb := big_any ca n cap w (by omega)
  by_cases hn : n ≤ 1048576
  case neg =>
    rw [show decide (1048576 < n) = true by simp; omega] at cb
    go_enter Tryd.func4, Tryd.ntmps4
    go_wp2_with fail
    refine cb.mono ?_
    rintro e w' ⟨rfl, rfl⟩
    go_wp2_with fail
    go_ret
    exact ⟨rfl, Below.refl _ _⟩
  rw [show decide (1048576 < n) = false by simp; omega] at cb
  have HTB : Hid (∀ W, Below w.heap.size w W → Tab W) := fun W h => ht.below h (Nat.le_refl _)
  have HCD : Hid (∀ W, Below w.heap.size w W → CodeAt W ca n W.heap.size) := fun W h => CodeAt.onT hcode h
  have cD := drawPolicyTouch_any w ca n cap hcode hn
  clear ht hcode
  go_enter Tryd.func4, Tryd.ntmps4
  go_wp2_with fail
  refine cb.mono ?_
  rintro e w' ⟨rfl, rfl⟩
  clear cb
  go_wp2_with fail
  refine cD.mono ?_
  rintro e w1 ⟨p1, p2, p3, i1, i2, i3, P, key, rfl, hks, hszP, hSS, hB1⟩
  have hA1 := hSS w1 (fun _ _ => rfl) (Nat.le_refl _)
  clear cD hSS
  obtain ⟨w2, hw2⟩ : ∃ x, w1.alloc (.cells #[.slice p1 P.win.length i1, .slice p2 P.main.length i2, .slice p3 P.sk.rows.length i3, .int .i64 P.sk.added] 29) = x := ⟨_, rfl⟩
  obtain ⟨T3, hT3⟩ : ∃ x, w1.heap.size = x := ⟨_, rfl⟩
  have hbw2 : Below w1.heap.size w1 w2 := by rw [← hw2]; exact balT _ _
  have Xp : PBox w2 T3 (.slice p1 P.win.length i1) (.slice p2 P.main.length i2) (.slice p3 P.sk.rows.length i3) (.int .i64 P.sk.added) ∧ PolAt w2 p1 p2 p3 P w2.heap.size := ⟨by rw [← hw2, ← hT3]; exact PBox.new _ _ _ _ _, PolAt.on (P := P) hA1 hbw2⟩
  have HWw2 : Hid (w1.alloc (.cells #[.slice p1 P.win.length i1, .slice p2 P.main.length i2, .slice p3 P.sk.rows.length i3, .int .i64 P.sk.added] 29) = w2) := hw2
  have HTp : Hid (w1.heap.size = T3) := hT3
  have hB2 : Below w.heap.size w w2 := hB1.trans (hbw2.mono hB1.size)
  clear hw2 hT3 hbw2 hA1 hB1
  have cI := implPolicyTouch_any w2 p1 p2 p3 i1 i2 i3 P key Xp.2 hszP (by omega) (HTB.out w2 hB2)
  have CS : Hid (∀ W, PolAt W p1 p2 p3 P W.heap.size → Calls Tryd.prog 10 #[.agg #[.slice p1 P.win.length i1, .slice p2 P.main.length i2, .slice p3 P.sk.rows.length i3, .int .i64 P.sk.added], .string key] W fun e w' => ∃ v, e = .returned (.tuple #[v, .string (touchP P key).2]) ∧ POwn w' W.heap.size w'.heap.size v (touchP P key).1 ∧ Below W.heap.size W w') := fun W h => specPolicyTouch_any W p1 p2 p3 i1 i2 i3 P key h hszP (by omega)
  have hszQ := touchP_sz key hszP
  obtain ⟨⟨Q, o⟩, hQ⟩ : ∃ Q, touchP P key = Q := ⟨_, rfl⟩
  rw [hQ] at cI CS hszQ
  dsimp only at hszQ
  clear hQ
  obtain ⟨q0, q1, q2, q3⟩ := Xp.1.cells
  rw [← HWw2.out] at q0 q1 q2 q3
  go_wp2_with fail
  rw [HWw2.out]
  refine cI.mono ?_
  rintro e w3 ⟨v3, rfl, ho3, hb3⟩
  obtain ⟨a1, j1, a2, j2, a3, j3, rfl, hA3⟩ := ho3.at
  rw [HTp.out]
  clear cI q0 q1 q2 q3 ho3
  have hB3 : Below w.heap.size w w3 := hB2.trans (hb3.mono hB2.size)
  have Xp : PBox w3 T3 (.slice p1 P.win.length i1) (.slice p2 P.main.length i2) (.slice p3 P.sk.rows.length i3) (.int .i64 P.sk.added) ∧ PolAt w3 p1 p2 p3 P w3.heap.size := ⟨Xp.1.on hb3, PolAt.on (P := P) Xp.2 hb3⟩
  clear hb3 hB2
  obtain ⟨w4, hw4⟩ : ∃ x, w3.alloc (.cells #[.slice a1 Q.win.length j1, .slice a2 Q.main.length j2, .slice a3 Q.sk.rows.length j3, .int .i64 Q.sk.added] 29) = x := ⟨_, rfl⟩
  obtain ⟨T5, hT5⟩ : ∃ x, w3.heap.size = x := ⟨_, rfl⟩
  have hbw4 : Below w3.heap.size w3 w4 := by rw [← hw4]; exact balT _ _
  have Xa : PBox w4 T5 (.slice a1 Q.win.length j1) (.slice a2 Q.main.length j2) (.slice a3 Q.sk.rows.length j3) (.int .i64 Q.sk.added) ∧ PolAt w4 a1 a2 a3 Q w4.heap.size := ⟨by rw [← hw4, ← hT5]; exact PBox.new _ _ _ _ _, PolAt.on (P := Q) hA3 hbw4⟩
  have HWw4 : Hid (w3.alloc (.cells #[.slice a1 Q.win.length j1, .slice a2 Q.main.length j2, .slice a3 Q.sk.rows.length j3, .int .i64 Q.sk.added] 29) = w4) := hw4
  have HTa : Hid (w3.heap.size = T5) := hT5
  have hB4 : Below w.heap.size w w4 := hB3.trans (hbw4.mono hB3.size)
  have Xp : PBox w4 T3 (.slice p1 P.win.length i1) (.slice p2 P.main.length i2) (.slice p3 P.sk.rows.length i3) (.int .i64 P.sk.added) ∧ PolAt w4 p1 p2 p3 P w4.heap.size := ⟨Xp.1.on hbw4, PolAt.on (P := P) Xp.2 hbw4⟩
  clear hw4 hT5 hbw4 hA3 hB3
  have cS := CS.out w4 Xp.2
  obtain ⟨q0, q1, q2, q3⟩ := Xp.1.cells
  rw [← HWw4.out] at q0 q1 q2 q3
  go_wp2_with fail
  rw [HWw4.out]
  refine cS.mono ?_
  rintro e w5 ⟨v5, rfl, ho5, hb5⟩
  obtain ⟨b1, k1, b2, k2, b3, k3, rfl, hA5⟩ := ho5.at
  rw [HTa.out]
  clear cS CS q0 q1 q2 q3 ho5
  have hB5 : Below w.heap.size w w5 := hB4.trans (hb5.mono hB4.size)
  have Xp : PBox w5 T3 (.slice p1 P.win.length i1) (.slice p2 P.main.length i2) (.slice p3 P.sk.rows.length i3) (.int .i64 P.sk.added) ∧ PolAt w5 p1 p2 p3 P w5.heap.size := ⟨Xp.1.on hb5, PolAt.on (P := P) Xp.2 hb5⟩
  have Xa : PBox w5 T5 (.slice a1 Q.win.length j1) (.slice a2 Q.main.length j2) (.slice a3 Q.sk.rows.length j3) (.int .i64 Q.sk.added) ∧ PolAt w5 a1 a2 a3 Q w5.heap.size := ⟨Xa.1.on hb5, PolAt.on (P := Q) Xa.2 hb5⟩
  clear hb5 hB4
  obtain ⟨w6, hw6⟩ : ∃ x, w5.alloc (.cells #[.slice b1 Q.win.length k1, .slice b2 Q.main.length k2, .slice b3 Q.sk.rows.length k3, .int .i64 Q.sk.added] 29) = x := ⟨_, rfl⟩
  obtain ⟨T7, hT7⟩ : ∃ x, w5.heap.size = x := ⟨_, rfl⟩
  have hbw6 : Below w5.heap.size w5 w6 := by rw [← hw6]; exact balT _ _
  have Xb : PBox w6 T7 (.slice b1 Q.win.length k1) (.slice b2 Q.main.length k2) (.slice b3 Q.sk.rows.length k3) (.int .i64 Q.sk.added) ∧ PolAt w6 b1 b2 b3 Q w6.heap.size := ⟨by rw [← hw6, ← hT7]; exact PBox.new _ _ _ _ _, PolAt.on (P := Q) hA5 hbw6⟩
  have HWw6 : Hid (w5.alloc (.cells #[.slice b1 Q.win.length k1, .slice b2 Q.main.length k2, .slice b3 Q.sk.rows.length k3, .int .i64 Q.sk.added] 29) = w6) := hw6
  have HTb : Hid (w5.heap.size = T7) := hT7
  have hB6 : Below w.heap.size w w6 := hB5.trans (hbw6.mono hB5.size)
  have Xp : PBox w6 T3 (.slice p1 P.win.length i1) (.slice p2 P.main.length i2) (.slice p3 P.sk.rows.length i3) (.int .i64 P.sk.added) ∧ PolAt w6 p1 p2 p3 P w6.heap.size := ⟨Xp.1.on hbw6, PolAt.on (P := P) Xp.2 hbw6⟩
  have Xa : PBox w6 T5 (.slice a1 Q.win.length j1) (.slice a2 Q.main.length j2) (.slice a3 Q.sk.rows.length j3) (.int .i64 Q.sk.added) ∧ PolAt w6 a1 a2 a3 Q w6.heap.size := ⟨Xa.1.on hbw6, PolAt.on (P := Q) Xa.2 hbw6⟩
  clear hw6 hT7 hbw6 hA5 hB5
  have cD := drawPolicyDrop_any w6 ca n cap (HCD.out w6 hB6) hn
  go_wp2_with fail
  rw [HWw6.out]
  refine cD.mono ?_
  rintro e w7 ⟨x1, x2, x3, l1, l2, l3, X, kk, rfl, hkk, hszX, hSS, hb7⟩
  have hA7 := hSS w7 (fun _ _ => rfl) (Nat.le_refl _)
  rw [HTb.out]
  clear cD hSS
  have hB7 : Below w.heap.size w w7 := hB6.trans (hb7.mono hB6.size)
  have Xp : PBox w7 T3 (.slice p1 P.win.length i1) (.slice p2 P.main.length i2) (.slice p3 P.sk.rows.length i3) (.int .i64 P.sk.added) ∧ PolAt w7 p1 p2 p3 P w7.heap.size := ⟨Xp.1.on hb7, PolAt.on (P := P) Xp.2 hb7⟩
  have Xa : PBox w7 T5 (.slice a1 Q.win.length j1) (.slice a2 Q.main.length j2) (.slice a3 Q.sk.rows.length j3) (.int .i64 Q.sk.added) ∧ PolAt w7 a1 a2 a3 Q w7.heap.size := ⟨Xa.1.on hb7, PolAt.on (P := Q) Xa.2 hb7⟩
  have Xb : PBox w7 T7 (.slice b1 Q.win.length k1) (.slice b2 Q.main.length k2) (.slice b3 Q.sk.rows.length k3) (.int .i64 Q.sk.added) ∧ PolAt w7 b1 b2 b3 Q w7.heap.size := ⟨Xb.1.on hb7, PolAt.on (P := Q) Xb.2 hb7⟩
  clear hb7 hB6
  obtain ⟨w8, hw8⟩ : ∃ x, w7.alloc (.cells #[.slice x1 X.win.length l1, .slice x2 X.main.length l2, .slice x3 X.sk.rows.length l3, .int .i64 X.sk.added] 29) = x := ⟨_, rfl⟩
  obtain ⟨T9, hT9⟩ : ∃ x, w7.heap.size = x := ⟨_, rfl⟩
  have hbw8 : Below w7.heap.size w7 w8 := by rw [← hw8]; exact balT _ _
  have Xx : PBox w8 T9 (.slice x1 X.win.length l1) (.slice x2 X.main.length l2) (.slice x3 X.sk.rows.length l3) (.int .i64 X.sk.added) ∧ PolAt w8 x1 x2 x3 X w8.heap.size := ⟨by rw [← hw8, ← hT9]; exact PBox.new _ _ _ _ _, PolAt.on (P := X) hA7 hbw8⟩
  have HWw8 : Hid (w7.alloc (.cells #[.slice x1 X.win.length l1, .slice x2 X.main.length l2, .slice x3 X.sk.rows.length l3, .int .i64 X.sk.added] 29) = w8) := hw8
  have HTx : Hid (w7.heap.size = T9) := hT9
  have hB8 : Below w.heap.size w w8 := hB7.trans (hbw8.mono hB7.size)
  have Xp : PBox w8 T3 (.slice p1 P.win.length i1) (.slice p2 P.main.length i2) (.slice p3 P.sk.rows.length i3) (.int .i64 P.sk.added) ∧ PolAt w8 p1 p2 p3 P w8.heap.size := ⟨Xp.1.on hbw8, PolAt.on (P := P) Xp.2 hbw8⟩
  have Xa : PBox w8 T5 (.slice a1 Q.win.length j1) (.slice a2 Q.main.length j2) (.slice a3 Q.sk.rows.length j3) (.int .i64 Q.sk.added) ∧ PolAt w8 a1 a2 a3 Q w8.heap.size := ⟨Xa.1.on hbw8, PolAt.on (P := Q) Xa.2 hbw8⟩
  have Xb : PBox w8 T7 (.slice b1 Q.win.length k1) (.slice b2 Q.main.length k2) (.slice b3 Q.sk.rows.length k3) (.int .i64 Q.sk.added) ∧ PolAt w8 b1 b2 b3 Q w8.heap.size := ⟨Xb.1.on hbw8, PolAt.on (P := Q) Xb.2 hbw8⟩
  clear hw8 hT9 hbw8 hA7 hB7
  have cI := implPolicyDrop_any w8 x1 x2 x3 l1 l2 l3 X kk Xx.2 hszX
  have hszD := dropP_sz kk hszX
  have hhD := dropP_has X kk
  have CDr : Hid (∀ W, PolAt W x1 x2 x3 X W.heap.size → Calls Tryd.prog 19 #[.agg #[.slice x1 X.win.length l1, .slice x2 X.main.length l2, .slice x3 X.sk.rows.length l3, .int .i64 X.sk.added], .string kk] W fun e w' => ∃ v, e = .returned v ∧ POwn w' W.heap.size w'.heap.size v (dropP X kk) ∧ Below W.heap.size W w') := fun W h => specPolicyDrop_any W x1 x2 x3 l1 l2 l3 X kk h hszX
  obtain ⟨D, hD⟩ : ∃ D, dropP X kk = D := ⟨_, rfl⟩
  rw [hD] at cI hszD hhD CDr
  clear hD
  obtain ⟨q0, q1, q2, q3⟩ := Xx.1.cells
  rw [← HWw8.out] at q0 q1 q2 q3
  go_wp2_with fail
  rw [HWw8.out]
  refine cI.mono ?_
  rintro e w9 ⟨v9, rfl, ho9, hb9⟩
  obtain ⟨d1, m1, d2, m2, d3, m3, rfl, hA9⟩ := ho9.at
  rw [HTx.out]
  clear cI q0 q1 q2 q3 ho9
  have hB9 : Below w.heap.size w w9 := hB8.trans (hb9.mono hB8.size)
  have Xp : PBox w9 T3 (.slice p1 P.win.length i1) (.slice p2 P.main.length i2) (.slice p3 P.sk.rows.length i3) (.int .i64 P.sk.added) ∧ PolAt w9 p1 p2 p3 P w9.heap.size := ⟨Xp.1.on hb9, PolAt.on (P := P) Xp.2 hb9⟩
  have Xa : PBox w9 T5 (.slice a1 Q.win.length j1) (.slice a2 Q.main.length j2) (.slice a3 Q.sk.rows.length j3) (.int .i64 Q.sk.added) ∧ PolAt w9 a1 a2 a3 Q w9.heap.size := ⟨Xa.1.on hb9, PolAt.on (P := Q) Xa.2 hb9⟩
  have Xb : PBox w9 T7 (.slice b1 Q.win.length k1) (.slice b2 Q.main.length k2) (.slice b3 Q.sk.rows.length k3) (.int .i64 Q.sk.added) ∧ PolAt w9 b1 b2 b3 Q w9.heap.size := ⟨Xb.1.on hb9, PolAt.on (P := Q) Xb.2 hb9⟩
  have Xx : PBox w9 T9 (.slice x1 X.win.length l1) (.slice x2 X.main.length l2) (.slice x3 X.sk.rows.length l3) (.int .i64 X.sk.added) ∧ PolAt w9 x1 x2 x3 X w9.heap.size := ⟨Xx.1.on hb9, PolAt.on (P := X) Xx.2 hb9⟩
  clear hb9 hB8
  obtain ⟨w10, hw10⟩ : ∃ x, w9.alloc (.cells #[.slice d1 D.win.length m1, .slice d2 D.main.length m2, .slice d3 D.sk.rows.length m3, .int .i64 D.sk.added] 29) = x := ⟨_, rfl⟩
  obtain ⟨T11, hT11⟩ : ∃ x, w9.heap.size = x := ⟨_, rfl⟩
  have hbw10 : Below w9.heap.size w9 w10 := by rw [← hw10]; exact balT _ _
  have Xd : PBox w10 T11 (.slice d1 D.win.length m1) (.slice d2 D.main.length m2) (.slice d3 D.sk.rows.length m3) (.int .i64 D.sk.added) ∧ PolAt w10 d1 d2 d3 D w10.heap.size := ⟨by rw [← hw10, ← hT11]; exact PBox.new _ _ _ _ _, PolAt.on (P := D) hA9 hbw10⟩
  have HWw10 : Hid (w9.alloc (.cells #[.slice d1 D.win.length m1, .slice d2 D.main.length m2, .slice d3 D.sk.rows.length m3, .int .i64 D.sk.added] 29) = w10) := hw10
  have HTd : Hid (w9.heap.size = T11) := hT11
  have hB10 : Below w.heap.size w w10 := hB9.trans (hbw10.mono hB9.size)
  have Xp : PBox w10 T3 (.slice p1 P.win.length i1) (.slice p2 P.main.length i2) (.slice p3 P.sk.rows.length i3) (.int .i64 P.sk.added) ∧ PolAt w10 p1 p2 p3 P w10.heap.size := ⟨Xp.1.on hbw10, PolAt.on (P := P) Xp.2 hbw10⟩
  have Xa : PBox w10 T5 (.slice a1 Q.win.length j1) (.slice a2 Q.main.length j2) (.slice a3 Q.sk.rows.length j3) (.int .i64 Q.sk.added) ∧ PolAt w10 a1 a2 a3 Q w10.heap.size := ⟨Xa.1.on hbw10, PolAt.on (P := Q) Xa.2 hbw10⟩
  have Xb : PBox w10 T7 (.slice b1 Q.win.length k1) (.slice b2 Q.main.length k2) (.slice b3 Q.sk.rows.length k3) (.int .i64 Q.sk.added) ∧ PolAt w10 b1 b2 b3 Q w10.heap.size := ⟨Xb.1.on hbw10, PolAt.on (P := Q) Xb.2 hbw10⟩
  have Xx : PBox w10 T9 (.slice x1 X.win.length l1) (.slice x2 X.main.length l2) (.slice x3 X.sk.rows.length l3) (.int .i64 X.sk.added) ∧ PolAt w10 x1 x2 x3 X w10.heap.size := ⟨Xx.1.on hbw10, PolAt.on (P := X) Xx.2 hbw10⟩
  clear hw10 hT11 hbw10 hA9 hB9
  have cN := implPolicyNew_any w10
  go_wp2_with fail
  rw [HWw10.out]
  refine cN.mono ?_
  rintro e w11 ⟨v11, rfl, ho11, hb11⟩
  obtain ⟨n1, o1, n2, o2, n3, o3, rfl, hA11⟩ := ho11.at
  rw [HTd.out]
  clear cN ho11
  have hB11 : Below w.heap.size w w11 := hB10.trans (hb11.mono hB10.size)
  have Xp : PBox w11 T3 (.slice p1 P.win.length i1) (.slice p2 P.main.length i2) (.slice p3 P.sk.rows.length i3) (.int .i64 P.sk.added) ∧ PolAt w11 p1 p2 p3 P w11.heap.size := ⟨Xp.1.on hb11, PolAt.on (P := P) Xp.2 hb11⟩
  have Xa : PBox w11 T5 (.slice a1 Q.win.length j1) (.slice a2 Q.main.length j2) (.slice a3 Q.sk.rows.length j3) (.int .i64 Q.sk.added) ∧ PolAt w11 a1 a2 a3 Q w11.heap.size := ⟨Xa.1.on hb11, PolAt.on (P := Q) Xa.2 hb11⟩
  have Xb : PBox w11 T7 (.slice b1 Q.win.length k1) (.slice b2 Q.main.length k2) (.slice b3 Q.sk.rows.length k3) (.int .i64 Q.sk.added) ∧ PolAt w11 b1 b2 b3 Q w11.heap.size := ⟨Xb.1.on hb11, PolAt.on (P := Q) Xb.2 hb11⟩
  have Xx : PBox w11 T9 (.slice x1 X.win.length l1) (.slice x2 X.main.length l2) (.slice x3 X.sk.rows.length l3) (.int .i64 X.sk.added) ∧ PolAt w11 x1 x2 x3 X w11.heap.size := ⟨Xx.1.on hb11, PolAt.on (P := X) Xx.2 hb11⟩
  have Xd : PBox w11 T11 (.slice d1 D.win.length m1) (.slice d2 D.main.length m2) (.slice d3 D.sk.rows.length m3) (.int .i64 D.sk.added) ∧ PolAt w11 d1 d2 d3 D w11.heap.size := ⟨Xd.1.on hb11, PolAt.on (P := D) Xd.2 hb11⟩
  clear hb11 hB10
  obtain ⟨w12, hw12⟩ : ∃ x, w11.alloc (.cells #[.slice n1 0 o1, .slice n2 0 o2, .slice n3 newP.sk.rows.length o3, .int .i64 newP.sk.added] 29) = x := ⟨_, rfl⟩
  obtain ⟨T12, hT12⟩ : ∃ x, w11.heap.size = x := ⟨_, rfl⟩
  have hbw12 : Below w11.heap.size w11 w12 := by rw [← hw12]; exact balT _ _
  have Xn : PBox w12 T12 (.slice n1 0 o1) (.slice n2 0 o2) (.slice n3 newP.sk.rows.length o3) (.int .i64 newP.sk.added) ∧ PolAt w12 n1 n2 n3 newP w12.heap.size := ⟨by rw [← hw12, ← hT12]; exact PBox.new _ _ _ _ _, PolAt.on (P := newP) hA11 hbw12⟩
  have HWw12 : Hid (w11.alloc (.cells #[.slice n1 newP.win.length o1, .slice n2 newP.main.length o2, .slice n3 newP.sk.rows.length o3, .int .i64 newP.sk.added] 29) = w12) := hw12
  have HTn : Hid (w11.heap.size = T12) := hT12
  have hB12 : Below w.heap.size w w12 := hB11.trans (hbw12.mono hB11.size)
  have Xp : PBox w12 T3 (.slice p1 P.win.length i1) (.slice p2 P.main.length i2) (.slice p3 P.sk.rows.length i3) (.int .i64 P.sk.added) ∧ PolAt w12 p1 p2 p3 P w12.heap.size := ⟨Xp.1.on hbw12, PolAt.on (P := P) Xp.2 hbw12⟩
  have Xa : PBox w12 T5 (.slice a1 Q.win.length j1) (.slice a2 Q.main.length j2) (.slice a3 Q.sk.rows.length j3) (.int .i64 Q.sk.added) ∧ PolAt w12 a1 a2 a3 Q w12.heap.size := ⟨Xa.1.on hbw12, PolAt.on (P := Q) Xa.2 hbw12⟩
  have Xb : PBox w12 T7 (.slice b1 Q.win.length k1) (.slice b2 Q.main.length k2) (.slice b3 Q.sk.rows.length k3) (.int .i64 Q.sk.added) ∧ PolAt w12 b1 b2 b3 Q w12.heap.size := ⟨Xb.1.on hbw12, PolAt.on (P := Q) Xb.2 hbw12⟩
  have Xx : PBox w12 T9 (.slice x1 X.win.length l1) (.slice x2 X.main.length l2) (.slice x3 X.sk.rows.length l3) (.int .i64 X.sk.added) ∧ PolAt w12 x1 x2 x3 X w12.heap.size := ⟨Xx.1.on hbw12, PolAt.on (P := X) Xx.2 hbw12⟩
  have Xd : PBox w12 T11 (.slice d1 D.win.length m1) (.slice d2 D.main.length m2) (.slice d3 D.sk.rows.length m3) (.int .i64 D.sk.added) ∧ PolAt w12 d1 d2 d3 D w12.heap.size := ⟨Xd.1.on hbw12, PolAt.on (P := D) Xd.2 hbw12⟩
  clear hw12 hT12 hbw12 hA11 hB11
  have HON : Hid (∀ W, Below w12.heap.size w12 W → (PBox W T3 (.slice p1 P.win.length i1) (.slice p2 P.main.length i2) (.slice p3 P.sk.rows.length i3) (.int .i64 P.sk.added) ∧ PolAt W p1 p2 p3 P W.heap.size) ∧ (PBox W T5 (.slice a1 Q.win.length j1) (.slice a2 Q.main.length j2) (.slice a3 Q.sk.rows.length j3) (.int .i64 Q.sk.added) ∧ PolAt W a1 a2 a3 Q W.heap.size) ∧ (PBox W T7 (.slice b1 Q.win.length k1) (.slice b2 Q.main.length k2) (.slice b3 Q.sk.rows.length k3) (.int .i64 Q.sk.added) ∧ PolAt W b1 b2 b3 Q W.heap.size) ∧ (PBox W T9 (.slice x1 X.win.length l1) (.slice x2 X.main.length l2) (.slice x3 X.sk.rows.length l3) (.int .i64 X.sk.added) ∧ PolAt W x1 x2 x3 X W.heap.size) ∧ (PBox W T11 (.slice d1 D.win.length m1) (.slice d2 D.main.length m2) (.slice d3 D.sk.rows.length m3) (.int .i64 D.sk.added) ∧ PolAt W d1 d2 d3 D W.heap.size) ∧ (PBox W T12 (.slice n1 0 o1) (.slice n2 0 o2) (.slice n3 newP.sk.rows.length o3) (.int .i64 newP.sk.added) ∧ PolAt W n1 n2 n3 newP W.heap.size) ∧ Below w.heap.size w W) := fun W h => ⟨⟨Xp.1.on h, PolAt.on (P := P) Xp.2 h⟩, ⟨Xa.1.on h, PolAt.on (P := Q) Xa.2 h⟩, ⟨Xb.1.on h, PolAt.on (P := Q) Xb.2 h⟩, ⟨Xx.1.on h, PolAt.on (P := X) Xx.2 h⟩, ⟨Xd.1.on h, PolAt.on (P := D) Xd.2 h⟩, ⟨Xn.1.on h, PolAt.on (P := newP) Xn.2 h⟩, hB12.trans (h.mono hB12.size)⟩
  have KS : ∀ W, Below w12.heap.size w12 W → W.cell? ⟨T3, 0, none⟩ = some (.slice p1 P.win.length i1) ∧ W.cell? ⟨T3, 1, none⟩ = some (.slice p2 P.main.length i2) ∧ W.cell? ⟨T3, 2, none⟩ = some (.slice p3 P.sk.rows.length i3) ∧ W.cell? ⟨T3, 3, none⟩ = some (.int .i64 P.sk.added) ∧ W.cell? ⟨T5, 0, none⟩ = some (.slice a1 Q.win.length j1) ∧ W.cell? ⟨T5, 1, none⟩ = some (.slice a2 Q.main.length j2) ∧ W.cell? ⟨T5, 2, none⟩ = some (.slice a3 Q.sk.rows.length j3) ∧ W.cell? ⟨T5, 3, none⟩ = some (.int .i64 Q.sk.added) ∧ W.cell? ⟨T7, 0, none⟩ = some (.slice b1 Q.win.length k1) ∧ W.cell? ⟨T7, 1, none⟩ = some (.slice b2 Q.main.length k2) ∧ W.cell? ⟨T7, 2, none⟩ = some (.slice b3 Q.sk.rows.length k3) ∧ W.cell? ⟨T7, 3, none⟩ = some (.int .i64 Q.sk.added) ∧ W.cell? ⟨T9, 0, none⟩ = some (.slice x1 X.win.length l1) ∧ W.cell? ⟨T9, 1, none⟩ = some (.slice x2 X.main.length l2) ∧ W.cell? ⟨T9, 2, none⟩ = some (.slice x3 X.sk.rows.length l3) ∧ W.cell? ⟨T9, 3, none⟩ = some (.int .i64 X.sk.added) ∧ W.cell? ⟨T11, 0, none⟩ = some (.slice d1 D.win.length m1) ∧ W.cell? ⟨T11, 1, none⟩ = some (.slice d2 D.main.length m2) ∧ W.cell? ⟨T11, 2, none⟩ = some (.slice d3 D.sk.rows.length m3) ∧ W.cell? ⟨T11, 3, none⟩ = some (.int .i64 D.sk.added) ∧ W.cell? ⟨T12, 0, none⟩ = some (.slice n1 0 o1) ∧ W.cell? ⟨T12, 1, none⟩ = some (.slice n2 0 o2) ∧ W.cell? ⟨T12, 2, none⟩ = some (.slice n3 newP.sk.rows.length o3) ∧ W.cell? ⟨T12, 3, none⟩ = some (.int .i64 newP.sk.added) := fun W h => by
    obtain ⟨⟨h1, _⟩, ⟨h2, _⟩, ⟨h3, _⟩, ⟨h4, _⟩, ⟨h5, _⟩, ⟨h6, _⟩, _⟩ := HON.out W h
    exact ⟨h1.cells.1, h1.cells.2.1, h1.cells.2.2.1, h1.cells.2.2.2, h2.cells.1, h2.cells.2.1, h2.cells.2.2.1, h2.cells.2.2.2, h3.cells.1, h3.cells.2.1, h3.cells.2.2.1, h3.cells.2.2.2, h4.cells.1, h4.cells.2.1, h4.cells.2.2.1, h4.cells.2.2.2, h5.cells.1, h5.cells.2.1, h5.cells.2.2.1, h5.cells.2.2.2, h6.cells.1, h6.cells.2.1, h6.cells.2.2.1, h6.cells.2.2.2⟩
  have PP : ∀ W, Below w12.heap.size w12 W → PolAt W p1 p2 p3 P W.heap.size ∧ PolAt W a1 a2 a3 Q W.heap.size ∧ PolAt W b1 b2 b3 Q W.heap.size ∧ PolAt W x1 x2 x3 X W.heap.size ∧ PolAt W d1 d2 d3 D W.heap.size ∧ PolAt W n1 n2 n3 newP W.heap.size := fun W h => by
    obtain ⟨⟨_, h1⟩, ⟨_, h2⟩, ⟨_, h3⟩, ⟨_, h4⟩, ⟨_, h5⟩, ⟨_, h6⟩, _⟩ := HON.out W h
    exact ⟨h1, h2, h3, h4, h5, h6⟩
  have HKN : Hid (kk.size ≤ 1048576) := by show _ ≤ _; omega
  obtain ⟨okp, hokp⟩ : ∃ q, okP P = q := ⟨_, rfl⟩
  obtain ⟨hx, hhx⟩ : ∃ q, hasP X kk = q := ⟨_, rfl⟩
  have C1 : Hid (∀ W, Below w12.heap.size w12 W → Calls Tryd.prog 11 #[.agg #[.slice a1 Q.win.length j1, .slice a2 Q.main.length j2, .slice a3 Q.sk.rows.length j3, .int .i64 Q.sk.added], .agg #[.slice b1 Q.win.length k1, .slice b2 Q.main.length k2, .slice b3 Q.sk.rows.length k3, .int .i64 Q.sk.added]] W fun e w' => e = .returned (.bool true) ∧ Below w12.heap.size w12 w') := fun W h => by
    refine (samePolicy_same W a1 a2 a3 b1 b2 b3 j1 j2 j3 k1 k2 k3 Q (PP W h).2.1 (PP W h).2.2.1 hszQ).mono ?_
    rintro e w' ⟨he, hb⟩
    exact ⟨he, h.trans (hb.mono h.size)⟩
  have C2 : Hid (∀ W, Below w12.heap.size w12 W → Calls Tryd.prog 12 #[.agg #[.slice p1 P.win.length i1, .slice p2 P.main.length i2, .slice p3 P.sk.rows.length i3, .int .i64 P.sk.added]] W fun e w' => e = .returned (.bool okp) ∧ Below w12.heap.size w12 w') := fun W h => by
    refine (hokp ▸ implPolicyOk_sz W p1 p2 p3 i1 i2 i3 P (PP W h).1 hszP).mono ?_
    rintro e w' ⟨he, hb⟩
    exact ⟨he, h.trans (hb.mono h.size)⟩
  have C3 : Hid (∀ W, Below w12.heap.size w12 W → Calls Tryd.prog 18 #[.agg #[.slice p1 P.win.length i1, .slice p2 P.main.length i2, .slice p3 P.sk.rows.length i3, .int .i64 P.sk.added]] W fun e w' => e = .returned (.bool okp) ∧ Below w12.heap.size w12 w') := fun W h => by
    refine (hokp ▸ specPolicyOk_sz W p1 p2 p3 i1 i2 i3 P (PP W h).1 hszP).mono ?_
    rintro e w' ⟨he, hb⟩
    exact ⟨he, h.trans (hb.mono h.size)⟩
  have C4 : Hid (∀ W, Below w12.heap.size w12 W → Calls Tryd.prog 13 #[.agg #[.slice d1 D.win.length m1, .slice d2 D.main.length m2, .slice d3 D.sk.rows.length m3, .int .i64 D.sk.added], .string kk] W fun e w' => e = .returned (.bool false) ∧ Below w12.heap.size w12 w') := fun W h => by
    refine (hhD ▸ implPolicyHas_sz W d1 d2 d3 m1 m2 m3 D kk (PP W h).2.2.2.2.1 hszD HKN.out).mono ?_
    rintro e w' ⟨he, hb⟩
    exact ⟨he, h.trans (hb.mono h.size)⟩
  have C5 : Hid (∀ W, Below w12.heap.size w12 W → Calls Tryd.prog 19 #[.agg #[.slice x1 X.win.length l1, .slice x2 X.main.length l2, .slice x3 X.sk.rows.length l3, .int .i64 X.sk.added], .string kk] W fun e w' => ∃ y1 z1 y2 z2 y3 z3, e = .returned (.agg #[.slice y1 D.win.length z1, .slice y2 D.main.length z2, .slice y3 D.sk.rows.length z3, .int .i64 D.sk.added]) ∧ PolAt w' y1 y2 y3 D w'.heap.size ∧ Below w12.heap.size w12 w') := fun W h => by
    refine (CDr.out W (PP W h).2.2.2.1).mono ?_
    rintro e w' ⟨v, rfl, ho, hb⟩
    obtain ⟨y1, z1, y2, z2, y3, z3, rfl, hA⟩ := ho.at
    exact ⟨y1, z1, y2, z2, y3, z3, rfl, hA, h.trans (hb.mono h.size)⟩
  have C6 : Hid (∀ W y1 z1 y2 z2 y3 z3, Below w12.heap.size w12 W → PolAt W y1 y2 y3 D W.heap.size → Calls Tryd.prog 11 #[.agg #[.slice d1 D.win.length m1, .slice d2 D.main.length m2, .slice d3 D.sk.rows.length m3, .int .i64 D.sk.added], .agg #[.slice y1 D.win.length z1, .slice y2 D.main.length z2, .slice y3 D.sk.rows.length z3, .int .i64 D.sk.added]] W fun e w' => e = .returned (.bool true) ∧ Below w12.heap.size w12 w') := fun W y1 z1 y2 z2 y3 z3 h hA => by
    refine (samePolicy_same W d1 d2 d3 y1 y2 y3 m1 m2 m3 z1 z2 z3 D (PP W h).2.2.2.2.1 hA hszD).mono ?_
    rintro e w' ⟨he, hb⟩
    exact ⟨he, h.trans (hb.mono h.size)⟩
  have C7 : Hid (∀ W, Below w12.heap.size w12 W → Calls Tryd.prog 13 #[.agg #[.slice x1 X.win.length l1, .slice x2 X.main.length l2, .slice x3 X.sk.rows.length l3, .int .i64 X.sk.added], .string kk] W fun e w' => e = .returned (.bool hx) ∧ Below w12.heap.size w12 w') := fun W h => by
    refine (hhx ▸ implPolicyHas_sz W x1 x2 x3 l1 l2 l3 X kk (PP W h).2.2.2.1 hszX HKN.out).mono ?_
    rintro e w' ⟨he, hb⟩
    exact ⟨he, h.trans (hb.mono h.size)⟩
  have C8 : Hid (∀ W, Below w12.heap.size w12 W → Calls Tryd.prog 20 #[.agg #[.slice x1 X.win.length l1, .slice x2 X.main.length l2, .slice x3 X.sk.rows.length l3, .int .i64 X.sk.added], .string kk] W fun e w' => e = .returned (.bool hx) ∧ Below w12.heap.size w12 w') := fun W h => by
    refine (hhx ▸ specPolicyHas_sz W x1 x2 x3 l1 l2 l3 X kk (PP W h).2.2.2.1 hszX HKN.out).mono ?_
    rintro e w' ⟨he, hb⟩
    exact ⟨he, h.trans (hb.mono h.size)⟩
  have C9 : Hid (∀ W, Below w12.heap.size w12 W → Calls Tryd.prog 12 #[.agg #[.slice n1 0 o1, .slice n2 0 o2, .slice n3 newP.sk.rows.length o3, .int .i64 newP.sk.added]] W fun e w' => e = .returned (.bool true) ∧ Below w12.heap.size w12 w') := fun W h => by
    refine (newP_ok ▸ implPolicyOk_sz W n1 n2 n3 o1 o2 o3 newP (PP W h).2.2.2.2.2 (okP_sz newP_ok)).mono ?_
    rintro e w' ⟨he, hb⟩
    exact ⟨he, h.trans (hb.mono h.size)⟩
  have hdr : Below w12.heap.size w12 w12.drew := ⟨rfl, rfl, rfl, Nat.le_refl _, fun _ _ => rfl⟩
  have HFB : Hid (∀ W, Below w12.heap.size w12 W → Below w.heap.size w W) := fun W h => (HON.out W h).2.2.2.2.2.2
  clear PP CDr HON Xp Xa Xb Xx Xd Xn hB12 hszP hszQ hszX hszD hhD hokp hhx hks hkk HTB HCD HKN
  go_upto_region 9 with fail
  rw [HWw12.out, HTn.out]
  clear HWw12 HTn HWw10 HTd HWw8 HTx HWw6 HTb HWw4 HTa HWw2 HTp
  go_region_held3 (fun W => W.cell? ⟨T3, 0, none⟩ = some (.slice p1 P.win.length i1) ∧ W.cell? ⟨T3, 1, none⟩ = some (.slice p2 P.main.length i2) ∧ W.cell? ⟨T3, 2, none⟩ = some (.slice p3 P.sk.rows.length i3) ∧ W.cell? ⟨T3, 3, none⟩ = some (.int .i64 P.sk.added) ∧ W.cell? ⟨T5, 0, none⟩ = some (.slice a1 Q.win.length j1) ∧ W.cell? ⟨T5, 1, none⟩ = some (.slice a2 Q.main.length j2) ∧ W.cell? ⟨T5, 2, none⟩ = some (.slice a3 Q.sk.rows.length j3) ∧ W.cell? ⟨T5, 3, none⟩ = some (.int .i64 Q.sk.added) ∧ W.cell? ⟨T7, 0, none⟩ = some (.slice b1 Q.win.length k1) ∧ W.cell? ⟨T7, 1, none⟩ = some (.slice b2 Q.main.length k2) ∧ W.cell? ⟨T7, 2, none⟩ = some (.slice b3 Q.sk.rows.length k3) ∧ W.cell? ⟨T7, 3, none⟩ = some (.int .i64 Q.sk.added) ∧ W.cell? ⟨T9, 0, none⟩ = some (.slice x1 X.win.length l1) ∧ W.cell? ⟨T9, 1, none⟩ = some (.slice x2 X.main.length l2) ∧ W.cell? ⟨T9, 2, none⟩ = some (.slice x3 X.sk.rows.length l3) ∧ W.cell? ⟨T9, 3, none⟩ = some (.int .i64 X.sk.added) ∧ W.cell? ⟨T11, 0, none⟩ = some (.slice d1 D.win.length m1) ∧ W.cell? ⟨T11, 1, none⟩ = some (.slice d2 D.main.length m2) ∧ W.cell? ⟨T11, 2, none⟩ = some (.slice d3 D.sk.rows.length m3) ∧ W.cell? ⟨T11, 3, none⟩ = some (.int .i64 D.sk.added) ∧ W.cell? ⟨T12, 0, none⟩ = some (.slice n1 0 o1) ∧ W.cell? ⟨T12, 1, none⟩ = some (.slice n2 0 o2) ∧ W.cell? ⟨T12, 2, none⟩ = some (.slice n3 newP.sk.rows.length o3) ∧ W.cell? ⟨T12, 3, none⟩ = some (.int .i64 newP.sk.added)) (first | with_reducible exact KS _ hdr | with_reducible exact KS _ hC)
    (first
      | (go_at_call 11; first
          | (with_reducible refine (C1.out _ hdr).mono ?_; rintro e u1 ⟨rfl, hC⟩)
          | (with_reducible refine (C6.out _ y1 z1 y2 z2 y3 z3 hC hPS).mono ?_; clear hC; rintro e u6 ⟨rfl, hC⟩))
      | (go_at_call 12; first
          | (with_reducible refine (C2.out _ hC).mono ?_; clear hC; rintro e u2 ⟨rfl, hC⟩)
          | (with_reducible refine (C9.out _ hC).mono ?_; clear hC; rintro e u9 ⟨rfl, hC⟩))
      | (go_at_call 18; with_reducible refine (C3.out _ hC).mono ?_; clear hC; rintro e u3 ⟨rfl, hC⟩)
      | (go_at_call 13; first
          | (with_reducible refine (C4.out _ hC).mono ?_; clear hC; rintro e u4 ⟨rfl, hC⟩)
          | (with_reducible refine (C7.out _ hC).mono ?_; clear hC; rintro e u7 ⟨rfl, hC⟩))
      | (go_at_call 19; with_reducible refine (C5.out _ hC).mono ?_; clear hC; rintro e u5 ⟨y1, z1, y2, z2, y3, z3, rfl, hPS, hC⟩)
      | (go_at_call 20; with_reducible refine (C8.out _ hC).mono ?_; clear hC; rintro e u8 ⟨rfl, hC⟩))
  all_goals (
    try go_wp2_with fail
    go_ret
    exact ⟨by simp, HFB.out _ hC⟩)
end Go.Proofs.YtbcjkinalghokafDoor
