/- Who comes out of the window takes a seat, or not: the program's settle. -/
import Derived.Test.YtbcjkinalghokafDoorSamePolJ
import Derived.Test.YtbcjkinalghokafDoorSkGuessImpl
import Derived.Lib.QuietBelow
import Derived.BigQuiet
namespace Go.Proofs.YtbcjkinalghokafDoor
open Go.RowKit Go.Sort

set_option maxRecDepth 100000 in
set_option maxHeartbeats 4000000 in
/-- There is room. -/
theorem settle_room (w : World) (V G lo : Nat) (v1 v2 v3 : Value) (P : Pol) (o key : ByteArray) (h : Seats w V G lo v1 v2 v3 P o) (hm : P.main.length < 4) :
    Calls Tryd.prog 79 #[.pointer (some ⟨V, 0, none⟩), .string key] w fun e w' => e = .returned (.tuple #[]) ∧ ∃ v2', Seats w' V G lo v1 v2' v3 ⟨P.win, P.main ++ [key], P.sk⟩ o ∧ Below G w w' := by
  have HS : Hid (Seats w V G lo v1 v2 v3 P o) := h
  obtain ⟨b0, b1, b2, b3, _⟩ := h.1.cells
  have hlo := h.lo
  have hO2 := h.1.2.2.1
  obtain ⟨a2, k2, rfl, _⟩ := hO2.strsAt
  have hm4 : ¬ ((P.main.length : Int) = 4) := by omega
  have hml : P.main.length ≤ 2000000 := by omega
  have HV : Hid (∀ w', w.grownBy w' (Value.slice a2 P.main.length k2).ownBlock → w'.cell? ⟨V, 1, none⟩ = some (.slice a2 P.main.length k2) ∧ w'.frozen? ⟨V, 1, none⟩ = false) := fun w' hg => ⟨(h.1.var2 seats_ty hg).1, (h.1.var2 seats_ty hg).2 1⟩
  clear h hm
  go_enter Tryd.func79, Tryd.ntmps79
  go_wp2_with (at_builtin; refine wpList_snocS rfl (.tmp 61) (.tmp 63) 24 rfl lo Tryd.underlying24 Tryd.infoSK _ P.main rfl hO2 key rfl hml hlo ?_; intro g cap w' ho' hg' hn'; obtain ⟨q0, q1⟩ := HV.out w' hg')
  have HF := HS.out.main hg' ho' (fun k e => by simp only [Value.ownBlock, Option.some.injEq] at e; subst e; exact hn')
  go_end0
  exact ⟨rfl, _, HF.1, HF.2⟩
set_option maxRecDepth 100000 in
set_option maxHeartbeats 4000000 in
/-- There is none. -/
theorem settle_full (w : World) (V G lo : Nat) (v1 v2 v3 : Value) (P : Pol) (o key m0 : ByteArray) (mr : List ByteArray) (h : Seats w V G lo v1 v2 v3 P o) (hm : P.main.length = 4) (he : P.main = m0 :: mr) (hs : P.sk.rows.length ≤ 1048576) (hk : key.size ≤ 1048576) (hk0 : m0.size ≤ 1048576) (ht : ∀ W, Below G w W → Tab W) :
    Calls Tryd.prog 79 #[.pointer (some ⟨V, 0, none⟩), .string key] w fun e w' => e = .returned (.tuple #[]) ∧ Below G w w' ∧
      ((guessS P.sk key ≤ guessS P.sk m0 ∧ Seats w' V G lo v1 v2 v3 P key) ∨ (guessS P.sk m0 < guessS P.sk key ∧ ∃ v2', Seats w' V G lo v1 v2' v3 ⟨P.win, mr ++ [key], P.sk⟩ m0)) := by
  have HS : Hid (Seats w V G lo v1 v2 v3 P o) := h
  obtain ⟨b0, b1, b2, b3, b4⟩ := h.1.cells
  have hlo := h.lo
  have hGl := h.2.2.1
  have hO2 := h.1.2.2.1
  obtain ⟨a2, k2, rfl, hL2⟩ := hO2.strsAt
  obtain ⟨a3, k3, rfl, hL3⟩ := h.1.2.2.2.2.at
  have hcm : ∃ g, a2 = some ⟨g, 0, none⟩ ∧ w.cell? ⟨g, 0, none⟩ = some (.string m0) := by
    obtain ⟨a', c', e', h'⟩ := hO2.shape
    simp only [Value.slice.injEq] at e'
    obtain ⟨g, e1, e2, _⟩ := h' 0 (by rw [strs_length]; omega)
    rw [← e'.1] at e1
    refine ⟨g, e1, ?_⟩
    rw [e2]
    simp [he, strs]
  obtain ⟨g2, rfl, hcm⟩ := hcm
  have hdel := fun W (hW : OwnV W lo 9 (.slice (some ⟨g2, 0, none⟩) 4 k2) (strs P.main)) => deleteFirst_any W lo _ P.main hW (by omega)
  have HDEL : Hid _ := hdel
  clear hdel
  rw [hm] at b1 hO2 HS
  obtain ⟨x, hx⟩ : ∃ x, guessS P.sk key = x := ⟨_, rfl⟩
  obtain ⟨y, hy⟩ : ∃ y, guessS P.sk m0 = y := ⟨_, rfl⟩
  have bG := fun d os => (below_regrown w d os).mono (show G ≤ w.heap.size by omega)
  have cK : ∀ d os, Calls Tryd.prog 23 #[.agg #[.slice a3 P.sk.rows.length k3, .int .i64 P.sk.added], .string key] (grow (redrawn w d) os) fun e w'' => e = .returned (.int .i64 x) ∧ ∃ p : Regrown, w'' = grow (redrawn w p.d) p.os := fun d os => Calls.regrown_of (by rw [← hx]; exact implSketchGuess_any (grow (redrawn w d) os) a3 k3 P.sk key (hL3.on (below_regrown w d os)) hs hk (ht _ (bG d os)))
  have cM : ∀ d os, Calls Tryd.prog 23 #[.agg #[.slice a3 P.sk.rows.length k3, .int .i64 P.sk.added], .string m0] (grow (redrawn w d) os) fun e w'' => e = .returned (.int .i64 y) ∧ ∃ p : Regrown, w'' = grow (redrawn w p.d) p.os := fun d os => Calls.regrown_of (by rw [← hy]; exact implSketchGuess_any (grow (redrawn w d) os) a3 k3 P.sk m0 (hL3.on (below_regrown w d os)) hs hk0 (ht _ (bG d os)))
  have kb2 := cell_regrown b2
  have kb3 := cell_regrown b3
  have HB : Hid (∀ d os, Below G w (grow (redrawn w d) os)) := bG
  have HT : Hid (P.main = m0 :: mr) := he
  have eg := out_eg
  simp only [List.getElem?_cons_zero] at b4
  unfold outF at b4
  clear h he hL2 hL3 hs hk hk0 ht hlo hGl bG b0
  have HXY : Hid (guessS P.sk key = x ∧ guessS P.sk m0 = y) := ⟨hx, hy⟩
  clear hx hy
  by_cases hg : x ≤ y
  · go_enter Tryd.func79, Tryd.ntmps79
    go_wp2_with fail
    refine wp_region_quiet_below (by kernel_rfl) (by kernel_rfl) ?_
    repeat (first | go_big_quiet_step (first | with_reducible exact cK _ _ | with_reducible exact cM _ _) | quiet_step (first | with_reducible exact cK _ _ | with_reducible exact cM _ _))
    refine wpQuiet_nil ?_
    intro _ hw'
    obtain ⟨⟨dq, osq⟩, hw''⟩ := hw'
    subst hw''
    have S2 : Seats (grow (redrawn w dq) osq) V G lo v1 (.slice (some ⟨g2, 0, none⟩) 4 k2) (.slice a3 P.sk.rows.length k3) P o := Seats.on HS.out (below_regrown w dq osq)
    have B2 : Hid (Below G w (grow (redrawn w dq) osq)) := HB.out dq osq
    obtain ⟨w2, hw2⟩ : ∃ x, grow (redrawn w dq) osq = x := ⟨_, rfl⟩
    show Exit.then _ _ Exit.normal _ (grow (redrawn w dq) osq)
    rw [hw2] at S2 B2 ⊢
    clear hw2 cK cM kb2 kb3 b1 b2 b3 b4 hcm hO2
    obtain ⟨_, c1, _, _, c4⟩ := S2.1.cells
    simp only [List.getElem?_cons_zero] at c4
    unfold outF at c4
    have cO := out_any w2 G key o S2.2.1
    have HF : Hid (Seats (w2.setCell ⟨G, 0, none⟩ (.string key)) V G lo v1 (.slice (some ⟨g2, 0, none⟩) 4 k2) (.slice a3 P.sk.rows.length k3) P key ∧ Below G w (w2.setCell ⟨G, 0, none⟩ (.string key))) := ⟨S2.out key, B2.out.setCell (Nat.le_refl _) _⟩
    have HG : Hid (guessS P.sk key ≤ guessS P.sk m0) := by show _ ≤ _; rw [HXY.out.1, HXY.out.2]; exact hg
    have HL : Hid (P.main.length = 4) := hm
    clear S2 B2
    go_wp2_with (go_at_fn 29; refine cO.mono ?_; rintro e w3 ⟨rfl, rfl⟩)
    refine bodyPost_ret (results_none rfl _ _ _) rfl ⟨rfl, HF.out.2, .inl ⟨HG.out, ?_⟩⟩
    rw [HL.out]
    exact HF.out.1
  · have hg' : ¬ (x ≤ y) := hg
    go_enter Tryd.func79, Tryd.ntmps79
    go_wp2_with fail
    refine wp_region_quiet_below (by kernel_rfl) (by kernel_rfl) ?_
    repeat (first | go_big_quiet_step (first | with_reducible exact cK _ _ | with_reducible exact cM _ _) | quiet_step (first | with_reducible exact cK _ _ | with_reducible exact cM _ _))
    refine wpQuiet_nil ?_
    intro _ hw'
    obtain ⟨⟨dq, osq⟩, hw''⟩ := hw'
    subst hw''
    have S2 : Seats (grow (redrawn w dq) osq) V G lo v1 (.slice (some ⟨g2, 0, none⟩) 4 k2) (.slice a3 P.sk.rows.length k3) P o := Seats.on HS.out (below_regrown w dq osq)
    have B2 : Hid (Below G w (grow (redrawn w dq) osq)) := HB.out dq osq
    obtain ⟨w2, hw2⟩ : ∃ x, grow (redrawn w dq) osq = x := ⟨_, rfl⟩
    show Exit.then _ _ Exit.normal _ (grow (redrawn w dq) osq)
    rw [hw2] at S2 B2 ⊢
    clear hw2 cK cM kb2 kb3 b1 b2 b3 b4 hcm hO2
    obtain ⟨_, c1, _, _, c4⟩ := S2.1.cells
    simp only [List.getElem?_cons_zero] at c4
    unfold outF at c4
    have cD := HDEL.out w2 S2.1.2.2.1
    rw [show P.main.tail = mr by rw [HT.out]; rfl] at cD
    have HG : Hid (guessS P.sk m0 < guessS P.sk key) := by show _ < _; rw [HXY.out.1, HXY.out.2]; omega
    have HS2 : Hid (Seats w2 V G lo v1 (.slice (some ⟨g2, 0, none⟩) 4 k2) (.slice a3 P.sk.rows.length k3) P o) := S2
    have hml : mr.length ≤ 2000000 := by
      have := congrArg List.length HT.out
      rw [hm, List.length_cons] at this
      omega
    clear S2 hm
    go_wp2_with fail
    refine cD.mono ?_
    rintro e w3 ⟨v3', rfl, ho3, hn3, hg3⟩
    obtain ⟨a5, k5, rfl, _⟩ := ho3.strsAt
    have S2 : Seats w2 V G lo v1 (.slice (some ⟨g2, 0, none⟩) 4 k2) (.slice a3 P.sk.rows.length k3) P o := HS2.out
    obtain ⟨q0, qf⟩ := S2.1.var2 seats_ty hg3
    have q1 := qf 1
    obtain ⟨S4, B4⟩ := S2.main hg3 ho3 (fun k e => .inl (by rw [← hn3]; exact e))
    have B4' : Hid (Below G w (w3.setCell ⟨V, 1, none⟩ (.slice a5 mr.length k5))) := B2.out.trans B4
    obtain ⟨w4, hw4⟩ : ∃ x, w3.setCell ⟨V, 1, none⟩ (.slice a5 mr.length k5) = x := ⟨_, rfl⟩
    have HW4 : Hid (w3.setCell ⟨V, 1, none⟩ (.slice a5 mr.length k5) = w4) := hw4
    rw [hw4] at S4 B4'
    obtain ⟨_, _, _, _, d4⟩ := S4.1.cells
    simp only [List.getElem?_cons_zero] at d4
    unfold outF at d4
    have cO := out_any w4 G m0 o S4.2.1
    have S5 := S4.out m0
    have B5 : Hid (Below G w (w4.setCell ⟨G, 0, none⟩ (.string m0))) := B4'.out.setCell (Nat.le_refl _) _
    obtain ⟨w5, hw5⟩ : ∃ x, w4.setCell ⟨G, 0, none⟩ (.string m0) = x := ⟨_, rfl⟩
    have HW5 : Hid (w4.setCell ⟨G, 0, none⟩ (.string m0) = w5) := hw5
    rw [hw5] at S5 B5 cO
    rw [← hw4] at d4
    obtain ⟨_, e1, _, _, _⟩ := S5.1.cells
    have HS5 : Hid (Seats w5 V G lo v1 (.slice a5 mr.length k5) (.slice a3 P.sk.rows.length k3) ⟨P.win, mr, P.sk⟩ m0) := S5
    have hO5 : OwnV w5 lo 9 (.slice a5 mr.length k5) (strs mr) := S5.1.2.2.1
    have hlo5 := S5.lo
    have HV : Hid (∀ w', w5.grownBy w' (Value.slice a5 mr.length k5).ownBlock → w'.cell? ⟨V, 1, none⟩ = some (.slice a5 mr.length k5) ∧ w'.frozen? ⟨V, 1, none⟩ = false) := fun w' hg => ⟨(S5.1.var2 seats_ty hg).1, (S5.1.var2 seats_ty hg).2 1⟩
    clear S2 S4 S5 B4 ho3 hn3 hg3 cD hw4 hw5 qf HS2 B2 B4'
    go_wp2_with (first
      | (go_at_fn 29; rw [HW4.out]; refine cO.mono ?_; rintro e w6 ⟨rfl, hw6⟩; rw [hw6])
      | (at_builtin; refine wpList_snocS rfl (.tmp 61) (.tmp 63) 24 rfl lo Tryd.underlying24 Tryd.infoSK _ mr rfl hO5 key rfl hml hlo5 ?_; intro g cap w7 ho7 hg7 hn7; obtain ⟨u0, u1⟩ := HV.out w7 hg7))
    have S5 : Seats w5 V G lo v1 (.slice a5 mr.length k5) (.slice a3 P.sk.rows.length k3) ⟨P.win, mr, P.sk⟩ m0 := HS5.out
    have HF := S5.main hg7 ho7 (fun k e => by simp only [Value.ownBlock, Option.some.injEq] at e; subst e; exact hn7)
    go_end0
    exact ⟨rfl, B5.out.trans HF.2, .inr ⟨HG.out, _, HF.1⟩⟩
end Go.Proofs.YtbcjkinalghokafDoor
