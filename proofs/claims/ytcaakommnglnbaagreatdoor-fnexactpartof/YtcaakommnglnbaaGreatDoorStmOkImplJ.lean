/- Texts that stand in one: StmOkImpl, HeldRight. -/
import Derived.Test.YtcaakommnglnbaaGreatDoorStmBaseJ
import Derived.Lib.QuietBelow
import Derived.BigQuiet
import Derived.Shelf.Abstract
namespace Go.Proofs.YtcaakommnglnbaaGreatDoor
open Go.RowKit Go.Sort

theorem idOk_any (x : Int) (w : World) : Calls Tryz.prog 120 #[.int .i64 x] w fun e w' => e = .returned (.bool (inI x 1 9)) ∧ w' = w := by
  by_cases h1 : x ≥ 1
  · by_cases h2 : x ≤ 9
    · have HP : Hid (inI x 1 9 = true) := by show _ = _; unfold inI; simp; omega
      go_enter Tryz.func120, Tryz.ntmps120
      go_wp2
      go_ret
      exact ⟨by rw [HP.out]; rfl, rfl⟩
    · have HP : Hid (inI x 1 9 = false) := by show _ = _; unfold inI; simp; omega
      go_enter Tryz.func120, Tryz.ntmps120
      go_wp2
      go_ret
      exact ⟨by rw [HP.out]; rfl, rfl⟩
  · have HP : Hid (inI x 1 9 = false) := by show _ = _; unfold inI; simp; omega
    go_enter Tryz.func120, Tryz.ntmps120
    go_wp2
    go_ret
    exact ⟨by rw [HP.out]; rfl, rfl⟩
theorem stateOk_any (x : Int) (w : World) : Calls Tryz.prog 99 #[.int .i64 x] w fun e w' => e = .returned (.bool (inI x 1 3)) ∧ w' = w := by
  by_cases h1 : x = 1
  · subst h1
    go_enter Tryz.func99, Tryz.ntmps99
    go_wp2
    go_ret
    exact ⟨rfl, rfl⟩
  · by_cases h2 : x = 2
    · subst h2
      go_enter Tryz.func99, Tryz.ntmps99
      go_wp2
      go_ret
      exact ⟨rfl, rfl⟩
    · have HP : Hid (inI x 1 3 = (x == 3)) := by
        show _ = _
        unfold inI
        by_cases h3 : x = 3
        · subst h3; rfl
        · rw [decide_eq_false (by omega)]; simp [h3]
      have e1 : (x == 1) = false := by simp [h1]
      have e2 : (x == 2) = false := by simp [h2]
      go_enter Tryz.func99, Tryz.ntmps99
      go_wp2
      go_ret
      exact ⟨by rw [HP.out]; rfl, rfl⟩
set_option maxRecDepth 100000 in
set_option maxHeartbeats 4000000 in
theorem readersOk_any (w : World) (a : Option Addr) (c n : Nat) (rd : List (Int × Int)) (hE : PAt w a rd w.heap.size) (hm : rd.length ≤ 1048577) :
    Calls Tryz.prog 179 #[.slice a rd.length c, .int .i64 (n : Int)] w fun e w' => e = .returned (.bool (decide (rd.length ≤ 6) && rdOkTo n rd rd.length)) ∧ Below w.heap.size w w' := by
  by_cases h6 : rd.length ≤ 6
  · have HO : Hid ((decide (rd.length ≤ 6) && rdOkTo n rd rd.length) = rdOkTo n rd rd.length) := by show _ = _; simp [h6]
    have h6' : ¬ (6 : Int) < (rd.length : Int) := by omega
    clear h6
    go_enter Tryz.func179, Tryz.ntmps179
    go_wp2_with fail
    go_loopw [12] (fun i wr => Box (∃ k : Nat, k ≤ rd.length ∧ i = .int .i64 k ∧ rdOkTo n rd k = true ∧ Below w.heap.size w wr))
      (fun i _ => rd.length - (intOf i).toNat)
    case atStart => exact ⟨⟨0, by omega, rfl, rfl, Below.refl _ _⟩⟩
    case round =>
      obtain ⟨k, hk, rfl, hno, hbr⟩ := hrel.out
      obtain ⟨wo, hwo⟩ : ∃ wo, wo = wr := ⟨_, rfl⟩
      subst hwo
      have HN : Hid (rdOkTo n rd k = true) := hno
      have HP := hE.on hbr
      have HBR : Hid (Below w.heap.size w wo) := hbr
      clear hno hrel hbr
      by_cases hlt : k < rd.length
      · obtain ⟨gg, offg, hga, _, q0, q1⟩ := HP k hlt
        obtain ⟨r, hr⟩ : ∃ r, rd[k] = r := ⟨_, rfl⟩
        have hgd : rd.getD k (0, 0) = r := by simp [List.getD, List.getElem?_eq_getElem hlt, hr]
        rw [hr] at q0 q1
        have hi1 : (0 : Int) ≤ (k : Int) := by omega
        have hi3 : (k : Int) < (rd.length : Int) := by omega
        have HK : Hid ((k : Int) < (rd.length : Int)) := hi3
        have HSu : Hid (rdOkTo n rd (k + 1) = (inI r.1 1 9 && !(decide (0 < k) && decide (r.1 ≤ (rd.getD (k - 1) (0, 0)).1)) && inI r.2 0 n)) := by
          show _ = _
          rw [rdOkTo_succ, HN.out, hgd]; rfl
        subst hga
        obtain ⟨w2, hw2⟩ : ∃ w2, wo.alloc (.cells #[.int .i64 r.1, .int .i64 r.2] 119) = w2 := ⟨_, rfl⟩
        have hb2 : Below wo.heap.size wo w2 := by rw [← hw2]; exact (Below.refl _ _).alloc (Nat.le_refl _) _
        have hRB : w2.heap[wo.heap.size]? = some (.cells #[.int .i64 r.1, .int .i64 r.2] 119 (0, 0)) := by rw [← hw2]; exact heap_alloc_new wo _
        have z0 : w2.cell? ⟨wo.heap.size, 0, none⟩ = some (.int .i64 r.1) := by rw [cell_of_row w2 wo.heap.size 0 _ _ (0, 0) hRB]; rfl
        have z1 : w2.cell? ⟨wo.heap.size, 1, none⟩ = some (.int .i64 r.2) := by rw [cell_of_row w2 wo.heap.size 1 _ _ (0, 0) hRB]; rfl
        have HW2 : Hid (wo.alloc (.cells #[.int .i64 r.1, .int .i64 r.2] 119) = w2) := hw2
        have HB2 : Hid (Below w.heap.size w w2) := HBR.out.trans (hb2.mono HBR.out.size)
        have HPV : Hid (∀ j (hj : j < rd.length), w2.cell? ⟨gg, offg + j * 2, none⟩ = some (.int .i64 rd[j].1)) := fun j hj => by
          obtain ⟨g', o', he, _, h, _⟩ := (HP.on hb2) j hj
          cases he
          exact h
        have cI := idOk_any r.1 w2
        clear hw2 hb2 hRB hr hgd HP
        go_wp2_with fail
        rw [HW2.out]
        refine cI.mono ?_
        rintro e w3 ⟨rfl, rfl⟩
        clear cI
        cases hA1 : inI r.1 1 9 with
        | false =>
          have HPO : Hid (rdOkTo n rd (k + 1) = false) := by show _ = _; rw [HSu.out]; rw [hA1]; rfl
          clear HSu
          go_wp2_with fail
          go_ret
          exact ⟨by rw [HO.out, rdOkTo_down n rd rd.length (by have := HK.out; omega) HPO.out]; rfl, HB2.out⟩
        | true =>
          by_cases hn0 : r.2 < 0
          · have HPO : Hid (rdOkTo n rd (k + 1) = false) := by show _ = _; rw [HSu.out, show inI r.2 0 n = false by unfold inI; exact decide_eq_false (by omega)]; simp
            clear HSu
            go_wp2_with fail
            go_ret
            exact ⟨by rw [HO.out, rdOkTo_down n rd rd.length (by have := HK.out; omega) HPO.out]; rfl, HB2.out⟩
          · by_cases hn1 : (n : Int) < r.2
            · have HPO : Hid (rdOkTo n rd (k + 1) = false) := by show _ = _; rw [HSu.out, show inI r.2 0 n = false by unfold inI; exact decide_eq_false (by omega)]; simp
              clear HSu
              go_wp2_with fail
              go_ret
              exact ⟨by rw [HO.out, rdOkTo_down n rd rd.length (by have := HK.out; omega) HPO.out]; rfl, HB2.out⟩
            · have HS2 : Hid (rdOkTo n rd (k + 1) = !(decide (0 < k) && decide (r.1 ≤ (rd.getD (k - 1) (0, 0)).1))) := by show _ = _; rw [HSu.out, hA1, show inI r.2 0 n = true by unfold inI; exact decide_eq_true (by omega)]; simp
              clear HSu
              by_cases h0 : k = 0
              · have HPO : Hid (rdOkTo n rd (k + 1) = true) := by show _ = _; rw [HS2.out]; simp [h0]
                have hgN : decide (0 < k) = false := decide_eq_false (by omega)
                clear HS2 h0
                go_wp2_with fail
                go_quiet (fail)
                go_wp2_with fail
                go_roundw
                case rel =>
                  try ((repeat apply Exists.intro); refine ⟨?_, rfl⟩)
                  exact ⟨⟨k + 1, by have := HK.out; omega, by go_num, HPO.out, HB2.out.trans ⟨rfl, rfl, rfl, Nat.le_refl _, fun _ _ => rfl⟩⟩⟩
                case measure => have := HK.out; simp [intOf]; omega
              · obtain ⟨j, hkj⟩ : ∃ j, k = j + 1 := ⟨k - 1, by omega⟩
                have z5 := HPV.out j (by omega)
                obtain ⟨x, hx⟩ : ∃ x, rd[j].1 = x := ⟨_, rfl⟩
                have hxd : (rd.getD (k - 1) (0, 0)).1 = x := by rw [← hx, show k - 1 = j by omega]; simp [List.getD, List.getElem?_eq_getElem (show j < rd.length by omega)]
                have HS3 : Hid (rdOkTo n rd (k + 1) = !decide (r.1 ≤ x)) := by show _ = _; rw [HS2.out, hxd, show decide (0 < k) = true from decide_eq_true (by omega)]; rfl
                rw [hx] at z5
                have hgN : decide (0 < k) = true := decide_eq_true (by omega)
                have hg : 0 < k := by omega
                have hjj : (k : Int) - 1 = (j : Int) := by omega
                have hj0 : (0 : Int) ≤ (j : Int) := by omega
                have hj1 : (j : Int) < (rd.length : Int) := by omega
                clear hxd hx hkj h0 HS2
                by_cases hle : r.1 ≤ x
                · have hle' : decide (r.1 ≤ x) = true := decide_eq_true hle
                  have HPO : Hid (rdOkTo n rd (k + 1) = false) := by show _ = _; rw [HS3.out]; simp [hle]
                  clear HS3
                  go_wp2_with fail
                  go_quiet (fail)
                  go_wp2_with fail
                  go_ret
                  exact ⟨by rw [HO.out, rdOkTo_down n rd rd.length (by have := HK.out; omega) HPO.out]; rfl, HB2.out.trans ⟨rfl, rfl, rfl, Nat.le_refl _, fun _ _ => rfl⟩⟩
                · have hle' : decide (r.1 ≤ x) = false := decide_eq_false hle
                  have HPO : Hid (rdOkTo n rd (k + 1) = true) := by show _ = _; rw [HS3.out]; simp [hle]
                  clear HS3
                  go_wp2_with fail
                  go_quiet (fail)
                  go_wp2_with fail
                  go_roundw
                  case rel =>
                    try ((repeat apply Exists.intro); refine ⟨?_, rfl⟩)
                    exact ⟨⟨k + 1, by have := HK.out; omega, by go_num, HPO.out, HB2.out.trans ⟨rfl, rfl, rfl, Nat.le_refl _, fun _ _ => rfl⟩⟩⟩
                  case measure => have := HK.out; simp [intOf]; omega
      · have hi3 : ¬ (k : Int) < (rd.length : Int) := by omega
        have hke : k = rd.length := by omega
        subst hke
        go_wp2_with fail
        go_ret
        exact ⟨by rw [HO.out, HN.out]; rfl, HBR.out⟩
  · have HO : Hid ((decide (rd.length ≤ 6) && rdOkTo n rd rd.length) = false) := by show _ = _; simp [h6]
    have h6' : (6 : Int) < (rd.length : Int) := by omega
    clear h6
    go_enter Tryz.func179, Tryz.ntmps179
    go_wp2_with fail
    go_ret
    exact ⟨by rw [HO.out]; rfl, Below.refl _ _⟩
set_option maxRecDepth 100000 in
set_option maxHeartbeats 4000000 in
theorem implStreamOk_any (w : World) (a : Option Addr) (c : Nat) (S : Stm) (hE : PAt w a S.rd w.heap.size) (ht : S.text.size ≤ 1048576) (hm : S.rd.length ≤ 1048577) :
    Calls Tryz.prog 176 #[.agg #[.int .i64 S.st, .string S.text, .slice a S.rd.length c]] w fun e w' => e = .returned (.bool (okM S)) ∧ Below w.heap.size w w' := by
  obtain ⟨st, t, rd⟩ := S
  dsimp only at hE hm ht ⊢
  obtain ⟨w1, hw1⟩ : ∃ w1, w.alloc (.cells #[.int .i64 st, .string t, .slice a rd.length c] 56) = w1 := ⟨_, rfl⟩
  have hb1 : Below w.heap.size w w1 := by rw [← hw1]; exact (Below.refl _ _).alloc (Nat.le_refl _) _
  have hB1 : MBox w1 w.heap.size (.int .i64 st) (.string t) (.slice a rd.length c) := by rw [← hw1]; exact MBox.new _ _ _ _
  have HW : Hid (w.alloc (.cells #[.int .i64 st, .string t, .slice a rd.length c] 56) = w1) := hw1
  have HB : Hid (Below w.heap.size w w1) := hb1
  have HO : Hid (okM ⟨st, t, rd⟩ = (rdOkTo t.size rd rd.length && (inI st 1 3 && decide (t.size ≤ 400) && decide (rd.length ≤ 6)))) := rfl
  have cS := stateOk_any st w1
  have cR := readersOk_any w1 a c t.size rd (hE.on hb1) hm
  obtain ⟨b0, b1, b2⟩ := hB1.cells
  clear hw1 hE hb1 hB1
  cases hs : inI st 1 3 with
  | false =>
    rw [hs] at cS
    go_enter Tryz.func176, Tryz.ntmps176
    go_wp2_with fail
    rw [HW.out]
    refine cS.mono ?_
    rintro e w2 ⟨rfl, rfl⟩
    go_wp2_with fail
    go_ret
    exact ⟨by rw [HO.out, hs]; simp, HB.out⟩
  | true =>
    rw [hs] at cS
    by_cases h4 : t.size ≤ 400
    · have h4' : (t.size : Int) ≤ 400 := by omega
      go_enter Tryz.func176, Tryz.ntmps176
      go_wp2_with fail
      rw [HW.out]
      refine cS.mono ?_
      rintro e w2 ⟨rfl, rfl⟩
      go_wp2_with fail
      refine cR.mono ?_
      rintro e w3 ⟨rfl, hb3⟩
      go_wp2_with fail
      go_ret
      refine ⟨?_, HB.out.trans (hb3.mono HB.out.size)⟩
      rw [HO.out, hs, decide_eq_true h4]
      cases rdOkTo t.size rd rd.length <;> simp
    · have h4' : ¬ (t.size : Int) ≤ 400 := by omega
      go_enter Tryz.func176, Tryz.ntmps176
      go_wp2_with fail
      rw [HW.out]
      refine cS.mono ?_
      rintro e w2 ⟨rfl, rfl⟩
      go_wp2_with fail
      go_ret
      exact ⟨by rw [HO.out, decide_eq_false h4]; simp, HB.out⟩
end Go.Proofs.YtcaakommnglnbaaGreatDoor

namespace Go.Proofs.YtcaakommnglnbaaGreatDoor
open Go.RowKit Go.Sort Go.MuLone

theorem right_eg : ∀ args w, (callFunc 175 args).run Tryz.prog w = .ok (.enter 175 args) w := enters_of Tryz.func175 (by kernel_rfl) rfl
set_option maxRecDepth 100000 in
set_option maxHeartbeats 4000000 in
theorem right_no (w : World) (B F : Nat) (a : Option Addr) (c : Nat) (S : Stm) (hB : HBox w B 1 S.st S.text (.slice a S.rd.length c)) (hE : PAt w a S.rd w.heap.size) (ht : S.text.size ≤ 1048576) (hm : S.rd.length ≤ 1048577) (hok : okM S = false) :
    Calls Tryz.prog 175 #[.pointer (some ⟨B, 2, none⟩), .pointer (some ⟨F, 0, none⟩)] w fun e w' => e = .returned (.bool false) ∧ Below w.heap.size w w' := by
  have cO := implStreamOk_any w a c S hE ht hm
  obtain ⟨b2, b3, b4⟩ := hB.cells
  rw [hok] at cO
  go_enter Tryz.func175, Tryz.ntmps175
  go_wp2_with fail
  refine cO.mono ?_
  rintro e w2 ⟨rfl, hb2⟩
  go_wp2_with fail
  go_ret
  exact ⟨rfl, hb2⟩
set_option maxRecDepth 100000 in
set_option maxHeartbeats 4000000 in
theorem right_yes (g : Nat) (lb : Array Value) (eg : ∀ args w, (callFunc g args).run Tryz.prog w = .ok (.enter g args) w) (w : World) (B F : Nat) (a : Option Addr) (c : Nat) (S : Stm) (hB : HBox w B 1 S.st S.text (.slice a S.rd.length c)) (hE : PAt w a S.rd w.heap.size) (ht : S.text.size ≤ 1048576) (hm : S.rd.length ≤ 1048577) (hok : okM S = true)
    (hF : ∀ W, Below w.heap.size w W → W.cell? ⟨F, 0, none⟩ = some (.func (.func g) #[] lb)) (R : Bool → World → Prop)
    (hf : ∀ W, Below w.heap.size w W → Calls Tryz.prog g (#[.pointer (some ⟨B, 2, none⟩)] ++ lb) W fun e w' => ∃ ok, e = .returned (.bool ok) ∧ R ok w') :
    Calls Tryz.prog 175 #[.pointer (some ⟨B, 2, none⟩), .pointer (some ⟨F, 0, none⟩)] w fun e w' => ∃ ok, e = .returned (.bool ok) ∧ R ok w' := by
  have cO := implStreamOk_any w a c S hE ht hm
  obtain ⟨b2, b3, b4⟩ := hB.cells
  rw [hok] at cO
  go_enter Tryz.func175, Tryz.ntmps175
  go_wp2_with fail
  refine cO.mono ?_
  rintro e w2 ⟨rfl, hb2⟩
  have f2 := hF w2 hb2
  have c2 := hf w2 hb2
  clear cO hF hf b2 b3 b4 hB hE
  go_wp2_with (go_at_fn g; refine c2.mono ?_; rintro e w3 ⟨ok, rfl, hR⟩)
  go_ret
  exact ⟨ok, rfl, hR⟩
set_option maxRecDepth 100000 in
set_option maxHeartbeats 4000000 in
theorem changeRight_to (G : Ending → World → Prop) (g : Nat) (lb : Array Value) (eg : ∀ args w, (callFunc g args).run Tryz.prog w = .ok (.enter g args) w) (w0 w : World) (B : Nat) (S : Stm) (v : Value) (H : Held w0 B 0 S v w) (ht : S.text.size ≤ 1048576) (hm : S.rd.length ≤ 1048576) (X : Nat → Prop) (hXB : X B) (hX : ∀ k, X k → w0.heap.size ≤ k ∧ k < w.heap.size) (Q : Bool → Stm → World → Prop)
    (hQ : ∀ ok S' W W', Q ok S' W → Tch (fun k => k = B ∨ w.heap.size ≤ k) W W' → Q ok S' W')
    (h0 : okM S = false → Q false S w)
    (hf : okM S = true → ∀ W, Held w0 B 1 S v W → Tch (fun k => k = B) w W → Calls Tryz.prog g (#[.pointer (some ⟨B, 2, none⟩)] ++ lb) W fun e w' => ∃ ok S' v', e = .returned (.bool ok) ∧ Held w0 B 1 S' v' w' ∧ Tch X W w' ∧ Q ok S' w')
    (hG : ∀ ok S' u w', MOwn w' w0.heap.size u S' → Below w0.heap.size w0 w' → Tch X w w' → Q ok S' w' → G (.returned (.tuple #[u, .bool ok])) w') :
    Calls Tryz.prog 171 #[.pointer (some ⟨B, 0, none⟩), .func (.func g) #[] lb] w G := by
  have HG : Hid (∀ ok S' u w', MOwn w' w0.heap.size u S' → Below w0.heap.size w0 w' → Tch X w w' → Q ok S' w' → G (.returned (.tuple #[u, .bool ok])) w') := hG
  clear hG
  obtain ⟨st, t, rd⟩ := S
  dsimp only at ht hm
  obtain ⟨a, c, rfl, _⟩ := H.at
  obtain ⟨w1, hw1⟩ : ∃ x, w.alloc (.cells #[.func (.func g) #[] lb] 213) = x := ⟨_, rfl⟩
  obtain ⟨w2, hw2⟩ : ∃ x, w1.alloc (.cells #[.int .i64 0, .string ⟨#[]⟩, .slice none 0 0] 56) = x := ⟨_, rfl⟩
  have hb1 : Below w.heap.size w w1 := by rw [← hw1]; exact (Below.refl _ _).alloc (Nat.le_refl _) _
  have hb2 : Below w1.heap.size w1 w2 := by rw [← hw2]; exact (Below.refl _ _).alloc (Nat.le_refl _) _
  have s1 : w1.heap.size = w.heap.size + 1 := by rw [← hw1]; simp
  have s2 : w2.heap.size = w.heap.size + 1 + 1 := by rw [← hw2]; simp; omega
  have hbw : Below w.heap.size w w2 := hb1.trans (hb2.mono hb1.size)
  have hF1 : w2.heap[w.heap.size]? = some (.cells #[.func (.func g) #[] lb] 213 (0, 0)) := by
    rw [hb2.block _ (by omega), ← hw1]
    exact heap_alloc_new w _
  have hR2 : MBox w2 (w.heap.size + 1) (.int .i64 0) (.string ⟨#[]⟩) (.slice none 0 0) := by rw [← hw2, ← s1]; exact MBox.new _ _ _ _
  have H2 := H.on hbw
  have HW : Hid ((w.alloc (.cells #[.func (.func g) #[] lb] 213)).alloc (.cells #[.int .i64 0, .string ⟨#[]⟩, .slice none 0 0] 56) = w2) := by rw [hw1]; exact hw2
  have hBw : B < w.heap.size := (hX B hXB).2
  have c0 := change_any 175 #[.pointer (some ⟨w.heap.size, 0, none⟩)] right_eg w2 B st t (.slice a rd.length c) H2.box (fun ok st' t' v' W => ∃ rd', Held w0 B 1 ⟨st', t', rd'⟩ v' W ∧ Tch X w2 W ∧ Q ok ⟨st', t', rd'⟩ W) (by
    intro W hBW hRW hT
    have HWd : Held w0 B 1 ⟨st, t, rd⟩ (.slice a rd.length c) W := ⟨Tch.below H2.below hT H2.below.size (fun k e => by rw [e]; exact H2.hB), H2.hB, hBW, H2.own.kept fun k hk => hT.2 k (H2.own.lt k hk).2 (ownP_notHeld H2.own H2.box k hk)⟩
    obtain ⟨a', c', e', hA⟩ := HWd.at
    cases e'
    have hTw : Tch (fun k => k = B) w W := (Tch.of_below hbw).trans hT
    cases hok : okM ⟨st, t, rd⟩ with
    | false =>
      refine (right_no W B w.heap.size a c ⟨st, t, rd⟩ hBW hA ht (by dsimp only; omega) hok).mono ?_
      rintro e w' ⟨rfl, hb'⟩
      exact ⟨false, st, t, a, rd.length, c, rfl, hBW.on hb', hRW.on hb', rd, HWd.on hb', (hT.weak (fun k e => e ▸ hXB)).trans (Tch.of_below hb'), hQ _ _ _ _ (h0 hok) ((hTw.weak (fun k e => Or.inl e)).trans (Tch.of_below hb'))⟩
    | true =>
      refine (right_yes g lb eg W B w.heap.size a c ⟨st, t, rd⟩ hBW hA ht (by dsimp only; omega) hok ?_ (fun ok w' => ∃ S' v', Held w0 B 1 S' v' w' ∧ Tch X W w' ∧ Q ok S' w') ?_).mono ?_
      · intro W' hW'
        have hb : W'.heap[w.heap.size]? = some (.cells #[.func (.func g) #[] lb] 213 (0, 0)) := by
          rw [hW'.block _ (by have := hT.size; omega), hT.2 _ (by omega) (by omega)]
          exact hF1
        rw [cell_of_row W' w.heap.size 0 _ _ (0, 0) hb]; rfl
      · intro W' hW'
        refine (hf hok W' (HWd.on hW') (hTw.trans (Tch.of_below hW'))).mono ?_
        rintro e w' ⟨ok, S', v', rfl, h1, h2, h3⟩
        exact ⟨ok, rfl, S', v', h1, (Tch.of_below hW').trans h2, h3⟩
      · rintro e w' ⟨ok, rfl, S', v', h1, h2, h3⟩
        obtain ⟨a', c', rfl, _⟩ := h1.at
        exact ⟨ok, S'.st, S'.text, a', S'.rd.length, c', rfl, h1.box, hRW.kept (h2.2 _ hRW.lt (fun e => by have := (hX _ e).2; omega)), S'.rd, h1, (hT.weak (fun k e => e ▸ hXB)).trans h2, h3⟩)
  clear hw1 hw2 hb1 hb2 s1 hF1 H2 hf h0
  go_enter Tryz.func171, Tryz.ntmps171
  go_wp2_with fail
  rw [HW.out]
  refine c0.mono ?_
  rintro e w3 ⟨ok, st', t', v', w2', rfl, ⟨rd', h1, h2, h3⟩, hB2, hM2, hT3, hB3⟩
  obtain ⟨a', c', rfl, _⟩ := h1.at
  dsimp only at h1 h3 hB2 hB3 ⊢
  have hnX : ∀ k, w.heap.size ≤ k → ¬ X k := fun k hk e => by have := (hX k e).2; omega
  have hR3 : MBox w3 (w.heap.size + 1) (.int .i64 0) (.string ⟨#[]⟩) (.slice none 0 0) := (hR2.kept (h2.2 _ hR2.lt (hnX _ (by omega)))).kept (hT3.2 _ (by have := h2.size; omega) (by omega))
  have ho3 : OwnP w3 w0.heap.size 119 (.slice a' rd'.length c') rd' := h1.own.kept fun k hk => hT3.2 k (h1.own.lt k hk).2 (fun e => e.elim (ownP_notHeld h1.own h1.box k hk) (ownP_notBox h1.own hM2 k hk))
  have hb3 : Below w0.heap.size w0 w3 := Tch.below h1.below hT3 h1.below.size (fun k e => by have := H.below.size; have := H.hB; omega)
  have hTX : Tch X w w3 := ⟨((Tch.of_below (S := X) hbw).1.trans h2.1).trans hT3.1, fun k hk hn => (hT3.2 k (by have := h2.size; omega) (fun e => e.elim (fun e => hn (e ▸ hXB)) (fun e => by omega))).trans ((h2.2 k (by omega) hn).trans (hbw.block k hk))⟩
  have hQ3 : Q ok ⟨st', t', rd'⟩ w3 := hQ _ _ _ _ h3 (hT3.weak (fun k e => e.elim Or.inl (fun e => Or.inr (by omega))))
  have HO : Hid (MOwn w3 w0.heap.size (.agg #[.int .i64 st', .string t', .slice a' rd'.length c']) ⟨st', t', rd'⟩ ∧ Below w0.heap.size w0 w3 ∧ Tch X w w3 ∧ Q ok ⟨st', t', rd'⟩ w3) := ⟨⟨_, rfl, ho3⟩, hb3, hTX, hQ3⟩
  obtain ⟨r0, r1, r2⟩ := hR3.cells
  obtain ⟨f0, f1, f2⟩ := (⟨hR3.thaw 0, hR3.thaw 1, hR3.thaw 2⟩ : _ ∧ _ ∧ _)
  have HP : Hid (w0.heap.size ≤ w.heap.size) := H.below.size
  clear ho3 hb3 hTX hQ3 h1 h2 h3 hB2 hM2 hT3 hB3 c0 H hR2
  go_wp2_with fail
  obtain ⟨q0, q1, q2⟩ := (hR3.put (.int .i64 st') (.string t') (.slice a' rd'.length c')).cells
  refine bodyPost_ret (v := .tuple #[.agg #[.int .i64 st', .string t', .slice a' rd'.length c'], .bool ok]) (by simp [results, Tryz.results171, go_sem, q0, q1, q2]) rfl (HG.out ok ⟨st', t', rd'⟩ _ _ (HO.out.1.put3 hR3 _ _ _) (Below.put3M HO.out.2.1 (by have := HP.out; omega) _ _ _) ?_ ?_)
  · exact ⟨HO.out.2.2.1.1.trans ((((Below.refl 0 w3).setCell (Nat.zero_le _) _).setCell (Nat.zero_le _) _).setCell (Nat.zero_le _) _), fun k hk hn => (put3_otherM _ _ _ _ _ k (by omega)).trans (HO.out.2.2.1.2 k hk hn)⟩
  · exact hQ _ _ _ _ HO.out.2.2.2 ⟨(((Below.refl 0 w3).setCell (Nat.zero_le _) _).setCell (Nat.zero_le _) _).setCell (Nat.zero_le _) _, fun k hk hn => put3_otherM _ _ _ _ _ k (fun e => hn (Or.inr (by omega)))⟩
end Go.Proofs.YtcaakommnglnbaaGreatDoor
