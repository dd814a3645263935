/- The other text's RetireNode. Written by mkepoch.py. -/
import Derived.Test.YtockgojdmaladacEpochCopy2
import Derived.Test.YtockgojdmaladacEpochOkSpec
import Derived.Test.YtockgojdmaladacEpochMore
namespace Go.Proofs.Ytockgojdmaladac
open Go.RowKit Go.Sort
set_option maxRecDepth 100000 in
set_option maxHeartbeats 4000000 in
theorem specRetireNode_any (w : World) (pa ga : Option Addr) (pc gc : Nat) (E : Ep) (node : Int) (hE : EAt w pa ga E w.heap.size) (hm : E.pins.length ≤ 1048576) (hm' : E.gone.length ≤ 1048576) :
    Calls Try.prog 36 #[.agg #[.int .i64 E.now, .slice pa E.pins.length pc, .slice ga E.gone.length gc], .int .i64 node] w fun e w' => ∃ v, e = .returned (.tuple #[v, .bool (retireE E node).2]) ∧ EOwn w' w.heap.size v (retireE E node).1 ∧ Below w.heap.size w w' := by
  obtain ⟨now, pins, gone⟩ := E
  dsimp only at hE hm hm' ⊢
  obtain ⟨w0, hw0⟩ : ∃ x, w.alloc (.cells #[.int .i64 now, .slice pa pins.length pc, .slice ga gone.length gc] 50) = x := ⟨_, rfl⟩
  obtain ⟨w1, hw1⟩ : ∃ x, w0.alloc (.cells #[.int .i64 0, .slice none 0 0, .slice none 0 0] 50) = x := ⟨_, rfl⟩
  have hb0 : Below w.heap.size w w0 := by rw [← hw0]; exact (Below.refl _ _).alloc (Nat.le_refl _) _
  have hb1 : Below w0.heap.size w0 w1 := by rw [← hw1]; exact (Below.refl _ _).alloc (Nat.le_refl _) _
  have s0 : w0.heap.size = w.heap.size + 1 := by rw [← hw0]; simp
  have s1 : w1.heap.size = w.heap.size + 2 := by rw [← hw1]; simp; omega
  have hB : EBox w1 w.heap.size (.int .i64 now) (.slice pa pins.length pc) (.slice ga gone.length gc) := by
    have h : EBox w0 w.heap.size (.int .i64 now) (.slice pa pins.length pc) (.slice ga gone.length gc) := by rw [← hw0]; exact EBox.new _ _ _ _
    exact h.on hb1
  have hR : EBox w1 (w.heap.size + 1) (.int .i64 0) (.slice none 0 0) (.slice none 0 0) := by rw [← hw1, ← s0]; exact EBox.new _ _ _ _
  have hBw : Below w.heap.size w w1 := hb0.trans (hb1.mono hb0.size)
  have HW : Hid ((w.alloc (.cells #[.int .i64 now, .slice pa pins.length pc, .slice ga gone.length gc] 50)).alloc (.cells #[.int .i64 0, .slice none 0 0, .slice none 0 0] 50) = w1) := by rw [hw0]; exact hw1
  have HX : Hid (∀ wi, Below w1.heap.size w1 wi → EBox wi w.heap.size (.int .i64 now) (.slice pa pins.length pc) (.slice ga gone.length gc) ∧ EBox wi (w.heap.size + 1) (.int .i64 0) (.slice none 0 0) (.slice none 0 0) ∧ EAt wi pa ga ⟨now, pins, gone⟩ wi.heap.size ∧ Below w.heap.size w wi) := fun wi hi => ⟨hB.on hi, hR.on hi, (hE.on hBw).on hi, hBw.trans (hi.mono hBw.size)⟩
  have HS1 : Hid (w1.heap.size = w.heap.size + 2) := s1
  have c0 := l08Copy_any w1 pa ga pc gc ⟨now, pins, gone⟩ (hE.on hBw) hm hm'
  obtain ⟨b0, b1, b2⟩ := hB.cells
  clear hw0 hw1 hb0 hb1 hB hR s0 s1 hE hBw
  go_enter Try.func36, Try.ntmps36
  go_wp2_with fail
  rw [HW.out]
  refine c0.mono ?_
  rintro e w2 ⟨v0, rfl, ho, hb2⟩
  obtain ⟨p2, pc2, g2, gc2, rfl, hA2⟩ := ho.at
  clear c0 b0 b1 b2
  dsimp only at hA2 ⊢
  obtain ⟨w3, hw3⟩ : ∃ x, w2.alloc (.cells #[.int .i64 now, .slice p2 pins.length pc2, .slice g2 gone.length gc2] 50) = x := ⟨_, rfl⟩
  have hb3 : Below w2.heap.size w2 w3 := by rw [← hw3]; exact (Below.refl _ _).alloc (Nat.le_refl _) _
  have hb23 : Below w1.heap.size w1 w3 := hb2.trans (hb3.mono hb2.size)
  have hT : EBox w3 w2.heap.size (.int .i64 now) (.slice p2 pins.length pc2) (.slice g2 gone.length gc2) := by rw [← hw3]; exact EBox.new _ _ _ _
  have ho3 := ho.below hb3 (Nat.le_refl _)
  have HW3 : Hid (w2.alloc (.cells #[.int .i64 now, .slice p2 pins.length pc2, .slice g2 gone.length gc2] 50) = w3) := hw3
  obtain ⟨hB3, hR3, hE3, hw3b⟩ := HX.out w3 hb23
  obtain ⟨b0, b1, b2⟩ := hB3.cells
  have hsz : w.heap.size + 2 ≤ w2.heap.size := by rw [← HS1.out]; exact hb2.size
  clear hw3
  have cO := specEpochsOk_any w3 pa ga pc gc ⟨now, pins, gone⟩ hE3 hm hm'
  rw [← HW3.out] at b0 b1 b2
  go_wp2_with fail
  rw [HW3.out] at b0 b1 b2 ⊢
  refine cO.mono ?_
  rintro e w4 ⟨rfl, hb4⟩
  clear cO
  have hb14 : Below w1.heap.size w1 w4 := hb23.trans (hb4.mono hb23.size)
  obtain ⟨hB4, hR4, hE4, hw4b⟩ := HX.out w4 hb14
  have hT4 := hT.on hb4
  have ho4 := ho3.below hb4 (Nat.le_refl _)
  clear b0 b1 b2 hB3 hR3 hE3 hw3b hT ho3 ho hA2 hb3 hb23 hb4 HW3 HW
  obtain ⟨t0, t1, t2⟩ := hT4.cells
  obtain ⟨r0, r1, r2⟩ := hR4.cells
  obtain ⟨f0, f1, f2⟩ := (⟨hR4.thaw 0, hR4.thaw 1, hR4.thaw 2⟩ : _ ∧ _ ∧ _)
  obtain ⟨b0, b1, b2⟩ := hB4.cells
  cases hok : okE ⟨now, pins, gone⟩ with
  | false =>
    have HP : Hid (retireE ⟨now, pins, gone⟩ node = (⟨now, pins, gone⟩, false)) := by show _ = _; unfold retireE; rw [hok]; rfl
    clear hok
    go_wp2_with fail
    obtain ⟨q0, q1, q2⟩ := (hR4.put (.int .i64 now) (.slice p2 pins.length pc2) (.slice g2 gone.length gc2)).cells
    refine bodyPost_ret (v := .tuple #[.agg #[(.int .i64 now), (.slice p2 pins.length pc2), (.slice g2 gone.length gc2)], .bool false]) (by simp [results, Try.results36, go_sem, q0, q1, q2]) rfl ⟨_, by rw [HP.out], ?_, Below.put3 hw4b (by have := HS1.out; omega) _ _ _⟩
    rw [HP.out]
    exact ((ho4).put hR4 _ _ _).mono (by have := HS1.out; omega)
  | true =>
    have hl40 : gone.length ≤ 40 := (okE_len hok).2.1
    have cI := in_any node 1 20 w4
    by_cases hin : 1 ≤ node ∧ node ≤ 20
    case neg =>
      have HP : Hid (retireE ⟨now, pins, gone⟩ node = (⟨now, pins, gone⟩, false)) := by show _ = _; unfold retireE; rw [hok, decide_eq_false hin]; rfl
      rw [show inN node 1 20 = false from decide_eq_false hin] at cI
      clear hok hin
      go_wp2_with fail
      refine cI.mono ?_
      rintro e w5 ⟨rfl, rfl⟩
      clear cI
      go_wp2_with fail
      obtain ⟨q0, q1, q2⟩ := (hR4.put (.int .i64 now) (.slice p2 pins.length pc2) (.slice g2 gone.length gc2)).cells
      refine bodyPost_ret (v := .tuple #[.agg #[(.int .i64 now), (.slice p2 pins.length pc2), (.slice g2 gone.length gc2)], .bool false]) (by simp [results, Try.results36, go_sem, q0, q1, q2]) rfl ⟨_, by rw [HP.out], ?_, Below.put3 hw4b (by have := HS1.out; omega) _ _ _⟩
      rw [HP.out]
      exact ((ho4).put hR4 _ _ _).mono (by have := HS1.out; omega)
    case pos =>
      rw [show inN node 1 20 = true from decide_eq_true hin] at cI
      by_cases h40 : (gone.length : Int) = 40
      case pos =>
        have HP : Hid (retireE ⟨now, pins, gone⟩ node = (⟨now, pins, gone⟩, false)) := by show _ = _; unfold retireE; rw [show decide ((⟨now, pins, gone⟩ : Ep).gone.length = 40) = true from decide_eq_true (by show gone.length = 40; omega)]; simp
        have h40' : ((gone.length : Int) == 40) = true := by simp [h40]
        have h40'' : decide ((gone.length : Int) = 40) = true := decide_eq_true h40
        clear hok hin h40
        go_wp2_with fail
        refine cI.mono ?_
        rintro e w5 ⟨rfl, rfl⟩
        clear cI
        go_wp2_with fail
        obtain ⟨q0, q1, q2⟩ := (hR4.put (.int .i64 now) (.slice p2 pins.length pc2) (.slice g2 gone.length gc2)).cells
        refine bodyPost_ret (v := .tuple #[.agg #[(.int .i64 now), (.slice p2 pins.length pc2), (.slice g2 gone.length gc2)], .bool false]) (by simp [results, Try.results36, go_sem, q0, q1, q2]) rfl ⟨_, by rw [HP.out], ?_, Below.put3 hw4b (by have := HS1.out; omega) _ _ _⟩
        rw [HP.out]
        exact ((ho4).put hR4 _ _ _).mono (by have := HS1.out; omega)
      case neg =>
        have HO : Hid (retireE ⟨now, pins, gone⟩ node = if hasG gone node = true then (⟨now, pins, gone⟩, false) else (⟨now, pins, gone ++ [(node, now)]⟩, true)) := by
          show _ = _
          unfold retireE
          rw [hok, decide_eq_true hin, show decide ((⟨now, pins, gone⟩ : Ep).gone.length = 40) = false from decide_eq_false (by show ¬ gone.length = 40; omega)]
          cases hasG gone node <;> simp
        have h40' : ((gone.length : Int) == 40) = false := by simp [h40]
        have h40'' : decide ((gone.length : Int) = 40) = false := decide_eq_false h40
        have HQ := hE4.2
        obtain ⟨hoP, hoG⟩ := ho4.parts
        have hT9 : ∀ (w' : World), (w4.alloc (.cells #[.int .i64 node, .int .i64 now] 101)).grownBy w' (Value.slice g2 gone.length gc2).ownBlock → EBox w' w2.heap.size (.int .i64 now) (.slice p2 pins.length pc2) (.slice g2 gone.length gc2) ∧ EBox w' (w.heap.size + 1) (.int .i64 0) (.slice none 0 0) (.slice none 0 0) ∧ OwnV w' w1.heap.size 3 (.slice p2 pins.length pc2) (ints pins) ∧ Below w.heap.size w w' := by
          intro w' hg
          have hal : Below w4.heap.size w4 (w4.alloc (.cells #[.int .i64 node, .int .i64 now] 101)) := (Below.refl _ _).alloc (Nat.le_refl _) _
          refine ⟨(hT4.on hal).grownP (hoG.alloc _) hg, (hR4.on hal).grownP (hoG.alloc _) hg, (hoP.alloc _).grown hg (fun k hk e => ownVP_ne hoP hoG k hk e), ?_⟩
          exact (hw4b.alloc hw4b.size _).grown hg (Nat.le_trans hw4b.size (by simp)) (fun k hk => by have := (hoG.lt k hk).1; have := HS1.out; omega)
        have HT9 : Hid _ := hT9
        have hRT : ¬ (w.heap.size + 1 = w2.heap.size) := by omega
        have hTR : ¬ (w2.heap.size = w.heap.size + 1) := by omega
        have HOG : Hid (OwnP w4 w1.heap.size 101 (.slice g2 gone.length gc2) gone ∧ w1.heap.size ≤ w4.heap.size) := ⟨hoG, hb14.size⟩
        clear hok hin h40 hT9 hoG hoP
        go_wp2_with fail
        refine cI.mono ?_
        rintro e w5 ⟨rfl, rfl⟩
        clear cI
        go_wp2_with fail
        go_loopw [7] (fun i wr => Box (∃ k : Nat, k ≤ gone.length ∧ i = .int .i64 k ∧ (∀ q (hq : q < gone.length), q < k → gone[q].1 ≠ node) ∧ wr = w5))
          (fun i _ => gone.length - (intOf i).toNat)
        case atStart => exact ⟨⟨0, by omega, rfl, fun q _ hq => absurd hq (Nat.not_lt_zero _), rfl⟩⟩
        case round =>
          obtain ⟨k, hk, rfl, hno, hwr⟩ := hrel.out
          have HN : Hid (∀ q (hq : q < gone.length), q < k → gone[q].1 ≠ node) := hno
          clear hno hrel
          rw [hwr]
          clear hwr
          by_cases hlt : k < gone.length
          · obtain ⟨gg, offg, hga, _, q0, q1⟩ := HQ k hlt
            obtain ⟨f, hf⟩ : ∃ f, gone[k] = f := ⟨_, rfl⟩
            have HX2 : Hid (gone[k] = f ∧ (k : Int) < (gone.length : Int)) := ⟨hf, by omega⟩
            rw [show (⟨now, pins, gone⟩ : Ep).gone[k] = f from hf] at q0 q1
            have hi1 : (0 : Int) ≤ (k : Int) := by omega
            have hi3 : (k : Int) < (gone.length : Int) := by omega
            subst hga
            clear hf HQ
            by_cases he : f.1 = node
            · have he' : (f.1 == node) = true := by simp [he]
              have he'' : decide (f.1 = node) = true := decide_eq_true he
              have HP : Hid (retireE ⟨now, pins, gone⟩ node = (⟨now, pins, gone⟩, false)) := by show _ = _; rw [HO.out, if_pos (hasG_yes (k := k) (by omega) (by rw [HX2.out.1]; exact he))]
              clear he
              go_wp2_with fail
              obtain ⟨q0, q1, q2⟩ := (hR4.put (.int .i64 now) (.slice p2 pins.length pc2) (.slice g2 gone.length gc2)).cells
              refine bodyPost_ret (v := .tuple #[.agg #[(.int .i64 now), (.slice p2 pins.length pc2), (.slice g2 gone.length gc2)], .bool false]) (by simp [results, Try.results36, go_sem, q0, q1, q2]) rfl ⟨_, by rw [HP.out], ?_, Below.put3 hw4b (by have := HS1.out; omega) _ _ _⟩
              rw [HP.out]
              exact ((ho4).put hR4 _ _ _).mono (by have := HS1.out; omega)
            · have he' : (f.1 == node) = false := by simp [he]
              have he'' : decide (f.1 = node) = false := decide_eq_false he
              have HE : Hid (¬ f.1 = node) := he
              clear he
              go_wp2_with fail
              go_roundw
              case rel =>
                try ((repeat apply Exists.intro); refine ⟨?_, rfl⟩)
                refine ⟨⟨k + 1, by have := HX2.out.2; omega, by go_num, fun q hq hqk => ?_, by first | rfl | trivial⟩⟩
                by_cases e : q = k
                · subst e
                  rw [HX2.out.1]; exact HE.out
                · exact HN.out q hq (by omega)
              case measure => have := HX2.out.2; simp [intOf]; omega
          · have hi3 : ¬ (k : Int) < (gone.length : Int) := by omega
            have HP : Hid (retireE ⟨now, pins, gone⟩ node = (⟨now, pins, gone ++ [(node, now)]⟩, true)) := by show _ = _; rw [HO.out, if_neg (by rw [hasG_no fun q hq => HN.out q hq (by omega)]; simp)]
            have hl : gone.length < 10000000 := by omega
            have hb : w1.heap.size ≤ w5.heap.size := HOG.out.2
            clear hk hlt HQ HN
            go_wp2_with (at_builtin; refine wpList_snocP rfl (.tmp 42) (.tmp 47) 48 rfl w1.heap.size 101 Try.underlying48 Try.infoGo _ _ rfl HOG.out.1 (node, now) _ rfl rfl hl hb ?_; intro v9 w9 hown9 hgr9; obtain ⟨a9, c9, hv9, _⟩ := hown9.at; rw [show (gone ++ [(node, now)]).length = gone.length + 1 by simp] at hv9; subst hv9; obtain ⟨hT9, hR9, hV9, hw9⟩ := HT9.out w9 hgr9; have x2 := hT9.cells.2.2; have xf := hT9.thaw 2; obtain ⟨y0, y1, y2⟩ := (hT9.set2 (.slice a9 (gone.length + 1) c9)).cells; have hR9' := hR9.far 2 (.slice a9 (gone.length + 1) c9) hRT; obtain ⟨z0, z1, z2⟩ := hR9'.cells; obtain ⟨zf0, zf1, zf2⟩ := (⟨hR9'.thaw 0, hR9'.thaw 1, hR9'.thaw 2⟩ : _ ∧ _ ∧ _); have HV9 : Hid (OwnV w9 w1.heap.size 3 (.slice p2 pins.length pc2) (ints pins) ∧ OwnP w9 w1.heap.size 101 (.slice a9 (gone.length + 1) c9) (gone ++ [(node, now)])) := ⟨hV9, hown9⟩; clear hV9 hown9 hgr9)
            have hw9' : Below w.heap.size w (w9.setCell ⟨w2.heap.size, 2, none⟩ (.slice a9 (gone.length + 1) c9)) := hw9.setCell (show w.heap.size ≤ w2.heap.size by omega) _
            have ho9 : EOwn (w9.setCell ⟨w2.heap.size, 2, none⟩ (.slice a9 (gone.length + 1) c9)) w1.heap.size (.agg #[.int .i64 now, .slice p2 pins.length pc2, .slice a9 (gone.length + 1) c9]) ⟨now, pins, gone ++ [(node, now)]⟩ := EOwn.mk (HV9.out.1.far hT9 2 _) (HV9.out.2.far hT9 2 _)
            obtain ⟨q0, q1, q2⟩ := (hR9'.put (.int .i64 now) (.slice p2 pins.length pc2) (.slice a9 (gone.length + 1) c9)).cells
            refine bodyPost_ret (v := .tuple #[.agg #[(.int .i64 now), (.slice p2 pins.length pc2), (.slice a9 (gone.length + 1) c9)], .bool true]) (by simp [results, Try.results36, go_sem, q0, q1, q2]) rfl ⟨_, by rw [HP.out], ?_, Below.put3 hw9' (by have := HS1.out; omega) _ _ _⟩
            rw [HP.out]
            exact ((ho9).put hR9' _ _ _).mono (by have := HS1.out; omega)
end Go.Proofs.Ytockgojdmaladac
