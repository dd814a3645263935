/- One act on a disk: the other text. -/
import Derived.Test.YtghladeamdhlhalActsPlain
import Derived.Test.YtghladeamdhlhalAtSpec
import Derived.Test.YtghladeamdhlhalDiskSpec
import Derived.Test.YtghladeamdhlhalPutSpec
import Derived.Test.YtghladeamdhlhalWithoutSpec
import Derived.Test.YtghladeamdhlhalLawKit
namespace Go.Proofs.Ytghladeamdhlhal
open Go.RowKit Go.Sort

theorem boxes3s (w : World) (a b c : Obj) : Below w.heap.size w (((w.alloc a).alloc b).alloc c) := (((Below.refl _ w).alloc (Nat.le_refl _) _).alloc (by simp) _).alloc (by simp; omega) _
theorem pos_find {L : List Fil} {nm : ByteArray} {k : Nat} (h : pos L nm = some k) : ∃ hk : k < L.length, L.find? (fun f => eqS f.nm nm) = some L[k] := by
  unfold pos at h
  rw [List.findIdx?_eq_some_iff_getElem] at h
  obtain ⟨hk, he, hn⟩ := h
  refine ⟨hk, ?_⟩
  rw [List.find?_eq_some_iff_getElem]
  exact ⟨he, k, hk, rfl, fun j hj => by simpa using hn j hj⟩
theorem pos_findNone {L : List Fil} {nm : ByteArray} (h : pos L nm = none) : L.find? (fun f => eqS f.nm nm) = none := by
  unfold pos at h
  rw [List.findIdx?_eq_none_iff] at h
  rw [List.find?_eq_none]
  intro f hf
  simp [h f hf]
theorem spA_bad {L : List Fil} {a : Ac} (h : ¬ (dOk L = true ∧ nOk a.nm = true ∧ ¬ (a.kd ≠ 3 ∧ isE a.to = false) ∧ ¬ (a.kd ≠ 1 ∧ isE a.tx = false))) : spA L a = none := by unfold spA; rw [if_neg h]
theorem spA_none {L : List Fil} {a : Ac} (h : spO L a = none) : spA L a = none := by unfold spA; rw [h]; split <;> rfl
theorem spA_some {L X : List Fil} {a : Ac} (h : dOk L = true ∧ nOk a.nm = true ∧ ¬ (a.kd ≠ 3 ∧ isE a.to = false) ∧ ¬ (a.kd ≠ 1 ∧ isE a.tx = false)) (ho : spO L a = some X) : spA L a = if dOk X = true then some X else none := by unfold spA; rw [if_pos h, ho]

set_option maxRecDepth 100000 in
set_option maxHeartbeats 4000000 in
theorem specDoAct_any (w : World) (a : Option Addr) (cap : Nat) (L : List Fil) (kd : Int) (nm tx to : ByteArray) (hL : FAt w a L w.heap.size) (hm : L.length ≤ 1048576) (htx : tx.size ≤ 1048576) :
    Calls Try.prog 10 #[.agg #[.slice a L.length cap], .agg #[.int .i64 kd, .string nm, .string tx, .string to]] w fun e w' => ∃ v, e = .returned (.tuple #[.agg #[v], .bool (spA L ⟨kd, nm, tx, to⟩).isSome]) ∧ OwnF w' w.heap.size 63 v ((spA L ⟨kd, nm, tx, to⟩).getD []) ∧ Below w.heap.size w w' := by
  obtain ⟨wb, hwb⟩ : ∃ wb, ((w.alloc (.cells #[.slice a L.length cap] 31)).alloc (.cells #[.int .i64 kd, .string nm, .string tx, .string to] 35)).alloc (.cells #[.slice none 0 0] 31) = wb := ⟨_, rfl⟩
  have hb : Below w.heap.size w wb := by rw [← hwb]; exact boxes3s _ _ _ _
  have h3 := new3 w (.cells #[.slice a L.length cap] 31) (.cells #[.int .i64 kd, .string nm, .string tx, .string to] 35) (.cells #[.slice none 0 0] 31)
  rw [hwb] at h3
  have HS : Hid (wb.heap.size = w.heap.size + 1 + 1 + 1) := by show _ = _; rw [← hwb]; simp
  have HW : Hid (((w.alloc (.cells #[.slice a L.length cap] 31)).alloc (.cells #[.int .i64 kd, .string nm, .string tx, .string to] 35)).alloc (.cells #[.slice none 0 0] 31) = wb) := hwb
  clear hwb
  have hLb : FAt wb a L wb.heap.size := hL.on hb
  have HC : Hid (∀ wi, Below wb.heap.size wb wi → wi.cell? ⟨w.heap.size, 0, none⟩ = some (.slice a L.length cap) ∧ wi.cell? ⟨w.heap.size + 1, 0, none⟩ = some (.int .i64 kd) ∧ wi.cell? ⟨w.heap.size + 1, 1, none⟩ = some (.string nm) ∧ wi.cell? ⟨w.heap.size + 1, 2, none⟩ = some (.string tx) ∧ wi.cell? ⟨w.heap.size + 1, 3, none⟩ = some (.string to) ∧ wi.cell? ⟨w.heap.size + 1 + 1, 0, none⟩ = some (.slice none 0 0) ∧ wi.frozen? ⟨w.heap.size + 1 + 1, 0, none⟩ = false ∧ Below w.heap.size w wi ∧ w.heap.size + 1 + 1 + 1 ≤ wi.heap.size ∧ FAt wi a L wi.heap.size) := by
    intro wi hi
    have hs := HS.out
    have e0 := (hi.block w.heap.size (by omega)).trans h3.1
    have e1 := (hi.block (w.heap.size + 1) (by omega)).trans h3.2.1
    have e2 := (hi.block (w.heap.size + 1 + 1) (by omega)).trans h3.2.2
    refine ⟨by simp [World.cell?, e0], by simp [World.cell?, e1], by simp [World.cell?, e1], by simp [World.cell?, e1], by simp [World.cell?, e1], by simp [World.cell?, e2], by simp [World.frozen?, e2], bthen hb hi, ?_, hLb.on hi⟩
    have := hi.size
    omega
  have c0 := specDiskOk_any wb a cap L hLb hm
  have cN := fun s w => l03Name_any s w
  obtain ⟨q0, q1, q2, q3, q4, q5, z5, _⟩ := HC.out wb (Below.refl _ _)
  clear hL h3 hLb
  go_enter Try.func10, Try.ntmps10
  go_wp2_with fail
  rw [HW.out]
  refine c0.mono ?_
  rintro e w1 ⟨rfl, hb1⟩
  obtain ⟨p0, p1, p2, p3, p4, p5, y5, hB1, hs1, hL1⟩ := HC.out w1 hb1
  clear c0 q0 q1 q2 q3 q4 q5 z5
  by_cases hgood : dOk L = true ∧ nOk nm = true ∧ ¬ (kd ≠ 3 ∧ isE to = false) ∧ ¬ (kd ≠ 1 ∧ isE tx = false)
  · have hs : (kd = 1 ∧ to.toList.isEmpty = true) ∨ (kd = 3 ∧ tx.toList.isEmpty = true) ∨ (kd ≠ 1 ∧ kd ≠ 3 ∧ tx.toList.isEmpty = true ∧ to.toList.isEmpty = true) := by
      have h3 := hgood.2.2.1
      have h4 := hgood.2.2.2
      unfold isE at h3 h4
      cases h1 : tx.toList.isEmpty <;> cases h2 : to.toList.isEmpty <;> simp [h1, h2] at h3 h4 ⊢ <;> omega
    have cN' := fun w => cN nm w
    rw [hgood.2.1] at cN'
    rw [hgood.1]
    have cP := l03At_any w1 a cap L nm hL1 hm
    have hl30 := dOk_len hgood.1
    have HG : Hid (dOk L = true ∧ nOk nm = true ∧ ¬ (kd ≠ 3 ∧ isE to = false) ∧ ¬ (kd ≠ 1 ∧ isE tx = false)) := hgood
    have HO2 : Hid (∀ (wi : World) (fo : Obj), Below wb.heap.size wb ((wi.alloc fo).alloc (.cells #[.slice none 0 0] 31)) → ∀ w7, Below ((wi.alloc fo).alloc (.cells #[.slice none 0 0] 31)).heap.size ((wi.alloc fo).alloc (.cells #[.slice none 0 0] 31)) w7 → w7.heap[wi.heap.size + 1]? = some (.cells #[.slice none 0 0] 31 (0, 0)) ∧ Below wb.heap.size wb w7) := by
      intro wi fo h0 w7 h7
      have := heap_alloc_new (wi.alloc fo) (.cells #[.slice none 0 0] 31)
      rw [World.size_alloc] at this
      exact ⟨(h7.block _ (by simp)).trans this, bthen h0 h7⟩
    cases hp : pos L nm with
    | none =>
      have hfind := pos_findNone hp
      rw [hp, show posV none = -1 from rfl] at cP
      have HFI : Hid (L.find? (fun f => eqS f.nm nm) = none) := hfind
      have hsk : (kd = 1 ∧ to.toList.isEmpty = true) ∨ (kd ≠ 1 ∧ kd = 3 ∧ tx.toList.isEmpty = true) ∨ (kd ≠ 1 ∧ (kd == 1) = false ∧ (kd != 1) = true ∧ (kd != 3) = true ∧ tx.toList.isEmpty = true ∧ to.toList.isEmpty = true) := by
        rcases hs with h | ⟨h, h'⟩ | ⟨h1, h3, h⟩
        · exact .inl h
        · exact .inr (.inl ⟨by omega, h, h'⟩)
        · exact .inr (.inr ⟨h1, beq_eq_false_iff_ne.2 h1, by simpa using h1, by simpa using h3, h⟩)
      clear hp hfind hgood hs
      rcases hsk with ⟨rfl, h2⟩ | ⟨kn, rfl, h2⟩ | ⟨kn, kb, kb1, kb3, h1, h2⟩
      all_goals
        go_wp2_with (first | (go_at_call 34; refine (cN' _).mono ?_; rintro e w' ⟨rfl, rfl⟩) | fail)
        refine cP.mono ?_
        rintro e w2 ⟨rfl, hb2⟩
        clear cP p0 p1 p2 p3 p4 p5 y5 hL1
        have hb12 := bthen hb1 hb2
        obtain ⟨a0, a1, a2, a3, a4, a5, b5, hB2, hs2, hL2⟩ := HC.out w2 hb12
        obtain ⟨t0, t1, t2, t3, t4, t5, x5, hBf, hsf, hLf⟩ := HC.out (w2.alloc (.cells #[.string nm, .string ⟨#[]⟩, .int .i64 0] 63)) (bplus hb12 _)
        obtain ⟨d0, d1, d2, d3, d4, d5, e5, hBo, hso, hLo⟩ := HC.out ((w2.alloc (.cells #[.string nm, .string ⟨#[]⟩, .int .i64 0] 63)).alloc (.cells #[.slice none 0 0] 31)) (bplus (bplus hb12 _) _)
        clear hL2 hLf
      · obtain ⟨g0, g1, g2, g3, g4, g5, k5, hBg, hsg, hLg⟩ := HC.out ((w2.alloc (.cells #[.string nm, .string (⟨#[]⟩ ++ tx), .int .i64 0] 63)).alloc (.cells #[.slice none 0 0] 31)) (bplus (bplus hb12 _) _)
        have HOX : Hid (spO L ⟨1, nm, tx, to⟩ = some (putL L ⟨nm, ⟨#[]⟩ ++ tx, 0⟩)) := by simp [spO, HFI.out, Hid]
        have cQ := l03Put_any ((w2.alloc (.cells #[.string nm, .string (⟨#[]⟩ ++ tx), .int .i64 0] 63)).alloc (.cells #[.slice none 0 0] 31)) a cap L ⟨nm, ⟨#[]⟩ ++ tx, 0⟩ hLg hm
        clear HFI
        go_wp2_with fail
        refine cQ.mono ?_
        rintro e w7 ⟨v7, rfl, ho7, hb7⟩
        obtain ⟨hO7, hbX⟩ := HO2.out w2 _ (bplus (bplus hb12 _) _) w7 hb7
        have hs7 : w2.heap.size + 2 ≤ w7.heap.size := by have := hb7.size; simp at this; omega
        have ho7' : OwnF w7 (w2.heap.size + 2) 63 v7 (putL L ⟨nm, ⟨#[]⟩ ++ tx, 0⟩) := ho7.mono (by simp)
        have hX : (putL L ⟨nm, ⟨#[]⟩ ++ tx, 0⟩).length ≤ L.length + 1 := putL_len L _
        generalize putL L ⟨nm, ⟨#[]⟩ ++ tx, 0⟩ = X at ho7' HOX hX
        have HY : Hid (spA L ⟨1, nm, tx, to⟩ = if dOk X = true then some X else none) := spA_some HG.out HOX.out
        clear cQ ho7 hb7 d0 d1 d2 d3 d4 d5 e5 hBo hso hLo g0 g1 g2 g3 g4 g5 k5 hBg hsg hLg t0 t1 t2 t3 t4 t5 x5 hBf hsf a0 a1 a2 a3 a4 a5 b5 HOX
        have hb2s : wb.heap.size ≤ w2.heap.size := hb12.size
        obtain ⟨av, cv, rfl, _, _, hA7, _⟩ := ho7'.shape
        have qO : w7.cell? ⟨w2.heap.size + 1, 0, none⟩ = some (.slice none 0 0) := by simp [World.cell?, hO7]
        have zO : w7.frozen? ⟨w2.heap.size + 1, 0, none⟩ = false := by simp [World.frozen?, hO7]
        obtain ⟨w8, hw8⟩ : ∃ w8, w7.setCell ⟨w2.heap.size + 1, 0, none⟩ (.slice av X.length cv) = w8 := ⟨_, rfl⟩
        have hb78 : Below (w2.heap.size + 1) w7 w8 := by rw [← hw8]; exact (Below.refl _ _).setCell (by simp) _
        have q8 : w8.cell? ⟨w2.heap.size + 1, 0, none⟩ = some (.slice av X.length cv) := by rw [← hw8]; exact cell_set_same qO
        have hb8 : Below wb.heap.size wb w8 := hbX.trans (hb78.mono (by omega))
        have ho8 : OwnF w8 (w2.heap.size + 2) 63 (.slice av X.length cv) X := ho7'.kept fun j hj => by
          have := (ho7'.lt j hj).1
          rw [← hw8, heap_setCell_other _ _ _ _ (by simp; omega)]
        have hA8 : FAt w8 av X w8.heap.size := by
          obtain ⟨a', c', e', _, _, hA, _⟩ := ho8.shape
          simp at e'
          rw [e'.1]
          exact hA
        have hs8 : w2.heap.size + 2 ≤ w8.heap.size := by have := hb78.size; omega
        have c8 := specDiskOk_any w8 av cv X hA8 (by omega)
        have HW8 : Hid (w7.setCell ⟨w2.heap.size + 1, 0, none⟩ (.slice av X.length cv) = w8) := hw8
        have HO8 : Hid (OwnF w8 (w2.heap.size + 2) 63 (.slice av X.length cv) X) := ho8
        clear hw8 hA7 hA8 ho7' hO7 hbX hb78 ho8
        go_wp2_with fail
        rw [HW8.out]
        refine c8.mono ?_
        rintro e w9 ⟨rfl, hb9⟩
        obtain ⟨_, _, _, _, _, u5, uz5, hB9, hs9, _⟩ := HC.out w9 (bthen hb8 hb9)
        have q9 : w9.cell? ⟨w2.heap.size + 1, 0, none⟩ = some (.slice av X.length cv) := (hb9.cell (p := ⟨w2.heap.size + 1, 0, none⟩) (by simp; omega)).trans q8
        clear c8 q8 qO zO
        cases hdX : dOk X with
        | false =>
          have HN : Hid (spA L ⟨1, nm, tx, to⟩ = none) := by show _ = _; rw [HY.out, hdX]; simp
          have q5 := cell_set_same (v := .slice none 0 0) u5
          clear hdX HY
          go_wp2
          refine bodyPost_ret (v := .tuple #[.agg #[.slice none 0 0], .bool false]) (by simp [results, Try.results10, go_sem, q5]) rfl ⟨.slice none 0 0, by rw [HN.out]; rfl, ?_, ?_⟩
          · rw [HN.out]; exact OwnF.nil _ _ _
          · exact hB9.setCell (by simp; omega) _
        | true =>
          have HN : Hid (spA L ⟨1, nm, tx, to⟩ = some X) := by show _ = _; rw [HY.out, if_pos hdX]
          have q5 := cell_set_same (v := .slice av X.length cv) u5
          clear hdX HY
          go_wp2
          refine bodyPost_ret (v := .tuple #[.agg #[.slice av X.length cv], .bool true]) (by simp [results, Try.results10, go_sem, q5]) rfl ⟨_, by rw [HN.out]; rfl, ?_, ?_⟩
          · rw [HN.out]
            refine ((HO8.out.below hb9 (Nat.le_refl _)).mono (by have := hb12.size; omega)).kept fun j hj => ?_
            have h1 := (HO8.out.lt j hj).1
            have h2 := HS.out
            have h3 := hb12.size
            rw [heap_setCell_other _ _ _ _ (by simp; omega)]
          · exact hB9.setCell (by simp; omega) _
      · have HA : Hid (spA L ⟨3, nm, tx, to⟩ = none) := spA_none (by simp [spO, HFI.out, kn])
        have q5 := cell_set_same (v := .slice none 0 0) d5
        clear HFI
        go_wp2
        refine bodyPost_ret (v := .tuple #[.agg #[.slice none 0 0], .bool false]) (by simp [results, Try.results10, go_sem, q5]) rfl ⟨.slice none 0 0, by rw [HA.out]; rfl, ?_, ?_⟩
        · rw [HA.out]; exact OwnF.nil _ _ _
        · exact hBo.setCell (by simp; omega) _
      · have HA : Hid (spA L ⟨kd, nm, tx, to⟩ = none) := spA_none (by simp [spO, HFI.out, kn])
        have q5 := cell_set_same (v := .slice none 0 0) d5
        clear HFI
        go_wp2
        refine bodyPost_ret (v := .tuple #[.agg #[.slice none 0 0], .bool false]) (by simp [results, Try.results10, go_sem, q5]) rfl ⟨.slice none 0 0, by rw [HA.out]; rfl, ?_, ?_⟩
        · rw [HA.out]; exact OwnF.nil _ _ _
        · exact hBo.setCell (by simp; omega) _
    | some k =>
      obtain ⟨hk, hfind⟩ := pos_find hp
      rw [hp, show posV (some k) = (k : Int) from rfl] at cP
      have hfo := dOk_at hgood.1 hk
      have hnm0 : L[k].nm = nm := eqS_iff.1 (by simpa using List.find?_some hfind)
      obtain ⟨f, hf⟩ : ∃ f, L[k] = f := ⟨_, rfl⟩
      have HLK : Hid (∀ wi, FAt wi a L wi.heap.size → ∃ g off, a = some ⟨g, off, none⟩ ∧ wi.cell? ⟨g, off + k * 3, none⟩ = some (.string f.nm) ∧ wi.cell? ⟨g, off + k * 3 + 1, none⟩ = some (.string f.tx) ∧ wi.cell? ⟨g, off + k * 3 + 2, none⟩ = some (.int .i64 f.kp)) := by
        intro wi h
        obtain ⟨g, off, h1, _, h2, h3, h4⟩ := h k hk
        rw [hf] at h2 h3 h4
        exact ⟨g, off, h1, h2, h3, h4⟩
      rw [hf] at hfind hfo hnm0
      have hft := fOk_tx hfo
      have hfk := fOk_kp hfo
      have hi1 : (0 : Int) ≤ (k : Int) := by omega
      have hi2 : (k : Int) < (L.length : Int) := by omega
      have HNM : Hid (f.nm = nm) := hnm0
      have HFI : Hid (L.find? (fun f => eqS f.nm nm) = some f) := hfind
      have hsk : (kd = 1 ∧ to.toList.isEmpty = true) ∨ (kd = 3 ∧ tx.toList.isEmpty = true) ∨ (kd ≠ 1 ∧ kd ≠ 3 ∧ (kd == 1) = false ∧ (kd == 3) = false ∧ (kd != 1) = true ∧ (kd != 3) = true ∧ tx.toList.isEmpty = true ∧ to.toList.isEmpty = true) := by
        rcases hs with h | h | ⟨h1, h3, h⟩
        · exact .inl h
        · exact .inr (.inl h)
        · exact .inr (.inr ⟨h1, h3, beq_eq_false_iff_ne.2 h1, beq_eq_false_iff_ne.2 h3, by simpa using h1, by simpa using h3, h⟩)
      clear hp hfind hgood hs hf hfo hnm0
      rcases hsk with ⟨rfl, h2⟩ | ⟨rfl, h2⟩ | ⟨kn1, kn3, kb1, kb3, kc1, kc3, h1, h2⟩
      all_goals
        go_wp2_with (first | (go_at_call 34; refine (cN' _).mono ?_; rintro e w' ⟨rfl, rfl⟩) | fail)
        refine cP.mono ?_
        rintro e w2 ⟨rfl, hb2⟩
        clear cP p0 p1 p2 p3 p4 p5 y5 hL1
        have hb12 := bthen hb1 hb2
        obtain ⟨a0, a1, a2, a3, a4, a5, b5, hB2, hs2, hL2⟩ := HC.out w2 hb12
        obtain ⟨t0, t1, t2, t3, t4, t5, x5, hBf, hsf, hLf⟩ := HC.out (w2.alloc (.cells #[.string nm, .string ⟨#[]⟩, .int .i64 0] 63)) (bplus hb12 _)
        obtain ⟨g, off, rfl, hc0, hc1, hc2⟩ := HLK.out _ hLf
        obtain ⟨d0, d1, d2, d3, d4, d5, e5, hBo, hso, hLo⟩ := HC.out ((w2.alloc (.cells #[.string f.nm, .string f.tx, .int .i64 f.kp] 63)).alloc (.cells #[.slice none 0 0] 31)) (bplus (bplus hb12 _) _)
        clear hL2 hLf
      · obtain ⟨g0, g1, g2, g3, g4, g5, k5, hBg, hsg, hLg⟩ := HC.out ((w2.alloc (.cells #[.string f.nm, .string (f.tx ++ tx), .int .i64 f.kp] 63)).alloc (.cells #[.slice none 0 0] 31)) (bplus (bplus hb12 _) _)
        have HOX : Hid (spO L ⟨1, nm, tx, to⟩ = some (putL L ⟨f.nm, f.tx ++ tx, f.kp⟩)) := by simp [spO, HFI.out, Hid]
        have cQ := l03Put_any ((w2.alloc (.cells #[.string f.nm, .string (f.tx ++ tx), .int .i64 f.kp] 63)).alloc (.cells #[.slice none 0 0] 31)) _ cap L ⟨f.nm, (f.tx ++ tx), f.kp⟩ hLg hm
        clear HFI HNM
        go_wp2_with fail
        refine cQ.mono ?_
        rintro e w7 ⟨v7, rfl, ho7, hb7⟩
        obtain ⟨hO7, hbX⟩ := HO2.out w2 _ (bplus (bplus hb12 _) _) w7 hb7
        have hs7 : w2.heap.size + 2 ≤ w7.heap.size := by have := hb7.size; simp at this; omega
        have ho7' : OwnF w7 (w2.heap.size + 2) 63 v7 (putL L ⟨f.nm, f.tx ++ tx, f.kp⟩) := ho7.mono (by simp)
        have hX : (putL L ⟨f.nm, f.tx ++ tx, f.kp⟩).length ≤ L.length + 1 := putL_len L _
        generalize putL L ⟨f.nm, f.tx ++ tx, f.kp⟩ = X at ho7' HOX hX
        have HY : Hid (spA L ⟨1, nm, tx, to⟩ = if dOk X = true then some X else none) := spA_some HG.out HOX.out
        clear cQ ho7 hb7 d0 d1 d2 d3 d4 d5 e5 hBo hso hLo g0 g1 g2 g3 g4 g5 k5 hBg hsg hLg t0 t1 t2 t3 t4 t5 x5 hBf hsf a0 a1 a2 a3 a4 a5 b5 HOX
        have hb2s : wb.heap.size ≤ w2.heap.size := hb12.size
        obtain ⟨av, cv, rfl, _, _, hA7, _⟩ := ho7'.shape
        have qO : w7.cell? ⟨w2.heap.size + 1, 0, none⟩ = some (.slice none 0 0) := by simp [World.cell?, hO7]
        have zO : w7.frozen? ⟨w2.heap.size + 1, 0, none⟩ = false := by simp [World.frozen?, hO7]
        obtain ⟨w8, hw8⟩ : ∃ w8, w7.setCell ⟨w2.heap.size + 1, 0, none⟩ (.slice av X.length cv) = w8 := ⟨_, rfl⟩
        have hb78 : Below (w2.heap.size + 1) w7 w8 := by rw [← hw8]; exact (Below.refl _ _).setCell (by simp) _
        have q8 : w8.cell? ⟨w2.heap.size + 1, 0, none⟩ = some (.slice av X.length cv) := by rw [← hw8]; exact cell_set_same qO
        have hb8 : Below wb.heap.size wb w8 := hbX.trans (hb78.mono (by omega))
        have ho8 : OwnF w8 (w2.heap.size + 2) 63 (.slice av X.length cv) X := ho7'.kept fun j hj => by
          have := (ho7'.lt j hj).1
          rw [← hw8, heap_setCell_other _ _ _ _ (by simp; omega)]
        have hA8 : FAt w8 av X w8.heap.size := by
          obtain ⟨a', c', e', _, _, hA, _⟩ := ho8.shape
          simp at e'
          rw [e'.1]
          exact hA
        have hs8 : w2.heap.size + 2 ≤ w8.heap.size := by have := hb78.size; omega
        have c8 := specDiskOk_any w8 av cv X hA8 (by omega)
        have HW8 : Hid (w7.setCell ⟨w2.heap.size + 1, 0, none⟩ (.slice av X.length cv) = w8) := hw8
        have HO8 : Hid (OwnF w8 (w2.heap.size + 2) 63 (.slice av X.length cv) X) := ho8
        clear hw8 hA7 hA8 ho7' hO7 hbX hb78 ho8
        go_wp2_with fail
        rw [HW8.out]
        refine c8.mono ?_
        rintro e w9 ⟨rfl, hb9⟩
        obtain ⟨_, _, _, _, _, u5, uz5, hB9, hs9, _⟩ := HC.out w9 (bthen hb8 hb9)
        have q9 : w9.cell? ⟨w2.heap.size + 1, 0, none⟩ = some (.slice av X.length cv) := (hb9.cell (p := ⟨w2.heap.size + 1, 0, none⟩) (by simp; omega)).trans q8
        clear c8 q8 qO zO
        cases hdX : dOk X with
        | false =>
          have HN : Hid (spA L ⟨1, nm, tx, to⟩ = none) := by show _ = _; rw [HY.out, hdX]; simp
          have q5 := cell_set_same (v := .slice none 0 0) u5
          clear hdX HY
          go_wp2
          refine bodyPost_ret (v := .tuple #[.agg #[.slice none 0 0], .bool false]) (by simp [results, Try.results10, go_sem, q5]) rfl ⟨.slice none 0 0, by rw [HN.out]; rfl, ?_, ?_⟩
          · rw [HN.out]; exact OwnF.nil _ _ _
          · exact hB9.setCell (by simp; omega) _
        | true =>
          have HN : Hid (spA L ⟨1, nm, tx, to⟩ = some X) := by show _ = _; rw [HY.out, if_pos hdX]
          have q5 := cell_set_same (v := .slice av X.length cv) u5
          clear hdX HY
          go_wp2
          refine bodyPost_ret (v := .tuple #[.agg #[.slice av X.length cv], .bool true]) (by simp [results, Try.results10, go_sem, q5]) rfl ⟨_, by rw [HN.out]; rfl, ?_, ?_⟩
          · rw [HN.out]
            refine ((HO8.out.below hb9 (Nat.le_refl _)).mono (by have := hb12.size; omega)).kept fun j hj => ?_
            have h1 := (HO8.out.lt j hj).1
            have h2 := HS.out
            have h3 := hb12.size
            rw [heap_setCell_other _ _ _ _ (by simp; omega)]
          · exact hB9.setCell (by simp; omega) _
      · have cT := fun w => cN to w
        by_cases hw : f.kp < f.tx.size
        · have HA : Hid (spA L ⟨3, nm, tx, to⟩ = none) := spA_none (by simp [spO, HFI.out, hw])
          clear HFI
          have q5 := cell_set_same (v := .slice none 0 0) d5
          go_wp2_with (first | (go_at_call 34; refine (cT _).mono ?_; rintro e w' ⟨rfl, rfl⟩) | fail)
          refine bodyPost_ret (v := .tuple #[.agg #[.slice none 0 0], .bool false]) (by simp [results, Try.results10, go_sem, q5]) rfl ⟨.slice none 0 0, by rw [HA.out]; rfl, ?_, ?_⟩
          · rw [HA.out]; exact OwnF.nil _ _ _
          · exact hBo.setCell (by simp; omega) _
        · have hkw : f.kp = f.tx.size := by omega
          cases he : (to.toList == nm.toList) with
          | true =>
            have HA : Hid (spA L ⟨3, nm, tx, to⟩ = none) := spA_none (by simp [spO, HFI.out, show eqS to nm = true from he])
            clear HFI hkw
            have q5 := cell_set_same (v := .slice none 0 0) d5
            go_wp2_with (first | (go_at_call 34; refine (cT _).mono ?_; rintro e w' ⟨rfl, rfl⟩) | fail)
            refine bodyPost_ret (v := .tuple #[.agg #[.slice none 0 0], .bool false]) (by simp [results, Try.results10, go_sem, q5]) rfl ⟨.slice none 0 0, by rw [HA.out]; rfl, ?_, ?_⟩
            · rw [HA.out]; exact OwnF.nil _ _ _
            · exact hBo.setCell (by simp; omega) _
          | false =>
            cases hno : nOk to with
            | false =>
              have HA : Hid (spA L ⟨3, nm, tx, to⟩ = none) := spA_none (by simp [spO, HFI.out, hno])
              rw [hno] at cT
              clear HFI hkw hno
              have q5 := cell_set_same (v := .slice none 0 0) d5
              go_wp2_with (first | (go_at_call 34; refine (cT _).mono ?_; rintro e w' ⟨rfl, rfl⟩) | fail)
              refine bodyPost_ret (v := .tuple #[.agg #[.slice none 0 0], .bool false]) (by simp [results, Try.results10, go_sem, q5]) rfl ⟨.slice none 0 0, by rw [HA.out]; rfl, ?_, ?_⟩
              · rw [HA.out]; exact OwnF.nil _ _ _
              · exact hBo.setCell (by simp; omega) _
            | true =>
              rw [hno] at cT
              have HOX : Hid (spO L ⟨3, nm, tx, to⟩ = some (putL (woL L nm) ⟨to, f.tx, f.kp⟩)) := by simp [spO, HFI.out, Hid, hno, hw, show eqS to nm = false from he]
              clear HFI hkw hno
              go_wp2_with (first | (go_at_call 34; refine (cT _).mono ?_; rintro e w' ⟨rfl, rfl⟩) | fail)
              obtain ⟨g0, g1, g2, g3, g4, g5, k5, hBg, hsg, hLg⟩ := HC.out ((w2.alloc (.cells #[.string to, .string f.tx, .int .i64 f.kp] 63)).alloc (.cells #[.slice none 0 0] 31)) (bplus (bplus hb12 _) _)
              have hb6 : Below wb.heap.size wb ((w2.alloc (.cells #[.string to, .string f.tx, .int .i64 f.kp] 63)).alloc (.cells #[.slice none 0 0] 31)) := bplus (bplus hb12 _) _
              have f0 : ((w2.alloc (.cells #[.string to, .string f.tx, .int .i64 f.kp] 63)).alloc (.cells #[.slice none 0 0] 31)).cell? ⟨w2.heap.size, 0, none⟩ = some (.string to) := by simp
              have f1 : ((w2.alloc (.cells #[.string to, .string f.tx, .int .i64 f.kp] 63)).alloc (.cells #[.slice none 0 0] 31)).cell? ⟨w2.heap.size, 1, none⟩ = some (.string f.tx) := by simp
              have f2 : ((w2.alloc (.cells #[.string to, .string f.tx, .int .i64 f.kp] 63)).alloc (.cells #[.slice none 0 0] 31)).cell? ⟨w2.heap.size, 2, none⟩ = some (.int .i64 f.kp) := by simp
              have hO6 : ((w2.alloc (.cells #[.string to, .string f.tx, .int .i64 f.kp] 63)).alloc (.cells #[.slice none 0 0] 31)).heap[w2.heap.size + 1]? = some (.cells #[.slice none 0 0] 31 (0, 0)) := by
                have := heap_alloc_new (w2.alloc (.cells #[.string to, .string f.tx, .int .i64 f.kp] 63)) (.cells #[.slice none 0 0] 31)
                rwa [World.size_alloc] at this
              have HS6 : Hid (((w2.alloc (.cells #[.string to, .string f.tx, .int .i64 f.kp] 63)).alloc (.cells #[.slice none 0 0] 31)).heap.size = w2.heap.size + 2) := by show _ = _; simp
              generalize ((w2.alloc (.cells #[.string to, .string f.tx, .int .i64 f.kp] 63)).alloc (.cells #[.slice none 0 0] 31)) = W6 at g0 g1 g2 g3 g4 g5 k5 hBg hsg hLg hb6 f0 f1 f2 hO6 HS6 ⊢
              clear d0 d1 d2 d3 d4 d5 e5 hBo hso hLo t0 t1 t2 t3 t4 t5 x5 hBf hsf a0 a1 a2 a3 a4 a5 b5 hc0 hc1 hc2
              have hYl := woL_len L nm
              have hXl := putL_len (woL L nm) ⟨to, f.tx, f.kp⟩
              obtain ⟨Y, hY⟩ : ∃ Y, woL L nm = Y := ⟨_, rfl⟩
              obtain ⟨X, hX0⟩ : ∃ X, putL Y ⟨to, f.tx, f.kp⟩ = X := ⟨_, rfl⟩
              have hLd : FAt W6.drew _ L W6.drew.heap.size := hLg
              have cW := l03Without_any W6.drew _ cap L nm hLd hm
              have cQ : Hid (∀ (w6 : World) (a6 : Option Addr) (c6 : Nat), FAt w6 a6 Y w6.heap.size → Calls Try.prog 36 #[.agg #[.slice a6 Y.length c6], .agg #[.string to, .string f.tx, .int .i64 f.kp]] w6 fun e w' => ∃ v, e = .returned (.agg #[v]) ∧ OwnF w' w6.heap.size 63 v X ∧ Below w6.heap.size w6 w') := by
                intro w6 a6 c6 h6
                have := l03Put_any w6 a6 c6 Y ⟨to, f.tx, f.kp⟩ h6 (by rw [← hY]; omega)
                rwa [hX0] at this
              rw [hY] at HOX cW hYl hXl
              rw [hX0] at HOX hXl
              have hX : X.length ≤ L.length + 1 := by omega
              clear hY hX0 hXl hYl hLd hLg
              go_region_law (first
                | (go_simp; go_at_call 37; refine cW.mono ?_; rintro e w6 ⟨v6, rfl, ho6, hb6d⟩; obtain ⟨a6, c6, rfl, _, _, hA6, _⟩ := ho6.shape; have hb66 : Below W6.heap.size W6 w6 := (bdrew W6).trans hb6d; have f06 : w6.cell? ⟨w2.heap.size, 0, none⟩ = some (.string to) := (hb66.cell (p := ⟨w2.heap.size, 0, none⟩) (by have := HS6.out; simp; omega)).trans f0; have f16 : w6.cell? ⟨w2.heap.size, 1, none⟩ = some (.string f.tx) := (hb66.cell (p := ⟨w2.heap.size, 1, none⟩) (by have := HS6.out; simp; omega)).trans f1; have f26 : w6.cell? ⟨w2.heap.size, 2, none⟩ = some (.int .i64 f.kp) := (hb66.cell (p := ⟨w2.heap.size, 2, none⟩) (by have := HS6.out; simp; omega)).trans f2; have HA6 : Hid (FAt w6 a6 Y w6.heap.size) := hA6; clear hA6 ho6)
                | (go_simp; go_at_call 36; refine (cQ.out w6 a6 c6 HA6.out).mono ?_; rintro e w7 ⟨v7, rfl, ho7, hb7⟩; have hb67 : Below W6.heap.size W6 w7 := bthen hb66 hb7; have hO7 : w7.heap[w2.heap.size + 1]? = some (.cells #[.slice none 0 0] 31 (0, 0)) := (hb67.block _ (by have := HS6.out; omega)).trans hO6; have qO : w7.cell? ⟨w2.heap.size + 1, 0, none⟩ = some (.slice none 0 0) := (by simp [World.cell?, hO7]); have zO : w7.frozen? ⟨w2.heap.size + 1, 0, none⟩ = false := (by simp [World.frozen?, hO7]); have ho7' : OwnF w7 (w2.heap.size + 2) 63 v7 X := ho7.mono (by have := hb66.size; have := HS6.out; omega); obtain ⟨av, cv, rfl, _⟩ := ho7.shape; clear ho7))
              all_goals (
                have hbX : Below wb.heap.size wb w7 := bthen hb6 hb67
                have hs7 : w2.heap.size + 2 ≤ w7.heap.size := by have := hb67.size; have := HS6.out; omega
                clear cW hb66 hb7 hb67 f0 f1 f2 f06 f16 f26 g0 g1 g2 g3 g4 g5 k5
                have HY : Hid (spA L ⟨3, nm, tx, to⟩ = if dOk X = true then some X else none) := spA_some HG.out HOX.out
                clear HOX
                have hb2s : wb.heap.size ≤ w2.heap.size := hb12.size
                obtain ⟨w8, hw8⟩ : ∃ w8, w7.setCell ⟨w2.heap.size + 1, 0, none⟩ (.slice av X.length cv) = w8 := ⟨_, rfl⟩
                have hb78 : Below (w2.heap.size + 1) w7 w8 := by rw [← hw8]; exact (Below.refl _ _).setCell (by simp) _
                have q8 : w8.cell? ⟨w2.heap.size + 1, 0, none⟩ = some (.slice av X.length cv) := by rw [← hw8]; exact cell_set_same qO
                have hb8 : Below wb.heap.size wb w8 := hbX.trans (hb78.mono (by omega))
                have ho8 : OwnF w8 (w2.heap.size + 2) 63 (.slice av X.length cv) X := ho7'.kept fun j hj => by
                  have := (ho7'.lt j hj).1
                  rw [← hw8, heap_setCell_other _ _ _ _ (by simp; omega)]
                have hA8 : FAt w8 av X w8.heap.size := by
                  obtain ⟨a', c', e', _, _, hA, _⟩ := ho8.shape
                  simp at e'
                  rw [e'.1]
                  exact hA
                have hs8 : w2.heap.size + 2 ≤ w8.heap.size := by have := hb78.size; omega
                have c8 := specDiskOk_any w8 av cv X hA8 (by omega)
                have HW8 : Hid (w7.setCell ⟨w2.heap.size + 1, 0, none⟩ (.slice av X.length cv) = w8) := hw8
                have HO8 : Hid (OwnF w8 (w2.heap.size + 2) 63 (.slice av X.length cv) X) := ho8
                clear hw8 hA8 ho7' hO7 hbX hb78 ho8
                go_wp2_with fail
                rw [HW8.out]
                refine c8.mono ?_
                rintro e w9 ⟨rfl, hb9⟩
                obtain ⟨_, _, _, _, _, u5, uz5, hB9, hs9, _⟩ := HC.out w9 (bthen hb8 hb9)
                have q9 : w9.cell? ⟨w2.heap.size + 1, 0, none⟩ = some (.slice av X.length cv) := (hb9.cell (p := ⟨w2.heap.size + 1, 0, none⟩) (by simp; omega)).trans q8
                clear c8 q8 qO zO
                cases hdX : dOk X with
                | false =>
                  have HN : Hid (spA L ⟨3, nm, tx, to⟩ = none) := by show _ = _; rw [HY.out, hdX]; simp
                  have q5 := cell_set_same (v := .slice none 0 0) u5
                  clear hdX HY
                  go_wp2
                  refine bodyPost_ret (v := .tuple #[.agg #[.slice none 0 0], .bool false]) (by simp [results, Try.results10, go_sem, q5]) rfl ⟨.slice none 0 0, by rw [HN.out]; rfl, ?_, ?_⟩
                  · rw [HN.out]; exact OwnF.nil _ _ _
                  · exact hB9.setCell (by simp; omega) _
                | true =>
                  have HN : Hid (spA L ⟨3, nm, tx, to⟩ = some X) := by show _ = _; rw [HY.out, if_pos hdX]
                  have q5 := cell_set_same (v := .slice av X.length cv) u5
                  clear hdX HY
                  go_wp2
                  refine bodyPost_ret (v := .tuple #[.agg #[.slice av X.length cv], .bool true]) (by simp [results, Try.results10, go_sem, q5]) rfl ⟨_, by rw [HN.out]; rfl, ?_, ?_⟩
                  · rw [HN.out]
                    refine ((HO8.out.below hb9 (Nat.le_refl _)).mono (by have := hb12.size; omega)).kept fun j hj => ?_
                    have h1 := (HO8.out.lt j hj).1
                    have h2 := HS.out
                    have h3 := hb12.size
                    rw [heap_setCell_other _ _ _ _ (by simp; omega)]
                  · exact hB9.setCell (by simp; omega) _)
      · by_cases k2 : kd = 2
        · subst k2
          obtain ⟨g0, g1, g2, g3, g4, g5, k5, hBg, hsg, hLg⟩ := HC.out ((w2.alloc (.cells #[.string f.nm, .string f.tx, .int .i64 (f.tx.size : Int)] 63)).alloc (.cells #[.slice none 0 0] 31)) (bplus (bplus hb12 _) _)
          have HOX : Hid (spO L ⟨2, nm, tx, to⟩ = some (putL L ⟨f.nm, f.tx, f.tx.size⟩)) := by simp [spO, HFI.out, Hid]
          have cQ := l03Put_any ((w2.alloc (.cells #[.string f.nm, .string f.tx, .int .i64 (f.tx.size : Int)] 63)).alloc (.cells #[.slice none 0 0] 31)) _ cap L ⟨f.nm, f.tx, (f.tx.size : Int)⟩ hLg hm
          clear HFI HNM
          go_wp2_with fail
          refine cQ.mono ?_
          rintro e w7 ⟨v7, rfl, ho7, hb7⟩
          obtain ⟨hO7, hbX⟩ := HO2.out w2 _ (bplus (bplus hb12 _) _) w7 hb7
          have hs7 : w2.heap.size + 2 ≤ w7.heap.size := by have := hb7.size; simp at this; omega
          have ho7' : OwnF w7 (w2.heap.size + 2) 63 v7 (putL L ⟨f.nm, f.tx, f.tx.size⟩) := ho7.mono (by simp)
          have hX : (putL L ⟨f.nm, f.tx, f.tx.size⟩).length ≤ L.length + 1 := putL_len L _
          generalize putL L ⟨f.nm, f.tx, f.tx.size⟩ = X at ho7' HOX hX
          have HY : Hid (spA L ⟨2, nm, tx, to⟩ = if dOk X = true then some X else none) := spA_some HG.out HOX.out
          clear cQ ho7 hb7 d0 d1 d2 d3 d4 d5 e5 hBo hso hLo g0 g1 g2 g3 g4 g5 k5 hBg hsg hLg t0 t1 t2 t3 t4 t5 x5 hBf hsf a0 a1 a2 a3 a4 a5 b5 HOX
          have hb2s : wb.heap.size ≤ w2.heap.size := hb12.size
          obtain ⟨av, cv, rfl, _, _, hA7, _⟩ := ho7'.shape
          have qO : w7.cell? ⟨w2.heap.size + 1, 0, none⟩ = some (.slice none 0 0) := by simp [World.cell?, hO7]
          have zO : w7.frozen? ⟨w2.heap.size + 1, 0, none⟩ = false := by simp [World.frozen?, hO7]
          obtain ⟨w8, hw8⟩ : ∃ w8, w7.setCell ⟨w2.heap.size + 1, 0, none⟩ (.slice av X.length cv) = w8 := ⟨_, rfl⟩
          have hb78 : Below (w2.heap.size + 1) w7 w8 := by rw [← hw8]; exact (Below.refl _ _).setCell (by simp) _
          have q8 : w8.cell? ⟨w2.heap.size + 1, 0, none⟩ = some (.slice av X.length cv) := by rw [← hw8]; exact cell_set_same qO
          have hb8 : Below wb.heap.size wb w8 := hbX.trans (hb78.mono (by omega))
          have ho8 : OwnF w8 (w2.heap.size + 2) 63 (.slice av X.length cv) X := ho7'.kept fun j hj => by
            have := (ho7'.lt j hj).1
            rw [← hw8, heap_setCell_other _ _ _ _ (by simp; omega)]
          have hA8 : FAt w8 av X w8.heap.size := by
            obtain ⟨a', c', e', _, _, hA, _⟩ := ho8.shape
            simp at e'
            rw [e'.1]
            exact hA
          have hs8 : w2.heap.size + 2 ≤ w8.heap.size := by have := hb78.size; omega
          have c8 := specDiskOk_any w8 av cv X hA8 (by omega)
          have HW8 : Hid (w7.setCell ⟨w2.heap.size + 1, 0, none⟩ (.slice av X.length cv) = w8) := hw8
          have HO8 : Hid (OwnF w8 (w2.heap.size + 2) 63 (.slice av X.length cv) X) := ho8
          clear hw8 hA7 hA8 ho7' hO7 hbX hb78 ho8
          go_wp2_with fail
          rw [HW8.out]
          refine c8.mono ?_
          rintro e w9 ⟨rfl, hb9⟩
          obtain ⟨_, _, _, _, _, u5, uz5, hB9, hs9, _⟩ := HC.out w9 (bthen hb8 hb9)
          have q9 : w9.cell? ⟨w2.heap.size + 1, 0, none⟩ = some (.slice av X.length cv) := (hb9.cell (p := ⟨w2.heap.size + 1, 0, none⟩) (by simp; omega)).trans q8
          clear c8 q8 qO zO
          cases hdX : dOk X with
          | false =>
            have HN : Hid (spA L ⟨2, nm, tx, to⟩ = none) := by show _ = _; rw [HY.out, hdX]; simp
            have q5 := cell_set_same (v := .slice none 0 0) u5
            clear hdX HY
            go_wp2
            refine bodyPost_ret (v := .tuple #[.agg #[.slice none 0 0], .bool false]) (by simp [results, Try.results10, go_sem, q5]) rfl ⟨.slice none 0 0, by rw [HN.out]; rfl, ?_, ?_⟩
            · rw [HN.out]; exact OwnF.nil _ _ _
            · exact hB9.setCell (by simp; omega) _
          | true =>
            have HN : Hid (spA L ⟨2, nm, tx, to⟩ = some X) := by show _ = _; rw [HY.out, if_pos hdX]
            have q5 := cell_set_same (v := .slice av X.length cv) u5
            clear hdX HY
            go_wp2
            refine bodyPost_ret (v := .tuple #[.agg #[.slice av X.length cv], .bool true]) (by simp [results, Try.results10, go_sem, q5]) rfl ⟨_, by rw [HN.out]; rfl, ?_, ?_⟩
            · rw [HN.out]
              refine ((HO8.out.below hb9 (Nat.le_refl _)).mono (by have := hb12.size; omega)).kept fun j hj => ?_
              have h1 := (HO8.out.lt j hj).1
              have h2 := HS.out
              have h3 := hb12.size
              rw [heap_setCell_other _ _ _ _ (by simp; omega)]
            · exact hB9.setCell (by simp; omega) _
        · have kb2 : (kd == 2) = false := beq_eq_false_iff_ne.2 k2
          by_cases k4 : kd = 4
          · subst k4
            have HOX : Hid (spO L ⟨4, nm, tx, to⟩ = some (woL L nm)) := by simp [spO, HFI.out, Hid]
            have cQ := l03Without_any ((w2.alloc (.cells #[.string f.nm, .string f.tx, .int .i64 f.kp] 63)).alloc (.cells #[.slice none 0 0] 31)) _ cap L nm hLo hm
            clear HFI HNM
            go_wp2_with fail
            refine cQ.mono ?_
            rintro e w7 ⟨v7, rfl, ho7, hb7⟩
            obtain ⟨hO7, hbX⟩ := HO2.out w2 _ (bplus (bplus hb12 _) _) w7 hb7
            have hs7 : w2.heap.size + 2 ≤ w7.heap.size := by have := hb7.size; simp at this; omega
            have ho7' : OwnF w7 (w2.heap.size + 2) 63 v7 (woL L nm) := ho7.mono (by simp)
            have hX : (woL L nm).length ≤ L.length + 1 := Nat.le_trans (woL_len L nm) (by omega)
            generalize woL L nm = X at ho7' HOX hX
            have HY : Hid (spA L ⟨4, nm, tx, to⟩ = if dOk X = true then some X else none) := spA_some HG.out HOX.out
            clear cQ ho7 hb7 d0 d1 d2 d3 d4 d5 e5 hBo hso hLo t0 t1 t2 t3 t4 t5 x5 hBf hsf a0 a1 a2 a3 a4 a5 b5 HOX
            have hb2s : wb.heap.size ≤ w2.heap.size := hb12.size
            obtain ⟨av, cv, rfl, _, _, hA7, _⟩ := ho7'.shape
            have qO : w7.cell? ⟨w2.heap.size + 1, 0, none⟩ = some (.slice none 0 0) := by simp [World.cell?, hO7]
            have zO : w7.frozen? ⟨w2.heap.size + 1, 0, none⟩ = false := by simp [World.frozen?, hO7]
            obtain ⟨w8, hw8⟩ : ∃ w8, w7.setCell ⟨w2.heap.size + 1, 0, none⟩ (.slice av X.length cv) = w8 := ⟨_, rfl⟩
            have hb78 : Below (w2.heap.size + 1) w7 w8 := by rw [← hw8]; exact (Below.refl _ _).setCell (by simp) _
            have q8 : w8.cell? ⟨w2.heap.size + 1, 0, none⟩ = some (.slice av X.length cv) := by rw [← hw8]; exact cell_set_same qO
            have hb8 : Below wb.heap.size wb w8 := hbX.trans (hb78.mono (by omega))
            have ho8 : OwnF w8 (w2.heap.size + 2) 63 (.slice av X.length cv) X := ho7'.kept fun j hj => by
              have := (ho7'.lt j hj).1
              rw [← hw8, heap_setCell_other _ _ _ _ (by simp; omega)]
            have hA8 : FAt w8 av X w8.heap.size := by
              obtain ⟨a', c', e', _, _, hA, _⟩ := ho8.shape
              simp at e'
              rw [e'.1]
              exact hA
            have hs8 : w2.heap.size + 2 ≤ w8.heap.size := by have := hb78.size; omega
            have c8 := specDiskOk_any w8 av cv X hA8 (by omega)
            have HW8 : Hid (w7.setCell ⟨w2.heap.size + 1, 0, none⟩ (.slice av X.length cv) = w8) := hw8
            have HO8 : Hid (OwnF w8 (w2.heap.size + 2) 63 (.slice av X.length cv) X) := ho8
            clear hw8 hA7 hA8 ho7' hO7 hbX hb78 ho8
            go_wp2_with fail
            rw [HW8.out]
            refine c8.mono ?_
            rintro e w9 ⟨rfl, hb9⟩
            obtain ⟨_, _, _, _, _, u5, uz5, hB9, hs9, _⟩ := HC.out w9 (bthen hb8 hb9)
            have q9 : w9.cell? ⟨w2.heap.size + 1, 0, none⟩ = some (.slice av X.length cv) := (hb9.cell (p := ⟨w2.heap.size + 1, 0, none⟩) (by simp; omega)).trans q8
            clear c8 q8 qO zO
            cases hdX : dOk X with
            | false =>
              have HN : Hid (spA L ⟨4, nm, tx, to⟩ = none) := by show _ = _; rw [HY.out, hdX]; simp
              have q5 := cell_set_same (v := .slice none 0 0) u5
              clear hdX HY
              go_wp2
              refine bodyPost_ret (v := .tuple #[.agg #[.slice none 0 0], .bool false]) (by simp [results, Try.results10, go_sem, q5]) rfl ⟨.slice none 0 0, by rw [HN.out]; rfl, ?_, ?_⟩
              · rw [HN.out]; exact OwnF.nil _ _ _
              · exact hB9.setCell (by simp; omega) _
            | true =>
              have HN : Hid (spA L ⟨4, nm, tx, to⟩ = some X) := by show _ = _; rw [HY.out, if_pos hdX]
              have q5 := cell_set_same (v := .slice av X.length cv) u5
              clear hdX HY
              go_wp2
              refine bodyPost_ret (v := .tuple #[.agg #[.slice av X.length cv], .bool true]) (by simp [results, Try.results10, go_sem, q5]) rfl ⟨_, by rw [HN.out]; rfl, ?_, ?_⟩
              · rw [HN.out]
                refine ((HO8.out.below hb9 (Nat.le_refl _)).mono (by have := hb12.size; omega)).kept fun j hj => ?_
                have h1 := (HO8.out.lt j hj).1
                have h2 := HS.out
                have h3 := hb12.size
                rw [heap_setCell_other _ _ _ _ (by simp; omega)]
              · exact hB9.setCell (by simp; omega) _
          · have kb4 : (kd == 4) = false := beq_eq_false_iff_ne.2 k4
            have HA : Hid (spA L ⟨kd, nm, tx, to⟩ = none) := spA_none (by simp [spO, HFI.out, kn1, k2, kn3, k4])
            have cT := cN'
            clear HFI k4 k2 kn1 kn3
            have q5 := cell_set_same (v := .slice none 0 0) d5
            go_wp2_with (first | (go_at_call 34; refine (cT _).mono ?_; rintro e w' ⟨rfl, rfl⟩) | fail)
            refine bodyPost_ret (v := .tuple #[.agg #[.slice none 0 0], .bool false]) (by simp [results, Try.results10, go_sem, q5]) rfl ⟨.slice none 0 0, by rw [HA.out]; rfl, ?_, ?_⟩
            · rw [HA.out]; exact OwnF.nil _ _ _
            · exact hBo.setCell (by simp; omega) _
  · have HA : Hid (spA L ⟨kd, nm, tx, to⟩ = none) := spA_bad hgood
    have q5 := cell_set_same (v := .slice none 0 0) p5
    have hs : dOk L = false ∨ (dOk L = true ∧ nOk nm = false) ∨ (dOk L = true ∧ nOk nm = true ∧ (kd != 3) = true ∧ to.toList.isEmpty = false) ∨ (dOk L = true ∧ nOk nm = true ∧ (kd != 3) = false ∧ (kd != 1) = true ∧ tx.toList.isEmpty = false) ∨ (dOk L = true ∧ nOk nm = true ∧ (kd != 3) = true ∧ to.toList.isEmpty = true ∧ (kd != 1) = true ∧ tx.toList.isEmpty = false) := by
      cases h1 : dOk L with
      | false => exact .inl rfl
      | true =>
        cases h2 : nOk nm with
        | false => exact .inr (.inl ⟨rfl, rfl⟩)
        | true =>
          unfold isE at hgood
          rw [h1, h2] at hgood
          by_cases k3 : kd = 3
          · subst k3
            refine .inr (.inr (.inr (.inl ⟨rfl, rfl, rfl, rfl, ?_⟩)))
            cases h3 : tx.toList.isEmpty with
            | false => rfl
            | true => exact absurd ⟨rfl, rfl, by simp, by simp [h3]⟩ hgood
          · have b3 : (kd != 3) = true := by simpa using k3
            cases h4 : to.toList.isEmpty with
            | false => exact .inr (.inr (.inl ⟨rfl, rfl, b3, rfl⟩))
            | true =>
              by_cases k1 : kd = 1
              · exact absurd ⟨rfl, rfl, by simp [h4], by simp [k1]⟩ hgood
              · refine .inr (.inr (.inr (.inr ⟨rfl, rfl, b3, rfl, by simpa using k1, ?_⟩)))
                cases h3 : tx.toList.isEmpty with
                | false => rfl
                | true => exact absurd ⟨rfl, rfl, by simp [h4], by simp [h3]⟩ hgood
    clear hgood
    have cN' := fun w => cN nm w
    rcases hs with h1 | ⟨h1, h2⟩ | ⟨h1, h2, h3, h4⟩ | ⟨h1, h2, h3, h4, h5⟩ | ⟨h1, h2, h3, h4, h5, h6⟩
    all_goals (try rw [h2] at cN')
    all_goals
      rw [h1]
      clear h1
      go_wp2_with (go_at_call 34; refine (cN' _).mono ?_; rintro e w' ⟨rfl, rfl⟩)
      refine bodyPost_ret (v := .tuple #[.agg #[.slice none 0 0], .bool false]) (by simp [results, Try.results10, go_sem, q5]) rfl ⟨.slice none 0 0, by rw [HA.out]; rfl, ?_, ?_⟩
      · rw [HA.out]; exact OwnF.nil _ _ _
      · exact hB1.setCell (by simp; omega) _
end Go.Proofs.Ytghladeamdhlhal
