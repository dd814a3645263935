/- Texts that stand in one: SkNewSpec, PolNewSpec, PolSpec. -/
import Derived.Test.YtbcjkinalghokafDoorSkStep
import Derived.Test.YtbcjkinalghokafDoorPolKitJ
import Derived.Test.YtbcjkinalghokafDoorMarkTextJ
import Derived.Test.YtbcjkinalghokafDoorStrsJ
namespace Go.Proofs.YtbcjkinalghokafDoor
open Go.RowKit Go.Sort

set_option maxRecDepth 100000 in
set_option maxHeartbeats 4000000 in
theorem specSketchNew_any (w : World) :
    Calls Tryd.prog 74 #[] w fun e w' => ∃ v, e = .returned v ∧ SkOwn w' w.heap.size w'.heap.size v newS ∧ Below w.heap.size w w' := by
  obtain ⟨w0, hw0⟩ : ∃ x, w.alloc (.cells #[.slice none 0 0, .int .i64 0] 27) = x := ⟨_, rfl⟩
  obtain ⟨w1, hw1⟩ : ∃ x, w0.alloc (.cells #[.slice none 0 0, .int .i64 0] 27) = x := ⟨_, rfl⟩
  have hb0 : Below w.heap.size w w0 := by rw [← hw0]; exact (Below.refl _ _).alloc (Nat.le_refl _) _
  have hb1 : Below w0.heap.size w0 w1 := by rw [← hw1]; exact (Below.refl _ _).alloc (Nat.le_refl _) _
  have s0 : w0.heap.size = w.heap.size + 1 := by rw [← hw0]; simp
  have s1 : w1.heap.size = w.heap.size + 2 := by rw [← hw1]; simp; omega
  have hR : SkBox w1 w.heap.size (.slice none 0 0) (.int .i64 0) := by
    have h : SkBox w0 w.heap.size (.slice none 0 0) (.int .i64 0) := by rw [← hw0]; exact SkBox.new _ _ _
    exact h.on hb1
  have hT : SkBox w1 (w.heap.size + 1) (.slice none 0 0) (.int .i64 0) := by rw [← hw1, ← s0]; exact SkBox.new _ _ _
  have hbw : Below w.heap.size w w1 := hb0.trans (hb1.mono hb0.size)
  have HW : Hid ((w.alloc (.cells #[.slice none 0 0, .int .i64 0] 27)).alloc (.cells #[.slice none 0 0, .int .i64 0] 27) = w1) := by rw [hw0]; exact hw1
  clear hw0 hw1 hb0 hb1 s0
  go_enter Tryd.func74, Tryd.ntmps74
  go_wp2
  rw [HW.out]
  go_loopw [2] (fun i wr => Box (∃ (k : Nat) (v : Value), k ≤ 3 ∧ i = .int .i64 k ∧ SkBox wr w.heap.size (.slice none 0 0) (.int .i64 0) ∧ SkBox wr (w.heap.size + 1) v (.int .i64 0) ∧ OwnSS wr (w.heap.size + 2) wr.heap.size v (List.replicate k (List.replicate 16 0)) ∧ Below w.heap.size w wr))
    (fun i _ => 3 - (intOf i).toNat)
  case atStart => exact ⟨⟨0, _, by omega, rfl, hR, hT, OwnSS.nil _ _ _, hbw⟩⟩
  case round =>
    obtain ⟨k, v, hk, rfl, hR1, hT1, hown, hbel⟩ := hrel.out
    by_cases hlt : k < 3
    · obtain ⟨vs, hv, hvb, hvl, hvr, hvd⟩ := hown
      obtain ⟨i0, hi, hz0, hz1, hz2⟩ := info_parts Tryd.infoInt
      obtain ⟨w2, hmk, hown0, hgr0⟩ := run_make_full (P := Tryd.prog) wr.drew wr.drew.heap.size 40 3 i0 (.int .i64 0) 1 Tryd.underlying40 hi hz0 hz1 .i64 .i64 16 (by rw [hz2]; omega) (by unfold maxLen; omega) (Nat.le_refl _)
      have hb2 : Below wr.heap.size wr w2 := (bdrewS wr).trans ⟨hgr0.os, hgr0.tape, hgr0.output, hgr0.size, fun j hj => hgr0.block j hj (by simp)⟩
      have hu : OwnV w2 wr.heap.size 3 (.slice (some ⟨wr.heap.size, 0, none⟩) 16 16) (ints (List.replicate 16 0)) := by
        have h := hown0
        rw [show (Value.int .i64 0).cells = #[Value.int .i64 0] from rfl, toList_madeCells_one, Nat.mul_one] at h
        have e : ints (List.replicate 16 0) = List.replicate 16 (Value.int .i64 0) := by simp [ints]
        unfold OwnV
        rw [e, List.length_replicate]
        exact h
      rw [show ((16 : Nat) : Int) = 16 from rfl, show wr.drew.heap.size = wr.heap.size from rfl] at hmk
      have hb3 : Below wr.heap.size wr (w2.alloc (.cells #[.slice (some ⟨wr.heap.size, 0, none⟩) 16 16] 40)) := hb2.alloc hb2.size _
      have hu3 : OwnV (w2.alloc (.cells #[.slice (some ⟨wr.heap.size, 0, none⟩) 16 16] 40)) wr.heap.size 3 (.slice (some ⟨wr.heap.size, 0, none⟩) 16 16) (ints (List.replicate 16 0)) := hu.alloc _
      have hT2 := hT1.on hb2
      have hT3 := hT1.on hb3
      have t0 := hT1.cells.1
      have t2 := hT2.cells.1
      have t3 := hT3.cells.1
      have hTs := hT1.lt
      have HOV : Hid (OwnV (w2.alloc (.cells #[.slice (some ⟨wr.heap.size, 0, none⟩) 16 16] 40)) (w.heap.size + 2) 40 v vs) := hv.below hb3 (Nat.le_refl _)
      have hvk : vs.length = k := by simpa using hvl
      have HS : Hid (w.heap.size + 2 ≤ w2.heap.size ∧ w2.heap.size ≤ (w2.alloc (.cells #[.slice (some ⟨wr.heap.size, 0, none⟩) 16 16] 40)).heap.size) := ⟨by have := hb2.size; omega, by simp⟩
      have HG : Hid (∀ v' w3, OwnV w3 (w.heap.size + 2) 40 v' (vs ++ [.slice (some ⟨wr.heap.size, 0, none⟩) 16 16]) → (w2.alloc (.cells #[.slice (some ⟨wr.heap.size, 0, none⟩) 16 16] 40)).grownBy w3 v.ownBlock → w3.cell? ⟨w.heap.size + 1, 0, none⟩ = some v ∧ w3.frozen? ⟨w.heap.size + 1, 0, none⟩ = false ∧ Hid (SkBox (w3.setCell ⟨w.heap.size + 1, 0, none⟩ v') w.heap.size (.slice none 0 0) (.int .i64 0) ∧ SkBox (w3.setCell ⟨w.heap.size + 1, 0, none⟩ v') (w.heap.size + 1) v' (.int .i64 0) ∧ OwnSS (w3.setCell ⟨w.heap.size + 1, 0, none⟩ v') (w.heap.size + 2) (w3.setCell ⟨w.heap.size + 1, 0, none⟩ v').heap.size v' (List.replicate (k + 1) (List.replicate 16 0)) ∧ Below w.heap.size w (w3.setCell ⟨w.heap.size + 1, 0, none⟩ v'))) := by
        intro v' w3 ho hg
        obtain ⟨g1, g2, g3, g4, g5, g6⟩ := gatherSS hT1 (by omega) (by omega) hbel (by omega) hv hvl hvr hvd hb3 hu3 hg ho
        refine ⟨g1, g2, hR1.kept (g5 _ (by omega) (by omega)), g3, ?_, g6⟩
        rw [List.replicate_succ']
        exact g4
      clear hrel hR1 hT1 hv hvb hvr hvd hi hz0 hz1 hz2 hown0 hgr0 hb2 hb3 hu hu3 hT2 hT3 hvl hbel
      have hvk1 : (vs.length + 1) * 24 ≤ 140737488355328 := by omega
      have hvk2 : vs.length < 140737488355328 := by omega
      have HVK : Hid (vs.length = k) := hvk
      clear hvk
      go_wp2
      go_region_law (refine step_snocO (by rfl) _ _ 25 (by rfl) (w.heap.size + 2) 40 Tryd.underlying25 (.slice none 0 0) 24 Tryd.infoIntS rfl v vs (by rfl) (by exact HOV.out) w2.heap.size (.slice (some ⟨wr.heap.size, 0, none⟩) 16 16) (0, 0) (by rfl) (by exact heap_alloc_new w2 _) rfl hvk1 hvk2 (by have := HS.out; omega) ?_; intro g2 cap2 w3 hown2 hgr2; have hk2 := HG.out _ w3 hown2 hgr2; have q2 := hk2.1; have z2 := hk2.2.1; have HK2 := hk2.2.2; clear hk2 hown2 hgr2)
      all_goals (
        go_wp2
        refine ⟨?_, ?_⟩
        · exact ⟨⟨k + 1, _, by omega, by go_num, HK2.out.1, HK2.out.2.1, HK2.out.2.2.1, HK2.out.2.2.2⟩⟩
        · simp [intOf]; omega)
    · have hke : k = 3 := by omega
      subst hke
      obtain ⟨av, cv, rfl, _⟩ := hown.at
      obtain ⟨t0, t1⟩ := hT1.cells
      obtain ⟨r0, r1⟩ := hR1.cells
      have f0 := hR1.thaw 0
      have f1 := hR1.thaw 1
      have HO : Hid (OwnSS wr (w.heap.size + 2) wr.heap.size (.slice av 3 cv) newS.rows) := hown
      rw [show (List.replicate 3 (List.replicate 16 (0 : Int))).length = 3 from rfl] at t0
      clear hrel hown hT1 hlt
      go_wp2
      obtain ⟨q0, q1⟩ := (hR1.put (.slice av 3 cv) (.int .i64 0)).cells
      refine bodyPost_ret (v := .agg #[.slice av 3 cv, .int .i64 0]) (by simp [results, Tryd.results74, go_sem, q0, q1]) rfl ⟨_, rfl, ⟨_, rfl, ?_⟩, Below.put2 hbel (Nat.le_refl _) _ _⟩
      refine (HO.out.put2 hR1 _ _).mono (by omega) ?_
      simp
end Go.Proofs.YtbcjkinalghokafDoor

namespace Go.Proofs.YtbcjkinalghokafDoor
open Go.RowKit Go.Sort

theorem newP_sz : PolSz newP := by unfold PolSz; decide
set_option maxRecDepth 100000 in
set_option maxHeartbeats 4000000 in
theorem specPolicyNew_any (w : World) :
    Calls Tryd.prog 57 #[] w fun e w' => ∃ v, e = .returned v ∧ POwn w' w.heap.size w'.heap.size v newP ∧ Below w.heap.size w w' := by
  obtain ⟨w1, hw1⟩ : ∃ x, w.alloc (.cells #[.slice none 0 0, .slice none 0 0, .slice none 0 0, .int .i64 0] 29) = x := ⟨_, rfl⟩
  have hb1 : Below w.heap.size w w1 := by rw [← hw1]; exact (Below.refl _ _).alloc (Nat.le_refl _) _
  have hR : PBox w1 w.heap.size (.slice none 0 0) (.slice none 0 0) (.slice none 0 0) (.int .i64 0) := by rw [← hw1]; exact PBox.new _ _ _ _ _
  have HW : Hid (w.alloc (.cells #[.slice none 0 0, .slice none 0 0, .slice none 0 0, .int .i64 0] 29) = w1) := hw1
  have c1 := specSketchNew_any w1
  clear hw1
  go_enter Tryd.func57, Tryd.ntmps57
  go_wp2_with fail
  rw [HW.out]
  refine c1.mono ?_
  rintro e w2 ⟨v, rfl, ⟨u, rfl, ho⟩, hb2⟩
  obtain ⟨a, c, rfl, _⟩ := ho.at
  have hR2 := hR.on hb2
  have hbw := hb1.trans (hb2.mono hb1.size)
  obtain ⟨r0, r1, r2, r3⟩ := hR2.cells
  have f0 := hR2.thaw 0
  have f1 := hR2.thaw 1
  have f2 := hR2.thaw 2
  have f3 := hR2.thaw 3
  have HO : Hid (POwn w2 w1.heap.size w2.heap.size (.agg #[.slice none 0 0, .slice none 0 0, .slice a newS.rows.length c, .int .i64 0]) newP) := ⟨_, _, _, rfl, OwnV.nil _ _ _, OwnV.nil _ _ _, fun k hk => by simp [Value.ownBlock] at hk, fun k hk => by simp [Value.ownBlock] at hk, ho⟩
  obtain ⟨n, hn⟩ : ∃ n, newS.rows.length = n := ⟨_, rfl⟩
  have hz : newS.added = 0 := rfl
  rw [hn] at HO ⊢
  rw [hz]
  clear c1 ho hR hb2 HW hn hz
  go_wp2_with fail
  obtain ⟨q0, q1, q2, q3⟩ := (hR2.put (.slice none 0 0) (.slice none 0 0) (.slice a n c) (.int .i64 0)).cells
  refine bodyPost_ret (v := .agg #[.slice none 0 0, .slice none 0 0, .slice a n c, .int .i64 0]) (by simp [results, Tryd.results57, go_sem, q0, q1, q2, q3]) rfl ⟨_, rfl, ?_, Below.put4 hbw (Nat.le_refl _) _ _ _ _⟩
  refine (HO.out.put4 hR2 _ _ _ _).mono hb1.size ?_
  simp
end Go.Proofs.YtbcjkinalghokafDoor

namespace Go.Proofs.YtbcjkinalghokafDoor
open Go.RowKit Go.Sort

theorem bytes_nk {z key : ByteArray} (h : ¬ z = key) : (z.toList == key.toList) = false := by
  rw [ByteArray.toList_eq, ByteArray.toList_eq, beq_eq_false_iff_ne]
  intro e
  exact h (ByteArray.ext (Array.toList_inj.1 e))
theorem inL_take {l : List ByteArray} {s : ByteArray} {k : Nat} (hk : k < l.length) (h : inL (l.take k) s = false) (hn : ¬ l[k] = s) : inL (l.take (k + 1)) s = false := by
  rw [inL_false] at h ⊢
  rw [List.take_succ_eq_append_getElem hk]
  intro hm
  rcases List.mem_append.1 hm with hm | hm
  · exact h hm
  · exact hn (List.mem_singleton.1 hm).symm
theorem Tryd.infoSK : (Tryd.prog.info? 9).map (fun i => (i.zero, i.size, i.bytes)) = some (some (.string ⟨#[]⟩), 1, 16) := by kernel_rfl
set_option maxHeartbeats 2000000 in
theorem l13In_any (w : World) (a : Option Addr) (c : Nat) (L : List ByteArray) (s : ByteArray) (hA : LAt w a L w.heap.size) (hm : L.length ≤ 10000000) :
    Calls Tryd.prog 35 #[.slice a L.length c, .string s] w fun e w' => e = .returned (.bool (inL L s)) ∧ w' = w := by
  go_enter Tryd.func35, Tryd.ntmps35
  go_wp2
  go_loopw [5] (fun i wr => Box (∃ (k : Nat), k ≤ L.length ∧ i = .int .i64 k ∧ Hid (inL (L.take k) s = false) ∧ w = wr))
    (fun i _ => L.length - (intOf i).toNat)
  case atStart => exact ⟨⟨0, by omega, rfl, rfl, rfl⟩⟩
  case round =>
    obtain ⟨k, hk, rfl, HN, rfl⟩ := hrel.out
    by_cases hlt : k < L.length
    · obtain ⟨g, off, rfl, hg, hc⟩ := hA k hlt
      have hi1 : (0 : Int) ≤ (k : Int) := by omega
      have hi2 : (k : Int) < (L.length : Int) := by omega
      by_cases hz : L[k] = s
      · have HT : Hid (inL L s = true) := inL_iff.2 (by rw [← hz]; exact List.getElem_mem hlt)
        rw [hz] at hc
        clear hrel hz hA
        go_wp2
        go_ret
        exact ⟨by rw [HT.out]; rfl, rfl⟩
      · have HT : Hid (inL (L.take (k + 1)) s = false) := inL_take hlt HN.out hz
        have hz1 := bytes_nk hz
        obtain ⟨z, hzz⟩ : ∃ z, L[k] = z := ⟨_, rfl⟩
        rw [hzz] at hc hz1
        clear hrel hz hzz hA
        go_wp2
        go_roundw
        case rel =>
          try ((repeat apply Exists.intro); refine ⟨?_, rfl⟩)
          exact ⟨⟨k + 1, by omega, by go_num, HT, by first | rfl | trivial⟩⟩
        case measure => simp [intOf]; omega
    · go_wp2
      go_ret
      have hke : k = L.length := by omega
      have := HN.out
      rw [hke, List.take_length] at this
      exact ⟨by rw [this]; rfl, rfl⟩
theorem l13Key_any (w : World) (s : ByteArray) (hs : s.size ≤ 10000000) :
    Calls Tryd.prog 33 #[.string s] w fun e w' => e = .returned (.bool (keyOk s)) ∧ w' = w := by
  have c := in_any (s.size : Int) 1 30 w
  have e : inN (s.size : Int) 1 30 = keyOk s := by
    unfold inN keyOk
    by_cases h : 1 ≤ s.size ∧ s.size ≤ 30
    · rw [decide_eq_true h, decide_eq_true (by omega)]
    · rw [decide_eq_false h, decide_eq_false (by omega)]
  rw [e] at c
  clear e
  go_enter Tryd.func33, Tryd.ntmps33
  go_wp2_with (go_at_call 63; refine c.mono ?_; rintro e w' ⟨rfl, rfl⟩)
  go_ret
  exact ⟨rfl, rfl⟩
theorem without_take {l : List ByteArray} {s : ByteArray} {k : Nat} (hk : k < l.length) : without (l.take (k + 1)) s = without (l.take k) s ++ if l[k] = s then [] else [l[k]] := by
  unfold without
  rw [List.take_succ_eq_append_getElem hk, List.filter_append]
  by_cases h : l[k] = s <;> simp [h]
set_option maxHeartbeats 2000000 in
theorem l13Without_any (w : World) (a : Option Addr) (c : Nat) (L : List ByteArray) (s : ByteArray) (hA : LAt w a L w.heap.size) (hm : L.length ≤ 10000000) :
    Calls Tryd.prog 36 #[.slice a L.length c, .string s] w fun e w' => ∃ v, e = .returned v ∧ v ≠ .slice none 0 0 ∧ OwnV w' w.heap.size 9 v (strs (without L s)) ∧ Below w.heap.size w w' := by
  go_enter Tryd.func36, Tryd.ntmps36
  go_wp2
  go_loopw [5, 6] (fun v i wr => Box (∃ (k : Nat), k ≤ L.length ∧ i = .int .i64 k ∧ v ≠ .slice none 0 0 ∧ OwnV wr w.heap.size 9 v (strs (without (L.take k) s)) ∧ Below w.heap.size w wr))
    (fun _ i _ => L.length - (intOf i).toNat)
  case atStart => exact ⟨⟨0, by omega, rfl, by simp, World.ownsRow_made w #[] 0 (Nat.le_refl _) (by simp [maxLen]) (by simp), (Below.refl _ _).alloc (Nat.le_refl _) _⟩⟩
  case round =>
    obtain ⟨k, hk, rfl, hne, hown, hbel⟩ := hrel.out
    by_cases hlt : k < L.length
    · obtain ⟨g, off, rfl, hg, hc⟩ := (hA.below hbel (Nat.le_refl _)) k hlt
      have hwl : (without (L.take k) s).length ≤ k := by
        refine Nat.le_trans (List.length_filter_le _ _) ?_
        rw [List.length_take]
        omega
      have HT : Hid (without (L.take (k + 1)) s = without (L.take k) s ++ if L[k] = s then [] else [L[k]]) := without_take hlt
      have hi1 : (0 : Int) ≤ (k : Int) := by omega
      have hi2 : (k : Int) < (L.length : Int) := by omega
      obtain ⟨z, hzz⟩ : ∃ z, L[k] = z := ⟨_, rfl⟩
      rw [hzz] at hc HT
      have hsl := strs_length (without (L.take k) s)
      have hbs := hbel.size
      obtain ⟨M, hM⟩ : ∃ M, without (L.take k) s = M := ⟨_, rfl⟩
      rw [hM] at HT hown hwl hsl
      clear hrel hzz hA hM
      by_cases hz : z = s
      · rw [if_pos hz, List.append_nil] at HT
        subst hz
        go_wp2
        go_roundw
        case rel =>
          try ((repeat apply Exists.intro); refine ⟨?_, rfl⟩)
          exact ⟨⟨k + 1, by omega, by go_num, hne, by rw [HT.out]; exact hown, hbel⟩⟩
        case measure => simp [intOf]; omega
      · rw [if_neg hz] at HT
        have hz1 := bytes_nk hz
        go_wp2_with (at_builtin; refine wpList_snocV rfl (.tmp 20) (.tmp 25) 24 rfl w.heap.size 9 Tryd.underlying24 (.string ⟨#[]⟩) 16 Tryd.infoSK rfl _ (strs M) rfl hown (.string z) rfl rfl (by omega) (by omega) (by omega) ?_; intro v' w4 hown' hne' hbel' hsz')
        go_roundw
        case rel =>
          try ((repeat apply Exists.intro); refine ⟨?_, rfl⟩)
          exact ⟨⟨k + 1, by omega, by go_num, hne', by rw [HT.out]; simpa [strs] using hown', hbel.trans (hbel' _ (Below.refl _ _))⟩⟩
        case measure => simp [intOf]; omega
    · go_wp2
      go_ret
      have hke : k = L.length := by omega
      rw [hke, List.take_length] at hown
      exact ⟨_, rfl, hne, hown, hbel⟩
set_option maxHeartbeats 2000000 in
theorem specPolicyHas_any (w : World) (aw am ak : Option Addr) (cw cm ck : Nat) (P : Pol) (key : ByteArray) (hA : PolAt w aw am ak P w.heap.size) (hm : P.win.length ≤ 10000000) (hm' : P.main.length ≤ 10000000) :
    Calls Tryd.prog 20 #[.agg #[.slice aw P.win.length cw, .slice am P.main.length cm, .slice ak P.sk.rows.length ck, .int .i64 P.sk.added], .string key] w fun e w' => e = .returned (.bool (hasP P key)) ∧ Below w.heap.size w w' := by
  obtain ⟨w1, hw1⟩ : ∃ x, w.alloc (.cells #[.slice aw P.win.length cw, .slice am P.main.length cm, .slice ak P.sk.rows.length ck, .int .i64 P.sk.added] 29) = x := ⟨_, rfl⟩
  have hb1 : Below w.heap.size w w1 := by rw [← hw1]; exact (Below.refl _ _).alloc (Nat.le_refl _) _
  have hB : PBox w1 w.heap.size (.slice aw P.win.length cw) (.slice am P.main.length cm) (.slice ak P.sk.rows.length ck) (.int .i64 P.sk.added) := by rw [← hw1]; exact PBox.new _ _ _ _ _
  have hA1 := hA.on hb1
  obtain ⟨b0, b1, b2, b3⟩ := hB.cells
  have c1 := l13In_any w1 aw cw P.win key hA1.1 hm
  have c2 := l13In_any w1 am cm P.main key hA1.2.1 hm'
  have HW : Hid (w.alloc (.cells #[.slice aw P.win.length cw, .slice am P.main.length cm, .slice ak P.sk.rows.length ck, .int .i64 P.sk.added] 29) = w1) := hw1
  rw [← hw1] at b0 b1 b2 b3
  clear hw1 hB hA1 hA
  go_enter Tryd.func20, Tryd.ntmps20
  cases h : inL P.win key with
  | true =>
    rw [h] at c1
    have HH : Hid (hasP P key = true) := by show _ = _; simp [hasP, h]
    clear h
    go_wp2_with fail
    rw [HW.out] at b0 b1 b2 b3 ⊢
    refine c1.mono ?_
    rintro e w' ⟨rfl, rfl⟩
    go_wp2_with fail
    go_ret
    exact ⟨by rw [HH.out]; rfl, hb1⟩
  | false =>
    rw [h] at c1
    have HH : Hid (hasP P key = inL P.main key) := by show _ = _; simp [hasP, h]
    clear h
    go_wp2_with fail
    rw [HW.out] at b0 b1 b2 b3 ⊢
    refine c1.mono ?_
    rintro e w' ⟨rfl, rfl⟩
    generalize inL P.main key = q at c2 HH
    go_wp2_with fail
    refine c2.mono ?_
    rintro e w' ⟨rfl, rfl⟩
    go_wp2_with fail
    go_ret
    exact ⟨by rw [HH.out]; rfl, hb1⟩
end Go.Proofs.YtbcjkinalghokafDoor
