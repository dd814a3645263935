/- Texts that stand in one: PolSizes, PolSizes2, PolPut, PolSpec. -/
import Derived.Test.YtbcjkinalghokafDoorPolLaw
import Derived.Test.YtbcjkinalghokafDoorSkPlainJ
import Derived.Test.YtbcjkinalghokafDoorPolHoldJ
import Derived.Test.YtbcjkinalghokafDoorStrsJ
import Derived.Test.YtbcjkinalghokafDoorInts
namespace Go.Proofs.YtbcjkinalghokafDoor
open Go.RowKit

theorem wgtL_without (l : List ByteArray) (s : ByteArray) : (without l s).length + wgtL (without l s) ≤ l.length + wgtL l := by
  induction l with
  | nil => simp [without, wgtL]
  | cons a r ih =>
    by_cases e : a = s
    · have h1 : without (a :: r) s = without r s := by simp [without, e]
      rw [h1]
      simp only [List.length_cons, wgtL, List.map_cons, List.sum_cons] at ih ⊢
      omega
    · have h1 : without (a :: r) s = a :: without r s := by simp [without, e]
      rw [h1]
      simp only [List.length_cons, wgtL, List.map_cons, List.sum_cons] at ih ⊢
      omega
theorem dropP_sz {P : Pol} (key : ByteArray) (h : PolSz P) : PolSz (dropP P key) := by
  unfold PolSz wgtP dropP at *
  have h1 := wgtL_without P.win key
  have h2 := wgtL_without P.main key
  dsimp only
  omega
theorem wgtL_keys {l : List ByteArray} (h : ∀ z ∈ l, keyOk z = true) : wgtL l ≤ 30 * l.length := by
  induction l with
  | nil => simp [wgtL]
  | cons a r ih =>
    have h1 := ih (fun z hz => h z (List.mem_cons_of_mem _ hz))
    have h2 := h a (List.mem_cons_self ..)
    simp only [keyOk, decide_eq_true_eq] at h2
    simp only [wgtL, List.map_cons, List.sum_cons, List.length_cons] at h1 ⊢
    omega
/-- A right policy is small. -/
theorem okP_wgt {P : Pol} (h : okP P = true) : wgtP P ≤ 300 := by
  obtain ⟨h1, h2, _, _, _, h6, h7, h8⟩ := okP_iff.1 h
  obtain ⟨a, b, c, e, ra, rb, rc, _, _⟩ := okK_parts h8
  have w1 := wgtL_keys h1
  have w2 := wgtL_keys h2
  have hl : P.sk.rows.length = 3 := by rw [e]; rfl
  have ht : tot P.sk.rows P.sk.rows.length = 48 := by
    rw [hl, e]
    simp [tot, rowOk_len ra, rowOk_len rb, rowOk_len rc]
  unfold wgtP
  omega
theorem okP_sz {P : Pol} (h : okP P = true) : PolSz P := by
  have := okP_wgt h
  unfold PolSz
  omega
end Go.Proofs.YtbcjkinalghokafDoor

namespace Go.Proofs.YtbcjkinalghokafDoor
open Go.RowKit
theorem touchP_sz {P : Pol} (key : ByteArray) (h : PolSz P) : PolSz (touchP P key).1 := by
  by_cases h1 : okP P = true
  · by_cases h2 : keyOk key = true
    · exact okP_sz (touchP_right h1 h2).1
    · unfold touchP
      rw [if_neg (by simp [h2])]
      exact h
  · unfold touchP
    rw [if_neg (by simp [h1])]
    exact h
end Go.Proofs.YtbcjkinalghokafDoor

namespace Go.Proofs.YtbcjkinalghokafDoor
open Go.RowKit

/-- A policy of one's own in a law's variable. -/
structure PolV (w : World) (lo T : Nat) (a1 a2 a3 : Option Addr) (c1 c2 c3 : Nat) (P : Pol) : Prop where
  hold : PHold w T 29 [] lo (.slice a1 P.win.length c1) (.slice a2 P.main.length c2) (.slice a3 P.sk.rows.length c3) P
  lo : lo ≤ T
theorem PolV.on {w w' : World} {lo T : Nat} {a1 a2 a3 : Option Addr} {c1 c2 c3 : Nat} {P : Pol} (h : PolV w lo T a1 a2 a3 c1 c2 c3 P) (hb : Below w.heap.size w w') : PolV w' lo T a1 a2 a3 c1 c2 c3 P := ⟨h.hold.on hb, h.lo⟩
theorem PolV.at {w : World} {lo T : Nat} {a1 a2 a3 : Option Addr} {c1 c2 c3 : Nat} {P : Pol} (h : PolV w lo T a1 a2 a3 c1 c2 c3 P) : PolAt w a1 a2 a3 P w.heap.size := by
  obtain ⟨_, h1, h2, _, h3⟩ := h.hold
  obtain ⟨x1, y1, e1, A1⟩ := h1.strsAt
  obtain ⟨x2, y2, e2, A2⟩ := h2.strsAt
  obtain ⟨x3, y3, e3, A3⟩ := h3.at
  simp only [Value.slice.injEq, true_and] at e1 e2 e3
  rw [e1.1, e2.1, e3.1]
  exact ⟨A1, A2, A3⟩
theorem PolV.cells {w : World} {lo T : Nat} {a1 a2 a3 : Option Addr} {c1 c2 c3 : Nat} {P : Pol} (h : PolV w lo T a1 a2 a3 c1 c2 c3 P) : w.cell? ⟨T, 0, none⟩ = some (.slice a1 P.win.length c1) ∧ w.cell? ⟨T, 1, none⟩ = some (.slice a2 P.main.length c2) ∧ w.cell? ⟨T, 2, none⟩ = some (.slice a3 P.sk.rows.length c3) ∧ w.cell? ⟨T, 3, none⟩ = some (.int .i64 P.sk.added) := ⟨h.hold.cells.1, h.hold.cells.2.1, h.hold.cells.2.2.1, h.hold.cells.2.2.2.1⟩
theorem PolV.new {w : World} {lo : Nat} {a1 a2 a3 : Option Addr} {c1 c2 c3 : Nat} {P : Pol} (h : POwn w lo w.heap.size (.agg #[.slice a1 P.win.length c1, .slice a2 P.main.length c2, .slice a3 P.sk.rows.length c3, .int .i64 P.sk.added]) P) (hlo : lo ≤ w.heap.size) :
    PolV (w.alloc (.cells #[.slice a1 P.win.length c1, .slice a2 P.main.length c2, .slice a3 P.sk.rows.length c3, .int .i64 P.sk.added] 29)) lo w.heap.size a1 a2 a3 c1 c2 c3 P := ⟨h.hold 29 [], hlo⟩
/-- Another policy is stored into the variable. -/
theorem PolV.put {w w2 : World} {lo T : Nat} {a1 a2 a3 b1 b2 b3 : Option Addr} {c1 c2 c3 d1 d2 d3 : Nat} {P Q : Pol} (h : PolV w lo T a1 a2 a3 c1 c2 c3 P) (hb : Below w.heap.size w w2) (ho : POwn w2 w.heap.size w2.heap.size (.agg #[.slice b1 Q.win.length d1, .slice b2 Q.main.length d2, .slice b3 Q.sk.rows.length d3, .int .i64 Q.sk.added]) Q) :
    PBox w2 T (.slice a1 P.win.length c1) (.slice a2 P.main.length c2) (.slice a3 P.sk.rows.length c3) (.int .i64 P.sk.added) ∧ PolV ((((w2.setCell ⟨T, 0, none⟩ (.slice b1 Q.win.length d1)).setCell ⟨T, 1, none⟩ (.slice b2 Q.main.length d2)).setCell ⟨T, 2, none⟩ (.slice b3 Q.sk.rows.length d3)).setCell ⟨T, 3, none⟩ (.int .i64 Q.sk.added)) lo T b1 b2 b3 d1 d2 d3 Q := by
  have hB : PBox w2 T (.slice a1 P.win.length c1) (.slice a2 P.main.length c2) (.slice a3 P.sk.rows.length c3) (.int .i64 P.sk.added) := (h.hold.on hb).1
  have hlo : lo ≤ w.heap.size := by have := h.lo; have := h.hold.lt; omega
  have hs : ((((w2.setCell ⟨T, 0, none⟩ (.slice b1 Q.win.length d1)).setCell ⟨T, 1, none⟩ (.slice b2 Q.main.length d2)).setCell ⟨T, 2, none⟩ (.slice b3 Q.sk.rows.length d3)).setCell ⟨T, 3, none⟩ (.int .i64 Q.sk.added)).heap.size = w2.heap.size := by simp [World.setCell]
  refine ⟨hB, ⟨?_, h.lo⟩⟩
  obtain ⟨u1, u2, u3, e, p1, p2, p3, p4, p5⟩ := ((ho.put4 hB (.slice b1 Q.win.length d1) (.slice b2 Q.main.length d2) (.slice b3 Q.sk.rows.length d3) (.int .i64 Q.sk.added)).mono hlo (Nat.le_refl _))
  simp only [Value.agg.injEq, Array.mk.injEq, List.cons.injEq, and_true] at e
  obtain ⟨rfl, rfl, rfl⟩ := e
  exact ⟨hB.put _ _ _ _, p1, p2, fun k hk => (p3 k hk).2, by rw [hs]; exact p5⟩
theorem PolV.low {w : World} {lo T : Nat} {a1 a2 a3 : Option Addr} {c1 c2 c3 : Nat} {P : Pol} (h : PolV w lo T a1 a2 a3 c1 c2 c3 P) : lo ≤ w.heap.size := by
  have := h.lo
  have := h.hold.lt
  omega
end Go.Proofs.YtbcjkinalghokafDoor

namespace Go.Proofs.YtbcjkinalghokafDoor
open Go.RowKit Go.Sort

theorem bytes_nk {z key : ByteArray} (h : ¬ z = key) : (z.toList == key.toList) = false := by
  rw [ByteArray.toList_eq, ByteArray.toList_eq, beq_eq_false_iff_ne]
  intro e
  exact h (ByteArray.ext (Array.toList_inj.1 e))
theorem inL_take {l : List ByteArray} {s : ByteArray} {k : Nat} (hk : k < l.length) (h : inL (l.take k) s = false) (hn : ¬ l[k] = s) : inL (l.take (k + 1)) s = false := by
  rw [inL_false] at h ⊢
  rw [List.take_succ_eq_append_getElem hk]
  intro hm
  rcases List.mem_append.1 hm with hm | hm
  · exact h hm
  · exact hn (List.mem_singleton.1 hm).symm
theorem Tryd.infoSK : (Tryd.prog.info? 9).map (fun i => (i.zero, i.size, i.bytes)) = some (some (.string ⟨#[]⟩), 1, 16) := by kernel_rfl
set_option maxHeartbeats 2000000 in
theorem l13In_any (w : World) (a : Option Addr) (c : Nat) (L : List ByteArray) (s : ByteArray) (hA : LAt w a L w.heap.size) (hm : L.length ≤ 10000000) :
    Calls Tryd.prog 35 #[.slice a L.length c, .string s] w fun e w' => e = .returned (.bool (inL L s)) ∧ w' = w := by
  go_enter Tryd.func35, Tryd.ntmps35
  go_wp2
  go_loopw [5] (fun i wr => Box (∃ (k : Nat), k ≤ L.length ∧ i = .int .i64 k ∧ Hid (inL (L.take k) s = false) ∧ w = wr))
    (fun i _ => L.length - (intOf i).toNat)
  case atStart => exact ⟨⟨0, by omega, rfl, rfl, rfl⟩⟩
  case round =>
    obtain ⟨k, hk, rfl, HN, rfl⟩ := hrel.out
    by_cases hlt : k < L.length
    · obtain ⟨g, off, rfl, hg, hc⟩ := hA k hlt
      have hi1 : (0 : Int) ≤ (k : Int) := by omega
      have hi2 : (k : Int) < (L.length : Int) := by omega
      by_cases hz : L[k] = s
      · have HT : Hid (inL L s = true) := inL_iff.2 (by rw [← hz]; exact List.getElem_mem hlt)
        rw [hz] at hc
        clear hrel hz hA
        go_wp2
        go_ret
        exact ⟨by rw [HT.out]; rfl, rfl⟩
      · have HT : Hid (inL (L.take (k + 1)) s = false) := inL_take hlt HN.out hz
        have hz1 := bytes_nk hz
        obtain ⟨z, hzz⟩ : ∃ z, L[k] = z := ⟨_, rfl⟩
        rw [hzz] at hc hz1
        clear hrel hz hzz hA
        go_wp2
        go_roundw
        case rel =>
          try ((repeat apply Exists.intro); refine ⟨?_, rfl⟩)
          exact ⟨⟨k + 1, by omega, by go_num, HT, by first | rfl | trivial⟩⟩
        case measure => simp [intOf]; omega
    · go_wp2
      go_ret
      have hke : k = L.length := by omega
      have := HN.out
      rw [hke, List.take_length] at this
      exact ⟨by rw [this]; rfl, rfl⟩
theorem l13Key_any (w : World) (s : ByteArray) (hs : s.size ≤ 10000000) :
    Calls Tryd.prog 33 #[.string s] w fun e w' => e = .returned (.bool (keyOk s)) ∧ w' = w := by
  have c := in_any (s.size : Int) 1 30 w
  have e : inN (s.size : Int) 1 30 = keyOk s := by
    unfold inN keyOk
    by_cases h : 1 ≤ s.size ∧ s.size ≤ 30
    · rw [decide_eq_true h, decide_eq_true (by omega)]
    · rw [decide_eq_false h, decide_eq_false (by omega)]
  rw [e] at c
  clear e
  go_enter Tryd.func33, Tryd.ntmps33
  go_wp2_with (go_at_call 63; refine c.mono ?_; rintro e w' ⟨rfl, rfl⟩)
  go_ret
  exact ⟨rfl, rfl⟩
theorem without_take {l : List ByteArray} {s : ByteArray} {k : Nat} (hk : k < l.length) : without (l.take (k + 1)) s = without (l.take k) s ++ if l[k] = s then [] else [l[k]] := by
  unfold without
  rw [List.take_succ_eq_append_getElem hk, List.filter_append]
  by_cases h : l[k] = s <;> simp [h]
set_option maxHeartbeats 2000000 in
theorem l13Without_any (w : World) (a : Option Addr) (c : Nat) (L : List ByteArray) (s : ByteArray) (hA : LAt w a L w.heap.size) (hm : L.length ≤ 10000000) :
    Calls Tryd.prog 36 #[.slice a L.length c, .string s] w fun e w' => ∃ v, e = .returned v ∧ v ≠ .slice none 0 0 ∧ OwnV w' w.heap.size 9 v (strs (without L s)) ∧ Below w.heap.size w w' := by
  go_enter Tryd.func36, Tryd.ntmps36
  go_wp2
  go_loopw [5, 6] (fun v i wr => Box (∃ (k : Nat), k ≤ L.length ∧ i = .int .i64 k ∧ v ≠ .slice none 0 0 ∧ OwnV wr w.heap.size 9 v (strs (without (L.take k) s)) ∧ Below w.heap.size w wr))
    (fun _ i _ => L.length - (intOf i).toNat)
  case atStart => exact ⟨⟨0, by omega, rfl, by simp, World.ownsRow_made w #[] 0 (Nat.le_refl _) (by simp [maxLen]) (by simp), (Below.refl _ _).alloc (Nat.le_refl _) _⟩⟩
  case round =>
    obtain ⟨k, hk, rfl, hne, hown, hbel⟩ := hrel.out
    by_cases hlt : k < L.length
    · obtain ⟨g, off, rfl, hg, hc⟩ := (hA.below hbel (Nat.le_refl _)) k hlt
      have hwl : (without (L.take k) s).length ≤ k := by
        refine Nat.le_trans (List.length_filter_le _ _) ?_
        rw [List.length_take]
        omega
      have HT : Hid (without (L.take (k + 1)) s = without (L.take k) s ++ if L[k] = s then [] else [L[k]]) := without_take hlt
      have hi1 : (0 : Int) ≤ (k : Int) := by omega
      have hi2 : (k : Int) < (L.length : Int) := by omega
      obtain ⟨z, hzz⟩ : ∃ z, L[k] = z := ⟨_, rfl⟩
      rw [hzz] at hc HT
      have hsl := strs_length (without (L.take k) s)
      have hbs := hbel.size
      obtain ⟨M, hM⟩ : ∃ M, without (L.take k) s = M := ⟨_, rfl⟩
      rw [hM] at HT hown hwl hsl
      clear hrel hzz hA hM
      by_cases hz : z = s
      · rw [if_pos hz, List.append_nil] at HT
        subst hz
        go_wp2
        go_roundw
        case rel =>
          try ((repeat apply Exists.intro); refine ⟨?_, rfl⟩)
          exact ⟨⟨k + 1, by omega, by go_num, hne, by rw [HT.out]; exact hown, hbel⟩⟩
        case measure => simp [intOf]; omega
      · rw [if_neg hz] at HT
        have hz1 := bytes_nk hz
        go_wp2_with (at_builtin; refine wpList_snocV rfl (.tmp 20) (.tmp 25) 24 rfl w.heap.size 9 Tryd.underlying24 (.string ⟨#[]⟩) 16 Tryd.infoSK rfl _ (strs M) rfl hown (.string z) rfl rfl (by omega) (by omega) (by omega) ?_; intro v' w4 hown' hne' hbel' hsz')
        go_roundw
        case rel =>
          try ((repeat apply Exists.intro); refine ⟨?_, rfl⟩)
          exact ⟨⟨k + 1, by omega, by go_num, hne', by rw [HT.out]; simpa [strs] using hown', hbel.trans (hbel' _ (Below.refl _ _))⟩⟩
        case measure => simp [intOf]; omega
    · go_wp2
      go_ret
      have hke : k = L.length := by omega
      rw [hke, List.take_length] at hown
      exact ⟨_, rfl, hne, hown, hbel⟩
set_option maxHeartbeats 2000000 in
theorem specPolicyHas_any (w : World) (aw am ak : Option Addr) (cw cm ck : Nat) (P : Pol) (key : ByteArray) (hA : PolAt w aw am ak P w.heap.size) (hm : P.win.length ≤ 10000000) (hm' : P.main.length ≤ 10000000) :
    Calls Tryd.prog 20 #[.agg #[.slice aw P.win.length cw, .slice am P.main.length cm, .slice ak P.sk.rows.length ck, .int .i64 P.sk.added], .string key] w fun e w' => e = .returned (.bool (hasP P key)) ∧ Below w.heap.size w w' := by
  obtain ⟨w1, hw1⟩ : ∃ x, w.alloc (.cells #[.slice aw P.win.length cw, .slice am P.main.length cm, .slice ak P.sk.rows.length ck, .int .i64 P.sk.added] 29) = x := ⟨_, rfl⟩
  have hb1 : Below w.heap.size w w1 := by rw [← hw1]; exact (Below.refl _ _).alloc (Nat.le_refl _) _
  have hB : PBox w1 w.heap.size (.slice aw P.win.length cw) (.slice am P.main.length cm) (.slice ak P.sk.rows.length ck) (.int .i64 P.sk.added) := by rw [← hw1]; exact PBox.new _ _ _ _ _
  have hA1 := hA.on hb1
  obtain ⟨b0, b1, b2, b3⟩ := hB.cells
  have c1 := l13In_any w1 aw cw P.win key hA1.1 hm
  have c2 := l13In_any w1 am cm P.main key hA1.2.1 hm'
  have HW : Hid (w.alloc (.cells #[.slice aw P.win.length cw, .slice am P.main.length cm, .slice ak P.sk.rows.length ck, .int .i64 P.sk.added] 29) = w1) := hw1
  rw [← hw1] at b0 b1 b2 b3
  clear hw1 hB hA1 hA
  go_enter Tryd.func20, Tryd.ntmps20
  cases h : inL P.win key with
  | true =>
    rw [h] at c1
    have HH : Hid (hasP P key = true) := by show _ = _; simp [hasP, h]
    clear h
    go_wp2_with fail
    rw [HW.out] at b0 b1 b2 b3 ⊢
    refine c1.mono ?_
    rintro e w' ⟨rfl, rfl⟩
    go_wp2_with fail
    go_ret
    exact ⟨by rw [HH.out]; rfl, hb1⟩
  | false =>
    rw [h] at c1
    have HH : Hid (hasP P key = inL P.main key) := by show _ = _; simp [hasP, h]
    clear h
    go_wp2_with fail
    rw [HW.out] at b0 b1 b2 b3 ⊢
    refine c1.mono ?_
    rintro e w' ⟨rfl, rfl⟩
    generalize inL P.main key = q at c2 HH
    go_wp2_with fail
    refine c2.mono ?_
    rintro e w' ⟨rfl, rfl⟩
    go_wp2_with fail
    go_ret
    exact ⟨by rw [HH.out]; rfl, hb1⟩
end Go.Proofs.YtbcjkinalghokafDoor
