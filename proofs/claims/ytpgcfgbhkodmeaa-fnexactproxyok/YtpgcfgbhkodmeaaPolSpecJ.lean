/- Texts that stand in one: PolSpec, SkOkSpec. -/
import Derived.Test.YtpgcfgbhkodmeaaStrsJ
import Derived.Test.YtpgcfgbhkodmeaaRowedJ
import Derived.Test.YtpgcfgbhkodmeaaSkKit
namespace Go.Proofs.Ytpgcfgbhkodmeaa
open Go.RowKit Go.Sort

theorem bytes_nk {z key : ByteArray} (h : ¬ z = key) : (z.toList == key.toList) = false := by
  rw [ByteArray.toList_eq, ByteArray.toList_eq, beq_eq_false_iff_ne]
  intro e
  exact h (ByteArray.ext (Array.toList_inj.1 e))
theorem inL_take {l : List ByteArray} {s : ByteArray} {k : Nat} (hk : k < l.length) (h : inL (l.take k) s = false) (hn : ¬ l[k] = s) : inL (l.take (k + 1)) s = false := by
  rw [inL_false] at h ⊢
  rw [List.take_succ_eq_append_getElem hk]
  intro hm
  rcases List.mem_append.1 hm with hm | hm
  · exact h hm
  · exact hn (List.mem_singleton.1 hm).symm
theorem Try.infoSK : (Try.prog.info? 9).map (fun i => (i.zero, i.size, i.bytes)) = some (some (.string ⟨#[]⟩), 1, 16) := by kernel_rfl
set_option maxHeartbeats 2000000 in
theorem l13In_any (w : World) (a : Option Addr) (c : Nat) (L : List ByteArray) (s : ByteArray) (hA : LAt w a L w.heap.size) (hm : L.length ≤ 10000000) :
    Calls Try.prog 98 #[.slice a L.length c, .string s] w fun e w' => e = .returned (.bool (inL L s)) ∧ w' = w := by
  go_enter Try.func98, Try.ntmps98
  go_wp2
  go_loopw [5] (fun i wr => Box (∃ (k : Nat), k ≤ L.length ∧ i = .int .i64 k ∧ Hid (inL (L.take k) s = false) ∧ w = wr))
    (fun i _ => L.length - (intOf i).toNat)
  case atStart => exact ⟨⟨0, by omega, rfl, rfl, rfl⟩⟩
  case round =>
    obtain ⟨k, hk, rfl, HN, rfl⟩ := hrel.out
    by_cases hlt : k < L.length
    · obtain ⟨g, off, rfl, hg, hc⟩ := hA k hlt
      have hi1 : (0 : Int) ≤ (k : Int) := by omega
      have hi2 : (k : Int) < (L.length : Int) := by omega
      by_cases hz : L[k] = s
      · have HT : Hid (inL L s = true) := inL_iff.2 (by rw [← hz]; exact List.getElem_mem hlt)
        rw [hz] at hc
        clear hrel hz hA
        go_wp2
        go_ret
        exact ⟨by rw [HT.out]; rfl, rfl⟩
      · have HT : Hid (inL (L.take (k + 1)) s = false) := inL_take hlt HN.out hz
        have hz1 := bytes_nk hz
        obtain ⟨z, hzz⟩ : ∃ z, L[k] = z := ⟨_, rfl⟩
        rw [hzz] at hc hz1
        clear hrel hz hzz hA
        go_wp2
        go_roundw
        case rel =>
          try ((repeat apply Exists.intro); refine ⟨?_, rfl⟩)
          exact ⟨⟨k + 1, by omega, by go_num, HT, by first | rfl | trivial⟩⟩
        case measure => simp [intOf]; omega
    · go_wp2
      go_ret
      have hke : k = L.length := by omega
      have := HN.out
      rw [hke, List.take_length] at this
      exact ⟨by rw [this]; rfl, rfl⟩
theorem l13Key_any (w : World) (s : ByteArray) (hs : s.size ≤ 10000000) :
    Calls Try.prog 47 #[.string s] w fun e w' => e = .returned (.bool (keyOk s)) ∧ w' = w := by
  have c := in_any (s.size : Int) 1 30 w
  have e : inN (s.size : Int) 1 30 = keyOk s := by
    unfold inN keyOk
    by_cases h : 1 ≤ s.size ∧ s.size ≤ 30
    · rw [decide_eq_true h, decide_eq_true (by omega)]
    · rw [decide_eq_false h, decide_eq_false (by omega)]
  rw [e] at c
  clear e
  go_enter Try.func47, Try.ntmps47
  go_wp2_with (go_at_call 44; refine c.mono ?_; rintro e w' ⟨rfl, rfl⟩)
  go_ret
  exact ⟨rfl, rfl⟩
theorem without_take {l : List ByteArray} {s : ByteArray} {k : Nat} (hk : k < l.length) : without (l.take (k + 1)) s = without (l.take k) s ++ if l[k] = s then [] else [l[k]] := by
  unfold without
  rw [List.take_succ_eq_append_getElem hk, List.filter_append]
  by_cases h : l[k] = s <;> simp [h]
set_option maxHeartbeats 2000000 in
theorem specPolicyHas_any (w : World) (aw am ak : Option Addr) (cw cm ck : Nat) (P : Pol) (key : ByteArray) (hA : PolAt w aw am ak P w.heap.size) (hm : P.win.length ≤ 10000000) (hm' : P.main.length ≤ 10000000) :
    Calls Try.prog 76 #[.agg #[.slice aw P.win.length cw, .slice am P.main.length cm, .slice ak P.sk.rows.length ck, .int .i64 P.sk.added], .string key] w fun e w' => e = .returned (.bool (hasP P key)) ∧ Below w.heap.size w w' := by
  obtain ⟨w1, hw1⟩ : ∃ x, w.alloc (.cells #[.slice aw P.win.length cw, .slice am P.main.length cm, .slice ak P.sk.rows.length ck, .int .i64 P.sk.added] 38) = x := ⟨_, rfl⟩
  have hb1 : Below w.heap.size w w1 := by rw [← hw1]; exact (Below.refl _ _).alloc (Nat.le_refl _) _
  have hB : PBox w1 w.heap.size (.slice aw P.win.length cw) (.slice am P.main.length cm) (.slice ak P.sk.rows.length ck) (.int .i64 P.sk.added) := by rw [← hw1]; exact PBox.new _ _ _ _ _
  have hA1 := hA.on hb1
  obtain ⟨b0, b1, b2, b3⟩ := hB.cells
  have c1 := l13In_any w1 aw cw P.win key hA1.1 hm
  have c2 := l13In_any w1 am cm P.main key hA1.2.1 hm'
  have HW : Hid (w.alloc (.cells #[.slice aw P.win.length cw, .slice am P.main.length cm, .slice ak P.sk.rows.length ck, .int .i64 P.sk.added] 38) = w1) := hw1
  rw [← hw1] at b0 b1 b2 b3
  clear hw1 hB hA1 hA
  go_enter Try.func76, Try.ntmps76
  cases h : inL P.win key with
  | true =>
    rw [h] at c1
    have HH : Hid (hasP P key = true) := by show _ = _; simp [hasP, h]
    clear h
    go_wp2_with fail
    rw [HW.out] at b0 b1 b2 b3 ⊢
    refine c1.mono ?_
    rintro e w' ⟨rfl, rfl⟩
    go_wp2_with fail
    go_ret
    exact ⟨by rw [HH.out]; rfl, hb1⟩
  | false =>
    rw [h] at c1
    have HH : Hid (hasP P key = inL P.main key) := by show _ = _; simp [hasP, h]
    clear h
    go_wp2_with fail
    rw [HW.out] at b0 b1 b2 b3 ⊢
    refine c1.mono ?_
    rintro e w' ⟨rfl, rfl⟩
    generalize inL P.main key = q at c2 HH
    go_wp2_with fail
    refine c2.mono ?_
    rintro e w' ⟨rfl, rfl⟩
    go_wp2_with fail
    go_ret
    exact ⟨by rw [HH.out]; rfl, hb1⟩
end Go.Proofs.Ytpgcfgbhkodmeaa

namespace Go.Proofs.Ytpgcfgbhkodmeaa
open Go.RowKit Go.Sort

theorem okK_false {rows : List (List Int)} {added : Int} {k : Nat} (hk : k < rows.length) (h : rowOk rows[k] = false) : okK ⟨rows, added⟩ = false := by
  unfold okK
  rw [Bool.and_eq_false_iff]
  right
  rw [List.all_eq_false]
  exact ⟨rows[k], List.getElem_mem _, by simp [h]⟩
theorem okK_true {rows : List (List Int)} {added : Int} (h0 : headOkK ⟨rows, added⟩ = true) (h : ∀ j (hj : j < rows.length), rowOk rows[j] = true) : okK ⟨rows, added⟩ = true := by
  unfold okK
  rw [Bool.and_eq_true]
  refine ⟨h0, ?_⟩
  rw [List.all_eq_true]
  intro r hr
  obtain ⟨j, hj, rfl⟩ := List.getElem_of_mem hr
  exact h j hj
theorem rowOk_len_false {r : List Int} (h : ¬ r.length = 16) : rowOk r = false := by simp [rowOk, h]
theorem rowOk_num_false {r : List Int} {q : Nat} (hq : q < r.length) (h : numOk r[q] = false) : rowOk r = false := by
  unfold rowOk
  rw [Bool.and_eq_false_iff]
  right
  rw [List.all_eq_false]
  exact ⟨r[q], List.getElem_mem _, by simp [h]⟩
theorem rowOk_true {r : List Int} (hl : r.length = 16) (h : ∀ q (hq : q < r.length), numOk r[q] = true) : rowOk r = true := by
  unfold rowOk
  rw [Bool.and_eq_true]
  refine ⟨by simpa using hl, ?_⟩
  rw [List.all_eq_true]
  intro z hz
  obtain ⟨q, hq, rfl⟩ := List.getElem_of_mem hz
  exact h q hq

set_option maxRecDepth 100000 in
set_option maxHeartbeats 2000000 in
theorem specSketchOk_any (w : World) (a : Option Addr) (c : Nat) (S : Sk) (hA : SSAt w a S.rows w.heap.size) (hm : S.rows.length ≤ 1048576) :
    Calls Try.prog 99 #[.agg #[.slice a S.rows.length c, .int .i64 S.added]] w fun e w' => e = .returned (.bool (okK S)) ∧ Below w.heap.size w w' := by
  obtain ⟨rows, added⟩ := S
  dsimp only at *
  obtain ⟨w1, hw1⟩ : ∃ x, w.alloc (.cells #[.slice a rows.length c, .int .i64 added] 36) = x := ⟨_, rfl⟩
  have hb1 : Below w.heap.size w w1 := by rw [← hw1]; exact (Below.refl _ _).alloc (Nat.le_refl _) _
  have hB : SkBox w1 w.heap.size (.slice a rows.length c) (.int .i64 added) := by rw [← hw1]; exact SkBox.new _ _ _
  have hA1 := hA.on hb1
  obtain ⟨b0, b1⟩ := hB.cells
  have HW : Hid (w.alloc (.cells #[.slice a rows.length c, .int .i64 added] 36) = w1) := hw1
  rw [← hw1] at b0 b1
  clear hw1 hB hA
  go_enter Try.func99, Try.ntmps99
  by_cases h3 : rows.length = 3
  case neg =>
    have hn : ((rows.length : Int) != 3) = true := by simp; omega
    have HF : Hid (okK ⟨rows, added⟩ = false) := by show _ = _; simp [okK, headOkK, h3]
    clear h3
    go_wp2
    go_ret
    exact ⟨by rw [HF.out]; rfl, by rw [HW.out]; exact hb1⟩
  have hn : ((rows.length : Int) != 3) = false := by simp; omega
  have H3 : Hid (rows.length = 3) := h3
  clear h3
  by_cases hin : inN added 0 63 = true
  case neg =>
    have hinf : inN added 0 63 = false := by simpa using hin
    have cI : ∀ wi, Calls Try.prog 44 #[.int .i64 added, .int .i64 0, .int .i64 63] wi fun e w' => e = .returned (.bool false) ∧ w' = wi := by intro wi; have := in_any added 0 63 wi; rw [hinf] at this; exact this
    have HF : Hid (okK ⟨rows, added⟩ = false) := by
      have e : decide (0 ≤ added ∧ added ≤ 63) = false := hinf
      show _ = _
      simp only [okK, headOkK, e, Bool.and_false, Bool.false_and]
    clear hin hinf
    go_wp2_with (go_at_call 44; refine (cI _).mono ?_; rintro e w' ⟨rfl, rfl⟩)
    go_ret
    exact ⟨by rw [HF.out]; rfl, by rw [HW.out]; exact hb1⟩
  have cI : ∀ wi, Calls Try.prog 44 #[.int .i64 added, .int .i64 0, .int .i64 63] wi fun e w' => e = .returned (.bool true) ∧ w' = wi := by intro wi; have := in_any added 0 63 wi; rw [hin] at this; exact this
  have HH : Hid (headOkK ⟨rows, added⟩ = true) := by
    have e : decide (0 ≤ added ∧ added ≤ 63) = true := hin
    show _ = _
    simp only [headOkK, e, H3.out, decide_true, Bool.and_true]
  clear hin
  go_wp2_with (go_at_call 44; refine (cI _).mono ?_; rintro e w' ⟨rfl, rfl⟩)
  rw [HW.out] at b0 b1 ⊢
  go_loopw [3, 4] (fun i _ wr => Box (∃ (k : Nat), k ≤ rows.length ∧ i = .int .i64 k ∧ Hid (∀ j (hj : j < rows.length), j < k → rowOk rows[j] = true) ∧ w1 = wr))
    (fun i _ _ => rows.length - (intOf i).toNat)
  case atStart => exact ⟨⟨0, by omega, rfl, (fun j hj h => by omega), rfl⟩⟩
  case round =>
    obtain ⟨k, hk, rfl, HP, rfl⟩ := hrel.out
    by_cases hlt : k < rows.length
    · obtain ⟨g, off, ai, ci, rfl, hg, hc, hI⟩ := hA1 k hlt
      have HFK : Hid (rowOk rows[k] = false → okK ⟨rows, added⟩ = false) := okK_false hlt
      have HPK : Hid (rowOk rows[k] = true → ∀ j (hj : j < rows.length), j < k + 1 → rowOk rows[j] = true) := by
        intro h j hj hjk
        by_cases e : j = k
        · subst e; exact h
        · exact HP.out j hj (by omega)
      obtain ⟨r, hr⟩ : ∃ r, rows[k] = r := ⟨_, rfl⟩
      rw [hr] at hc hI HFK HPK
      clear hrel hr cI hn
      have hi1 : (0 : Int) ≤ (k : Int) := by omega
      have hi2 : (k : Int) < (rows.length : Int) := by omega
      by_cases h16 : r.length = 16
      case neg =>
        have hn : ((r.length : Int) != 16) = true := by simp; omega
        have HF : Hid (okK ⟨rows, added⟩ = false) := HFK.out (rowOk_len_false h16)
        clear h16
        go_wp2
        go_ret
        exact ⟨by rw [HF.out]; rfl, hb1⟩
      have hn : ((r.length : Int) != 16) = false := by simp; omega
      have H16 : Hid (r.length = 16) := h16
      have hr16 : r.length ≤ 16 := by omega
      clear h16
      go_wp2
      go_loopw [4] (fun i wr => Box (∃ (q : Nat), q ≤ r.length ∧ i = .int .i64 q ∧ Hid (∀ j (hj : j < r.length), j < q → numOk r[j] = true) ∧ w1 = wr))
        (fun i _ => r.length - (intOf i).toNat)
      case atStart => exact ⟨⟨0, by omega, rfl, (fun j hj h => by omega), rfl⟩⟩
      case round =>
        obtain ⟨q, hq, rfl, HQ, rfl⟩ := hrel.out
        by_cases hlq : q < r.length
        · obtain ⟨g2, off2, rfl, hg2, hc2⟩ := hI q hlq
          have HNF : Hid (numOk r[q] = false → rowOk r = false) := rowOk_num_false hlq
          have HQK : Hid (numOk r[q] = true → ∀ j (hj : j < r.length), j < q + 1 → numOk r[j] = true) := by
            intro h j hj hjk
            by_cases e : j = q
            · subst e; exact h
            · exact HQ.out j hj (by omega)
          obtain ⟨z, hz⟩ : ∃ z, r[q] = z := ⟨_, rfl⟩
          rw [hz] at hc2 HNF HQK
          clear hrel hz
          have hj1 : (0 : Int) ≤ (q : Int) := by omega
          have hj2 : (q : Int) < (r.length : Int) := by omega
          have cN := fun wi => in_any z 0 15 wi
          by_cases hno : inN z 0 15 = true
          · rw [hno] at cN
            have HT : Hid (∀ j (hj : j < r.length), j < q + 1 → numOk r[j] = true) := HQK.out hno
            clear hno
            go_wp2_with (go_at_call 44; refine (cN _).mono ?_; rintro e w' ⟨rfl, rfl⟩)
            go_roundw
            case rel =>
              try ((repeat apply Exists.intro); refine ⟨?_, rfl⟩)
              exact ⟨⟨q + 1, by omega, by go_num, HT, by first | rfl | trivial⟩⟩
            case measure => simp [intOf]; omega
          · have hnof : inN z 0 15 = false := by simpa using hno
            rw [hnof] at cN
            have HF : Hid (okK ⟨rows, added⟩ = false) := HFK.out (HNF.out hnof)
            clear hno hnof
            go_wp2_with (go_at_call 44; refine (cN _).mono ?_; rintro e w' ⟨rfl, rfl⟩)
            go_ret
            exact ⟨by rw [HF.out]; rfl, hb1⟩
        · have HT : Hid (rowOk r = true) := rowOk_true H16.out fun j hj => HQ.out j hj (by omega)
          go_wp2
          refine ⟨⟨⟨k + 1, by omega, by go_num, HPK.out HT.out, trivial⟩⟩, ?_⟩
          simp [intOf]
          omega
    · have HT : Hid (okK ⟨rows, added⟩ = true) := okK_true HH.out fun j hj => HP.out j hj (by omega)
      clear cI
      go_wp2
      go_ret
      exact ⟨by rw [HT.out]; rfl, hb1⟩
end Go.Proofs.Ytpgcfgbhkodmeaa
