/- The program's HeadOk and HeadText. -/
import Derived.Test.YtnnaphfeeobelaeGreatDoorFieldOkImplJ
import Derived.Test.YtnnaphfeeobelaeGreatDoorHeadPlainJ
import Derived.Laws.Concat
namespace Go.Proofs.YtnnaphfeeobelaeGreatDoor
open Go.RowKit Go.Sort
/-- Two cells of a type in a variable. -/
def VBx (w : World) (T : Nat) (e : TypeId) (l v : Value) : Prop := w.heap[T]? = some (.cells #[l, v] e (0, 0))
theorem VBx.lt {w : World} {T : Nat} {e : TypeId} {l v : Value} (h : VBx w T e l v) : T < w.heap.size := (Array.getElem?_eq_some_iff.1 h).1
theorem VBx.on {w w' : World} {T : Nat} {e : TypeId} {l v : Value} (h : VBx w T e l v) (hb : Below w.heap.size w w') : VBx w' T e l v := (hb.block T h.lt).trans h
theorem VBx.cells {w : World} {T : Nat} {e : TypeId} {l v : Value} (h : VBx w T e l v) : w.cell? ⟨T, 0, none⟩ = some l ∧ w.cell? ⟨T, 1, none⟩ = some v := by
  unfold VBx at h
  exact ⟨by simp [World.cell?, h], by simp [World.cell?, h]⟩
theorem VBx.thaw {w : World} {T : Nat} {e : TypeId} {l v : Value} (h : VBx w T e l v) (i : Nat) : w.frozen? ⟨T, i, none⟩ = false := by unfold VBx at h; simp [World.frozen?, h]
set_option maxRecDepth 100000 in
set_option maxHeartbeats 4000000 in
theorem implFieldsOk_w (w : World) (a : Option Addr) (c : Nat) (line : ByteArray) (L : List (ByteArray × ByteArray)) (hA : DAt w a L w.heap.size) (hz : HdSw line L) :
    Calls Tryz.prog 51 #[.slice a L.length c] w fun e w' => e = .returned (.bool (decide (L.length ≤ 8) && L.all fieldOkS)) ∧ Below w.heap.size w w' := by
  obtain ⟨R, hR⟩ : ∃ R, (decide (L.length ≤ 8) && L.all fieldOkS) = R := ⟨_, rfl⟩
  rw [hR]
  have HR : Hid ((decide (L.length ≤ 8) && L.all fieldOkS) = R) := hR
  clear hR
  by_cases h8 : 8 < L.length
  · have HP : Hid (R = false) := by show _ = _; rw [← HR.out, decide_eq_false (by omega)]; rfl
    have h8' : (8 : Int) < (L.length : Int) := by omega
    clear HR
    go_enter Tryz.func51, Tryz.ntmps51
    go_wp2_with fail
    go_ret
    exact ⟨by rw [HP.out]; rfl, Below.refl _ _⟩
  · have HR3 : Hid (L.all fieldOkS = R) := by show _ = _; rw [← HR.out, decide_eq_true (show L.length ≤ 8 by omega)]; rfl
    have h8' : ¬ (8 : Int) < (L.length : Int) := by omega
    clear HR
    go_enter Tryz.func51, Tryz.ntmps51
    go_wp2_with fail
    go_loopw [4, 10] (fun _ i wr => Box (∃ k : Nat, k ≤ L.length ∧ i = .int .i64 k ∧ Hid (∀ q (hq : q < L.length), q < k → fieldOkS L[q] = true) ∧ Below w.heap.size w wr))
      (fun _ i _ => L.length - (intOf i).toNat)
    case atStart => exact ⟨⟨0, by omega, rfl, fun q _ hq => absurd hq (Nat.not_lt_zero _), Below.refl _ _⟩⟩
    case round =>
      obtain ⟨k, hk, rfl, HN, hbr⟩ := hrel.out
      clear hrel
      by_cases hlt : k < L.length
      · obtain ⟨g, off, hga, _, q0, q1⟩ := (hA.on hbr) k hlt
        have hsz := hz.at k hlt
        obtain ⟨f, hf⟩ : ∃ f, L[k] = f := ⟨_, rfl⟩
        rw [hf] at q0 q1 hsz
        have HF : Hid (L[k] = f) := hf
        obtain ⟨wx, hwx⟩ : ∃ x, wr.alloc (.cells #[.string f.1, .string f.2] 29) = x := ⟨_, rfl⟩
        have hbx : Below wr.heap.size wr wx := by rw [← hwx]; exact (Below.refl _ _).alloc (Nat.le_refl _) _
        have hbrx := hbr.trans (hbx.mono hbr.size)
        have HX : Hid (wr.alloc (.cells #[.string f.1, .string f.2] 29) = wx) := hwx
        have cF := implFieldOk_any f wx hsz.1 hsz.2.1
        subst hga
        have hi1 : (0 : Int) ≤ (k : Int) := by omega
        have hi2 : (k : Int) < (L.length : Int) := by omega
        have hkb : k ≤ 8 := by omega
        clear hf hsz hwx
        cases hfo : fieldOkS f with
        | false =>
          rw [hfo] at cF
          have HP : Hid (R = false) := by show _ = _; rw [← HR3.out, all_no hlt (by rw [HF.out]; exact hfo)]
          clear hfo
          go_wp2_with fail
          rw [HX.out]
          refine cF.mono ?_
          rintro e w2 ⟨rfl, hb2⟩
          go_wp2_with fail
          go_ret
          exact ⟨by rw [HP.out]; rfl, hbrx.trans (hb2.mono hbrx.size)⟩
        | true =>
          rw [hfo] at cF
          have HP : Hid (fieldOkS f = true) := hfo
          clear hfo
          go_wp2_with fail
          rw [HX.out]
          refine cF.mono ?_
          rintro e w2 ⟨rfl, hb2⟩
          have hb12 := hbrx.trans (hb2.mono hbrx.size)
          clear cF q0 q1
          go_wp2_with fail
          go_roundw
          case rel =>
            try ((repeat apply Exists.intro); refine ⟨?_, rfl⟩)
            refine ⟨⟨k + 1, by omega, by go_num, fun q hq hqk => ?_, hb12⟩⟩
            by_cases e : q = k
            · subst e; rw [HF.out]; exact HP.out
            · exact HN.out q hq (by omega)
          case measure => simp [intOf]; omega
      · have hi2 : ¬ (k : Int) < (L.length : Int) := by omega
        have HP : Hid (R = true) := by show _ = _; rw [← HR3.out, all_go fun q hq => HN.out q hq (by omega)]
        go_wp2_with fail
        go_ret
        exact ⟨by rw [HP.out]; rfl, hbr⟩
theorem implFieldsOk_any (w : World) (a : Option Addr) (c : Nat) (line : ByteArray) (L : List (ByteArray × ByteArray)) (hA : DAt w a L w.heap.size) (hz : HdSz line L) :
    Calls Tryz.prog 51 #[.slice a L.length c] w fun e w' => e = .returned (.bool (decide (L.length ≤ 8) && L.all fieldOkS)) ∧ Below w.heap.size w w' := implFieldsOk_w w a c line L hA hz.wide
set_option maxRecDepth 100000 in
set_option maxHeartbeats 4000000 in
theorem implLines_w (w : World) (a : Option Addr) (c : Nat) (line : ByteArray) (L : List (ByteArray × ByteArray)) (hA : DAt w a L w.heap.size) (hz : HdSw line L) :
    Calls Tryz.prog 52 #[.slice a L.length c] w fun e w' => e = .returned (.string (linesT L)) ∧ Below w.heap.size w w' := by
  have hz' := hz.1
  have hzl := hz.2.1
  go_enter Tryz.func52, Tryz.ntmps52
  go_wp2
  go_loopw [3, 5, 8] (fun s _ i wr => Box (∃ (k : Nat) (t : ByteArray), k ≤ L.length ∧ i = .int .i64 k ∧ s = .string t ∧ Hid (t = linesT (L.take k)) ∧ Below w.heap.size w wr))
    (fun _ _ i _ => L.length - (intOf i).toNat)
  case atStart => exact ⟨⟨0, _, by omega, rfl, rfl, by show _ = _; rw [List.take_zero]; rfl, Below.refl _ _⟩⟩
  case round =>
    obtain ⟨k, t, hk, rfl, rfl, HT, hbr⟩ := hrel.out
    clear hrel
    have htz : t.size = wgtT (L.take k) + 4 * min k L.length := by
      rw [HT.out, linesT_size, List.length_take]
    have hwl := wgtT_le L k
    by_cases hlt : k < L.length
    · obtain ⟨g, off, hga, _, q0, q1⟩ := (hA.on hbr) k hlt
      have hsz := hz.at k hlt
      have hstep := linesT_take hlt rfl
      obtain ⟨f, hf⟩ : ∃ f, L[k] = f := ⟨_, rfl⟩
      rw [hf] at q0 q1 hsz hstep
      obtain ⟨n, v⟩ := f
      dsimp only at q0 q1 hsz
      obtain ⟨wx, hwx⟩ : ∃ x, wr.alloc (.cells #[.string n, .string v] 29) = x := ⟨_, rfl⟩
      have hbx : Below wr.heap.size wr wx := by rw [← hwx]; exact (Below.refl _ _).alloc (Nat.le_refl _) _
      have hbrx := hbr.trans (hbx.mono hbr.size)
      have h1 := fun w => run_string_add_sum (P := Tryz.prog) (w := w) n ⟨#[58, 32]⟩ (by show _ + 2 ≤ _; omega)
      have h2 := fun w => run_string_add_sum (P := Tryz.prog) (w := w) (n ++ ⟨#[58, 32]⟩) v (by rw [ByteArray.size_append]; show _ + 2 + _ ≤ _; omega)
      have h3 := fun w => run_string_add_sum (P := Tryz.prog) (w := w) ((n ++ ⟨#[58, 32]⟩) ++ v) ⟨#[13, 10]⟩ (by rw [ByteArray.size_append, ByteArray.size_append]; show _ + 2 + _ + 2 ≤ _; omega)
      have h4 := fun w => run_string_add_sum (P := Tryz.prog) (w := w) t (((n ++ ⟨#[58, 32]⟩) ++ v) ++ ⟨#[13, 10]⟩) (by rw [ByteArray.size_append, ByteArray.size_append, ByteArray.size_append]; show _ + (_ + 2 + _ + 2) ≤ _; omega)
      have HN : Hid (t ++ (((n ++ ⟨#[58, 32]⟩) ++ v) ++ ⟨#[13, 10]⟩) = linesT (L.take (k + 1))) := by
        show _ = _
        rw [hstep, ← HT.out]
        rfl
      generalize t ++ (((n ++ ⟨#[58, 32]⟩) ++ v) ++ ⟨#[13, 10]⟩) = t4 at h4 HN
      generalize ((n ++ ⟨#[58, 32]⟩) ++ v) ++ ⟨#[13, 10]⟩ = t3 at h3 h4
      generalize (n ++ ⟨#[58, 32]⟩) ++ v = t2 at h2 h3
      generalize n ++ ⟨#[58, 32]⟩ = t1 at h1 h2
      have HX : Hid (wr.alloc (.cells #[.string n, .string v] 29) = wx) := hwx
      subst hga
      have hi1 : (0 : Int) ≤ (k : Int) := by omega
      have hi2 : (k : Int) < (L.length : Int) := by omega
      have HK : Hid (k < L.length) := hlt
      have hkb : k ≤ 1048600 := by omega
      clear hf hstep hsz htz hwl hz' hz hlt hk hwx hbx
      go_wp2
      go_roundw
      case rel =>
        try ((repeat apply Exists.intro); refine ⟨?_, rfl⟩)
        exact ⟨⟨k + 1, t4, HK.out, by go_num, rfl, HN, by rw [HX.out]; exact hbrx⟩⟩
      case measure => have := HK.out; simp [intOf]; omega
    · have hi2 : ¬ (k : Int) < (L.length : Int) := by omega
      have hke : k = L.length := by omega
      have HE : Hid (t = linesT L) := by
        show _ = _
        rw [HT.out, hke, List.take_length]
      clear htz hwl hz' hz
      go_wp2
      go_ret
      exact ⟨by rw [← HE.out]; rfl, hbr⟩
theorem implLines_any (w : World) (a : Option Addr) (c : Nat) (line : ByteArray) (L : List (ByteArray × ByteArray)) (hA : DAt w a L w.heap.size) (hz : HdSz line L) :
    Calls Tryz.prog 52 #[.slice a L.length c] w fun e w' => e = .returned (.string (linesT L)) ∧ Below w.heap.size w w' := implLines_w w a c line L hA hz.wide
set_option maxRecDepth 100000 in
set_option maxHeartbeats 4000000 in
theorem implText_w (w : World) (a : Option Addr) (c : Nat) (line : ByteArray) (L : List (ByteArray × ByteArray)) (hA : DAt w a L w.heap.size) (hz : HdSw line L) :
    Calls Tryz.prog 36 #[.agg #[.string line, .slice a L.length c]] w fun e w' => e = .returned (.string (headT line L)) ∧ Below w.heap.size w w' := by
  obtain ⟨wb, hwb⟩ : ∃ wb, w.alloc (.cells #[.string line, .slice a L.length c] 53) = wb := ⟨_, rfl⟩
  have hb : Below w.heap.size w wb := by rw [← hwb]; exact (Below.refl _ _).alloc (Nat.le_refl _) _
  have hX : VBx wb w.heap.size 53 (.string line) (.slice a L.length c) := by rw [← hwb]; exact heap_alloc_new w _
  have hAb := hA.on hb
  have HW : Hid (w.alloc (.cells #[.string line, .slice a L.length c] 53) = wb) := hwb
  obtain ⟨b0, b1⟩ := hX.cells
  have k0 := cell_regrown b0
  have k1 := cell_regrown b1
  have hz' := hz.1
  have hzl := hz.2.1
  have cL : ∀ d os, Calls Tryz.prog 52 #[.slice a L.length c] (grow (redrawn wb d) os) fun e w'' => e = .returned (.string (linesT L)) ∧ ∃ p : Regrown, w'' = grow (redrawn wb p.d) p.os := fun d os => Calls.regrown_of (implLines_w _ a c line L (hAb.on (below_regrown wb d os)) hz)
  have hsz := linesT_size L
  have h1 := fun w => run_string_add_sum (P := Tryz.prog) (w := w) line ⟨#[13, 10]⟩ (by show _ + 2 ≤ _; omega)
  have h2 := fun w => run_string_add_sum (P := Tryz.prog) (w := w) (line ++ ⟨#[13, 10]⟩) (linesT L) (by rw [ByteArray.size_append]; show _ + 2 + _ ≤ _; omega)
  have h3 := fun w => run_string_add_sum (P := Tryz.prog) (w := w) ((line ++ ⟨#[13, 10]⟩) ++ linesT L) ⟨#[13, 10]⟩ (by rw [ByteArray.size_append, ByteArray.size_append]; show _ + 2 + _ + 2 ≤ _; omega)
  have HE : Hid (((line ++ ⟨#[13, 10]⟩) ++ linesT L) ++ ⟨#[13, 10]⟩ = headT line L) := rfl
  obtain ⟨R, hR⟩ : ∃ R, headT line L = R := ⟨_, rfl⟩
  rw [hR] at HE ⊢
  generalize ((line ++ ⟨#[13, 10]⟩) ++ linesT L) ++ ⟨#[13, 10]⟩ = t3 at h3 HE
  generalize (line ++ ⟨#[13, 10]⟩) ++ linesT L = t2 at h2 h3
  generalize line ++ ⟨#[13, 10]⟩ = t1 at h1 h2
  generalize linesT L = LT at cL h2
  have hdr := below_regrown wb
  clear hwb hA hz' hz hsz b0 b1 hX hAb hR
  go_enter Tryz.func36, Tryz.ntmps36
  go_wp2
  rw [HW.out]
  refine wp_region_quiet_below (by kernel_rfl) (by kernel_rfl) ?_
  repeat (first | go_big_quiet_step (with_reducible exact cL _ _) | quiet_step (with_reducible exact cL _ _))
  refine wpQuiet_nil ?_
  intro _ hw'
  obtain ⟨⟨dq, osq⟩, hw''⟩ := hw'
  subst hw''
  go_wp2
  go_ret
  exact ⟨by rw [← HE.out]; rfl, hb.trans ((hdr dq osq).mono hb.size)⟩
theorem implText_any (w : World) (a : Option Addr) (c : Nat) (line : ByteArray) (L : List (ByteArray × ByteArray)) (hA : DAt w a L w.heap.size) (hz : HdSz line L) :
    Calls Tryz.prog 36 #[.agg #[.string line, .slice a L.length c]] w fun e w' => e = .returned (.string (headT line L)) ∧ Below w.heap.size w w' := implText_w w a c line L hA hz.wide
set_option maxHeartbeats 4000000 in
theorem implWire_any (w : World) (a : Option Addr) (c n : Nat) (line : ByteArray) :
    Calls Tryz.prog 34 #[.agg #[.string line, .slice a n c]] w fun e w' => e = .returned (.agg #[.string line, .slice a n c]) ∧ Below w.heap.size w w' := by
  go_enter Tryz.func34, Tryz.ntmps34
  go_wp2
  refine bodyPost_ret (v := .agg #[.string line, .slice a n c]) (by simp [results, Tryz.results34, go_sem]) rfl ⟨rfl, ?_⟩
  exact ((Below.refl w.heap.size w).alloc (Nat.le_refl _) _).alloc (by simp) _
set_option maxRecDepth 100000 in
set_option maxHeartbeats 4000000 in
theorem implLineOk_any (s : ByteArray) (w : World) (hs : s.size ≤ 1048576) :
    Calls Tryz.prog 50 #[.string s] w fun e w' => e = .returned (.bool (decide (1 ≤ s.size) && plainS s 80)) ∧ w' = w := by
  obtain ⟨R, hR⟩ : ∃ R, (decide (1 ≤ s.size) && plainS s 80) = R := ⟨_, rfl⟩
  rw [hR]
  have HR : Hid ((decide (1 ≤ s.size) && (allB plainB s && decide ((s.size : Int) ≤ 80))) = R) := hR
  have cP := implPlain_any s w hs
  clear hR
  by_cases h0 : s.size = 0
  · have HP : Hid (R = false) := by show _ = _; rw [← HR.out, decide_eq_false (by omega)]; rfl
    have he := name_empty h0
    subst he
    clear h0 HR cP
    go_enter Tryz.func50, Tryz.ntmps50
    go_wp2_with fail
    go_ret
    exact ⟨by rw [HP.out]; rfl, rfl⟩
  have hne := text_some h0
  by_cases h80 : (s.size : Int) ≤ 80
  · have HP : Hid (R = allB plainB s) := by show _ = _; rw [← HR.out, decide_eq_true (show 1 ≤ s.size by omega), decide_eq_true h80]; simp
    clear HR
    generalize allB plainB s = B at cP HP
    go_enter Tryz.func50, Tryz.ntmps50
    go_wp2_with fail
    refine cP.mono ?_
    rintro e w1 ⟨rfl, hw1⟩
    rw [hw1]
    go_wp2_with fail
    go_ret
    exact ⟨by rw [HP.out]; rfl, rfl⟩
  · have HP : Hid (R = false) := by show _ = _; rw [← HR.out, decide_eq_false h80]; simp
    clear HR cP
    go_enter Tryz.func50, Tryz.ntmps50
    go_wp2_with fail
    go_ret
    exact ⟨by rw [HP.out]; rfl, rfl⟩
set_option maxRecDepth 100000 in
set_option maxHeartbeats 4000000 in
theorem implOk_w (w : World) (a : Option Addr) (c : Nat) (line : ByteArray) (L : List (ByteArray × ByteArray)) (hA : DAt w a L w.heap.size) (hz : HdSw line L) :
    Calls Tryz.prog 35 #[.agg #[.string line, .slice a L.length c]] w fun e w' => e = .returned (.bool (headOkS line L)) ∧ Below w.heap.size w w' := by
  obtain ⟨wb, hwb⟩ : ∃ wb, w.alloc (.cells #[.string line, .slice a L.length c] 53) = wb := ⟨_, rfl⟩
  have hb : Below w.heap.size w wb := by rw [← hwb]; exact (Below.refl _ _).alloc (Nat.le_refl _) _
  have hX : VBx wb w.heap.size 53 (.string line) (.slice a L.length c) := by rw [← hwb]; exact heap_alloc_new w _
  have hAb := hA.on hb
  have HW : Hid (w.alloc (.cells #[.string line, .slice a L.length c] 53) = wb) := hwb
  obtain ⟨b0, b1⟩ := hX.cells
  rw [← hwb] at b0 b1
  have hz' := hz.1
  have hzl := hz.2.1
  obtain ⟨R, hR⟩ : ∃ R, headOkS line L = R := ⟨_, rfl⟩
  rw [hR]
  have HR : Hid (((decide (1 ≤ line.size) && plainS line 80) && (decide (L.length ≤ 8) && L.all fieldOkS) && decide ((headT line L).size ≤ 300)) = R) := hR
  have cP := implLineOk_any line wb (by omega)
  have cF := implFieldsOk_w wb a c line L hAb hz
  generalize (decide (1 ≤ line.size) && plainS line 80) = B1 at cP HR
  generalize (decide (L.length ≤ 8) && L.all fieldOkS) = B2 at cF HR
  clear hwb hA hR hz'
  cases B1 with
  | false =>
    have HP : Hid (R = false) := by show _ = _; rw [← HR.out]; rfl
    clear HR cF
    go_enter Tryz.func35, Tryz.ntmps35
    go_wp2_with fail
    rw [HW.out] at b0 b1 ⊢
    refine cP.mono ?_
    rintro e w1 ⟨rfl, hw1⟩
    rw [hw1]
    go_wp2_with fail
    go_ret
    exact ⟨by rw [HP.out]; rfl, hb⟩
  | true =>
    cases B2 with
    | false =>
      have HP : Hid (R = false) := by show _ = _; rw [← HR.out]; rfl
      clear HR
      go_enter Tryz.func35, Tryz.ntmps35
      go_wp2_with fail
      rw [HW.out] at b0 b1 ⊢
      refine cP.mono ?_
      rintro e w1 ⟨rfl, hw1⟩
      rw [hw1]
      go_wp2_with fail
      refine cF.mono ?_
      rintro e w2 ⟨rfl, hb2⟩
      go_wp2_with fail
      go_ret
      exact ⟨by rw [HP.out]; rfl, hb.trans (hb2.mono hb.size)⟩
    | true =>
      have HP : Hid (R = decide (((headT line L).size : Int) ≤ 300)) := by show _ = _; rw [← HR.out]; show (true && decide ((headT line L).size ≤ 300)) = _; rw [Bool.true_and]; exact decide_eq_decide.2 (by omega)
      clear HR
      obtain ⟨T, hT⟩ : ∃ T, headT line L = T := ⟨_, rfl⟩
      have HT : Hid (headT line L = T) := hT
      rw [hT] at HP
      clear hT
      go_enter Tryz.func35, Tryz.ntmps35
      go_wp2_with fail
      rw [HW.out] at b0 b1 ⊢
      refine cP.mono ?_
      rintro e w1 ⟨rfl, hw1⟩
      rw [hw1]
      go_wp2_with fail
      refine cF.mono ?_
      rintro e w2 ⟨rfl, hb2⟩
      clear b0 b1
      obtain ⟨b0, b1⟩ := (hX.on hb2).cells
      have cT := implText_w w2 a c line L (hAb.on hb2) hz
      rw [HT.out] at cT
      go_wp2_with fail
      refine cT.mono ?_
      rintro e w3 ⟨rfl, hb3⟩
      go_wp2_with fail
      go_ret
      exact ⟨by rw [HP.out]; rfl, hb.trans ((hb2.trans (hb3.mono hb2.size)).mono hb.size)⟩
theorem implOk_any (w : World) (a : Option Addr) (c : Nat) (line : ByteArray) (L : List (ByteArray × ByteArray)) (hA : DAt w a L w.heap.size) (hz : HdSz line L) :
    Calls Tryz.prog 35 #[.agg #[.string line, .slice a L.length c]] w fun e w' => e = .returned (.bool (headOkS line L)) ∧ Below w.heap.size w w' := implOk_w w a c line L hA hz.wide
set_option maxRecDepth 100000 in
set_option maxHeartbeats 4000000 in
theorem implHeadText_w (w : World) (a : Option Addr) (c : Nat) (line : ByteArray) (L : List (ByteArray × ByteArray)) (hA : DAt w a L w.heap.size) (hz : HdSw line L) :
    Calls Tryz.prog 20 #[.agg #[.string line, .slice a L.length c]] w fun e w' => e = .returned (.tuple #[.string (headTextS line L).1, .bool (headTextS line L).2]) ∧ Below w.heap.size w w' := by
  obtain ⟨wb, hwb⟩ : ∃ wb, w.alloc (.cells #[.string line, .slice a L.length c] 32) = wb := ⟨_, rfl⟩
  have hb : Below w.heap.size w wb := by rw [← hwb]; exact (Below.refl _ _).alloc (Nat.le_refl _) _
  have hX : VBx wb w.heap.size 32 (.string line) (.slice a L.length c) := by rw [← hwb]; exact heap_alloc_new w _
  have hAb := hA.on hb
  have HW : Hid (w.alloc (.cells #[.string line, .slice a L.length c] 32) = wb) := hwb
  obtain ⟨b0, b1⟩ := hX.cells
  rw [← hwb] at b0 b1
  clear hwb hA
  obtain ⟨T, hT⟩ : ∃ T, headT line L = T := ⟨_, rfl⟩
  have HT : Hid (headT line L = T) := hT
  have hres : (headTextS line L) = (if headOkS line L = true then (T, true) else (⟨#[]⟩, false)) := by unfold headTextS; rw [hT]
  rw [hres]
  clear hT hres
  have HO : Hid (∀ wi, DAt wi a L wi.heap.size → Calls Tryz.prog 35 #[.agg #[.string line, .slice a L.length c]] wi fun e w' => e = .returned (.bool (headOkS line L)) ∧ Below wi.heap.size wi w') := fun wi h => implOk_w wi a c line L h hz
  generalize headOkS line L = B at HO ⊢
  go_enter Tryz.func20, Tryz.ntmps20
  go_wp2_with fail
  rw [HW.out] at b0 b1 ⊢
  refine (implWire_any wb a c L.length line).mono ?_
  rintro e w1 ⟨rfl, hb1⟩
  clear b0 b1
  obtain ⟨w2, hw2⟩ : ∃ x, w1.alloc (.cells #[.string line, .slice a L.length c] 53) = x := ⟨_, rfl⟩
  have hb2 : Below w1.heap.size w1 w2 := by rw [← hw2]; exact (Below.refl _ _).alloc (Nat.le_refl _) _
  have hY : VBx w2 w1.heap.size 53 (.string line) (.slice a L.length c) := by rw [← hw2]; exact heap_alloc_new w1 _
  have HW2 : Hid (w1.alloc (.cells #[.string line, .slice a L.length c] 53) = w2) := hw2
  have hb12 := hb1.trans (hb2.mono hb1.size)
  have hA2 := hAb.on hb12
  have cO := HO.out w2 hA2
  obtain ⟨y0, y1⟩ := hY.cells
  rw [← hw2] at y0 y1
  clear hw2
  cases B with
  | false =>
    go_wp2_with fail
    rw [HW2.out] at y0 y1 ⊢
    refine cO.mono ?_
    rintro e w3 ⟨rfl, hb3⟩
    go_wp2_with fail
    go_ret2
    exact ⟨rfl, hb.trans ((hb12.trans (hb3.mono hb12.size)).mono hb.size)⟩
  | true =>
    go_wp2_with fail
    rw [HW2.out] at y0 y1 ⊢
    refine cO.mono ?_
    rintro e w3 ⟨rfl, hb3⟩
    clear y0 y1
    obtain ⟨y0, y1⟩ := (hY.on hb3).cells
    have hb13 := hb12.trans (hb3.mono hb12.size)
    have cT := implText_w w3 a c line L (hA2.on hb3) hz
    rw [HT.out] at cT
    go_wp2_with fail
    refine cT.mono ?_
    rintro e w4 ⟨rfl, hb4⟩
    go_wp2_with fail
    go_ret2
    exact ⟨rfl, hb.trans ((hb13.trans (hb4.mono hb13.size)).mono hb.size)⟩
theorem implHeadText_any (w : World) (a : Option Addr) (c : Nat) (line : ByteArray) (L : List (ByteArray × ByteArray)) (hA : DAt w a L w.heap.size) (hz : HdSz line L) :
    Calls Tryz.prog 20 #[.agg #[.string line, .slice a L.length c]] w fun e w' => e = .returned (.tuple #[.string (headTextS line L).1, .bool (headTextS line L).2]) ∧ Below w.heap.size w w' := implHeadText_w w a c line L hA hz.wide
end Go.Proofs.YtnnaphfeeobelaeGreatDoor
