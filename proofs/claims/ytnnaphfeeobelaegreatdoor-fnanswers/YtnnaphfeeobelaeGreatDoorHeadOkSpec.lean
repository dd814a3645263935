/- The other text's HeadOk and HeadText. -/
import Derived.Test.YtnnaphfeeobelaeGreatDoorHeadSpecJ
import Derived.Test.YtnnaphfeeobelaeGreatDoorHeadPlainJ
import Derived.Laws.Concat
import Derived.Lib.QuietBelow
import Derived.BigQuiet
namespace Go.Proofs.YtnnaphfeeobelaeGreatDoor
open Go.RowKit Go.Sort
/-- A head in a variable. -/
def KBx (w : World) (T : Nat) (l v : Value) : Prop := w.heap[T]? = some (.cells #[l, v] 32 (0, 0))
theorem KBx.lt {w : World} {T : Nat} {l v : Value} (h : KBx w T l v) : T < w.heap.size := (Array.getElem?_eq_some_iff.1 h).1
theorem KBx.on {w w' : World} {T : Nat} {l v : Value} (h : KBx w T l v) (hb : Below w.heap.size w w') : KBx w' T l v := (hb.block T h.lt).trans h
theorem KBx.cells {w : World} {T : Nat} {l v : Value} (h : KBx w T l v) : w.cell? ⟨T, 0, none⟩ = some l ∧ w.cell? ⟨T, 1, none⟩ = some v := by
  unfold KBx at h
  exact ⟨by simp [World.cell?, h], by simp [World.cell?, h]⟩
set_option maxRecDepth 100000 in
set_option maxHeartbeats 4000000 in
theorem specText_w (w : World) (a : Option Addr) (c : Nat) (line : ByteArray) (L : List (ByteArray × ByteArray)) (hA : DAt w a L w.heap.size) (hz : HdSw line L) :
    Calls Tryz.prog 31 #[.agg #[.string line, .slice a L.length c]] w fun e w' => e = .returned (.string (headT line L)) ∧ Below w.heap.size w w' := by
  obtain ⟨wb, hwb⟩ : ∃ wb, w.alloc (.cells #[.string line, .slice a L.length c] 32) = wb := ⟨_, rfl⟩
  have hb : Below w.heap.size w wb := by rw [← hwb]; exact (Below.refl _ _).alloc (Nat.le_refl _) _
  have hX : KBx wb w.heap.size (.string line) (.slice a L.length c) := by rw [← hwb]; exact heap_alloc_new w _
  have hAb := hA.on hb
  have HW : Hid (w.alloc (.cells #[.string line, .slice a L.length c] 32) = wb) := hwb
  obtain ⟨b0, b1⟩ := hX.cells
  rw [← hwb] at b0 b1
  have hz' := hz.1
  have hzl := hz.2.1
  have hcat := fun w => run_string_add_sum (P := Tryz.prog) (w := w) line crlf (by show line.size + 2 ≤ _; omega)
  have HC : Hid (crlf = ⟨#[13, 10]⟩) := rfl
  rw [HC.out] at hcat
  clear hwb hA
  go_enter Tryz.func31, Tryz.ntmps31
  go_wp2
  rw [HW.out] at b0 b1 ⊢
  clear b0 b1 hcat
  go_loopw [3, 4] (fun s i wr => Box (∃ (k : Nat) (t : ByteArray), k ≤ L.length ∧ i = .int .i64 k ∧ s = .string t ∧ Hid (t = (line ++ crlf) ++ linesT (L.take k)) ∧ Below wb.heap.size wb wr))
    (fun _ i _ => L.length - (intOf i).toNat)
  case atStart => exact ⟨⟨0, _, by omega, rfl, rfl, by show _ = _; rw [List.take_zero]; show _ = (line ++ crlf) ++ (⟨#[]⟩ : ByteArray); rw [appendB_nil]; rfl, Below.refl _ _⟩⟩
  case round =>
    obtain ⟨k, t, hk, rfl, rfl, HT, hbr⟩ := hrel.out
    clear hrel
    have hXr := hX.on hbr
    obtain ⟨x0, x1⟩ := hXr.cells
    have htz : t.size = line.size + 2 + (wgtT (L.take k) + 4 * min k L.length) := by
      rw [HT.out, ByteArray.size_append, ByteArray.size_append, linesT_size, List.length_take]; rfl
    have hwl := wgtT_le L k
    by_cases hlt : k < L.length
    · obtain ⟨g, off, hga, _, q0, q1⟩ := (hAb.on hbr) k hlt
      have hsz := hz.at k hlt
      have hstep := linesT_take hlt rfl
      obtain ⟨f, hf⟩ : ∃ f, L[k] = f := ⟨_, rfl⟩
      rw [hf] at q0 q1 hsz hstep
      obtain ⟨n, v⟩ := f
      dsimp only at q0 q1 hsz
      have h1 := fun w => run_string_add_sum (P := Tryz.prog) (w := w) t n (by omega)
      have h2 := fun w => run_string_add_sum (P := Tryz.prog) (w := w) (t ++ n) ⟨#[58, 32]⟩ (by rw [ByteArray.size_append]; show _ + 2 ≤ _; omega)
      have h3 := fun w => run_string_add_sum (P := Tryz.prog) (w := w) ((t ++ n) ++ ⟨#[58, 32]⟩) v (by rw [ByteArray.size_append, ByteArray.size_append]; show _ + 2 + _ ≤ _; omega)
      have h4 := fun w => run_string_add_sum (P := Tryz.prog) (w := w) (((t ++ n) ++ ⟨#[58, 32]⟩) ++ v) ⟨#[13, 10]⟩ (by rw [ByteArray.size_append, ByteArray.size_append, ByteArray.size_append]; show _ + 2 + _ + 2 ≤ _; omega)
      have HN : Hid ((((t ++ n) ++ ⟨#[58, 32]⟩) ++ v) ++ ⟨#[13, 10]⟩ = (line ++ crlf) ++ linesT (L.take (k + 1))) := by
        show _ = _
        rw [hstep, ← ByteArray.append_assoc, ← HT.out]
        unfold fldT
        rw [← ByteArray.append_assoc, ← ByteArray.append_assoc, ← ByteArray.append_assoc]
        rfl
      generalize (((t ++ n) ++ ⟨#[58, 32]⟩) ++ v) ++ ⟨#[13, 10]⟩ = t4 at h4 HN
      generalize ((t ++ n) ++ ⟨#[58, 32]⟩) ++ v = t3 at h3 h4
      generalize (t ++ n) ++ ⟨#[58, 32]⟩ = t2 at h2 h3
      generalize t ++ n = t1 at h1 h2
      subst hga
      have hi1 : (0 : Int) ≤ (k : Int) := by omega
      have hi2 : (k : Int) < (L.length : Int) := by omega
      have HK : Hid (k < L.length) := hlt
      have hkb : k ≤ 1048600 := by omega
      clear hf hstep hsz htz hwl hz' hz hlt hk
      go_wp2
      go_quiet (fail)
      go_wp2
      go_roundw
      case rel =>
        try ((repeat apply Exists.intro); refine ⟨?_, rfl⟩)
        refine ⟨⟨k + 1, t4, HK.out, by go_num, rfl, HN, ?_⟩⟩
        exact hbr.trans (⟨rfl, rfl, rfl, Nat.le_refl _, fun _ _ => rfl⟩)
      case measure => have := HK.out; simp [intOf]; omega
    · have hi2 : ¬ (k : Int) < (L.length : Int) := by omega
      have hke : k = L.length := by omega
      have h1 := fun w => run_string_add_sum (P := Tryz.prog) (w := w) t ⟨#[13, 10]⟩ (by show _ + 2 ≤ _; omega)
      have HE : Hid (t ++ ⟨#[13, 10]⟩ = headT line L) := by
        show _ = _
        rw [HT.out, hke, List.take_length]; rfl
      generalize t ++ ⟨#[13, 10]⟩ = t1 at h1 HE
      clear htz hwl hz' hz
      go_wp2
      go_ret
      exact ⟨by rw [HE.out]; rfl, hb.trans (hbr.mono hb.size)⟩
theorem specText_any (w : World) (a : Option Addr) (c : Nat) (line : ByteArray) (L : List (ByteArray × ByteArray)) (hA : DAt w a L w.heap.size) (hz : HdSz line L) :
    Calls Tryz.prog 31 #[.agg #[.string line, .slice a L.length c]] w fun e w' => e = .returned (.string (headT line L)) ∧ Below w.heap.size w w' := specText_w w a c line L hA hz.wide
set_option maxRecDepth 100000 in
set_option maxHeartbeats 4000000 in
theorem specHeadOk_w (w : World) (a : Option Addr) (c : Nat) (line : ByteArray) (L : List (ByteArray × ByteArray)) (hA : DAt w a L w.heap.size) (hz : HdSw line L) :
    Calls Tryz.prog 30 #[.agg #[.string line, .slice a L.length c]] w fun e w' => e = .returned (.bool (headOkS line L)) ∧ Below w.heap.size w w' := by
  obtain ⟨wb, hwb⟩ : ∃ wb, w.alloc (.cells #[.string line, .slice a L.length c] 32) = wb := ⟨_, rfl⟩
  have hb : Below w.heap.size w wb := by rw [← hwb]; exact (Below.refl _ _).alloc (Nat.le_refl _) _
  have hX : KBx wb w.heap.size (.string line) (.slice a L.length c) := by rw [← hwb]; exact heap_alloc_new w _
  have hAb := hA.on hb
  have HW : Hid (w.alloc (.cells #[.string line, .slice a L.length c] 32) = wb) := hwb
  obtain ⟨b0, b1⟩ := hX.cells
  rw [← hwb] at b0 b1
  have hz' := hz.1
  have hzl := hz.2.1
  obtain ⟨R, hR⟩ : ∃ R, headOkS line L = R := ⟨_, rfl⟩
  rw [hR]
  have HR : Hid (((decide (1 ≤ line.size) && plainS line 80) && (decide (L.length ≤ 8) && L.all fieldOkS) && decide ((headT line L).size ≤ 300)) = R) := hR
  have cP := specPlain_any line 80 wb (by omega)
  clear hwb hA hR
  by_cases h0 : line.size = 0
  · have HP : Hid (R = false) := by show _ = _; rw [← HR.out, decide_eq_false (by omega)]; rfl
    have e0 : ((line.size : Int) == 0) = true := by simp [h0]
    have e0' : decide ((line.size : Int) = 0) = true := decide_eq_true (by omega)
    clear cP HR hz hz'
    go_enter Tryz.func30, Tryz.ntmps30
    go_wp2_with fail
    go_ret
    exact ⟨by rw [HP.out]; rfl, by rw [HW.out]; exact hb⟩
  have e0 : ((line.size : Int) == 0) = false := by rw [beq_eq_false_iff_ne]; omega
  have e0' : decide ((line.size : Int) = 0) = false := decide_eq_false (by omega)
  cases hp : plainS line 80 with
  | false =>
    have HP : Hid (R = false) := by show _ = _; rw [← HR.out, hp]; simp
    rw [hp] at cP
    clear HR hz hz' hp
    go_enter Tryz.func30, Tryz.ntmps30
    go_wp2_with fail
    rw [HW.out] at b0 b1 ⊢
    refine cP.mono ?_
    rintro e w1 ⟨rfl, hw1⟩
    rw [hw1]
    go_wp2_with fail
    go_ret
    exact ⟨by rw [HP.out]; rfl, hb⟩
  | true =>
    rw [hp] at cP
    have HR2 : Hid ((decide (L.length ≤ 8) && L.all fieldOkS && decide ((headT line L).size ≤ 300)) = R) := by show _ = _; rw [← HR.out, hp, decide_eq_true (show 1 ≤ line.size by omega)]; simp [Bool.and_assoc]
    clear HR hp
    by_cases h8 : 8 < L.length
    · have HP : Hid (R = false) := by show _ = _; rw [← HR2.out, decide_eq_false (by omega)]; rfl
      have h8' : (8 : Int) < (L.length : Int) := by omega
      clear HR2 hz hz'
      go_enter Tryz.func30, Tryz.ntmps30
      go_wp2_with fail
      rw [HW.out] at b0 b1 ⊢
      refine cP.mono ?_
      rintro e w1 ⟨rfl, hw1⟩
      rw [hw1]
      go_wp2_with fail
      go_ret
      exact ⟨by rw [HP.out]; rfl, hb⟩
    · have HR3 : Hid ((L.all fieldOkS && decide ((headT line L).size ≤ 300)) = R) := by show _ = _; rw [← HR2.out, decide_eq_true (show L.length ≤ 8 by omega)]; simp
      have h8' : ¬ (8 : Int) < (L.length : Int) := by omega
      clear HR2 hz'
      go_enter Tryz.func30, Tryz.ntmps30
      go_wp2_with fail
      rw [HW.out] at b0 b1 ⊢
      refine cP.mono ?_
      rintro e w1 ⟨rfl, hw1⟩
      rw [hw1]
      clear cP hw1
      go_wp2_with fail
      clear b0 b1
      go_loopw [3] (fun i wr => Box (∃ k : Nat, k ≤ L.length ∧ i = .int .i64 k ∧ Hid (∀ q (hq : q < L.length), q < k → fieldOkS L[q] = true) ∧ Below wb.heap.size wb wr))
        (fun i _ => L.length - (intOf i).toNat)
      case atStart => exact ⟨⟨0, by omega, rfl, fun q _ hq => absurd hq (Nat.not_lt_zero _), Below.refl _ _⟩⟩
      case round =>
        obtain ⟨k, hk, rfl, HN, hbr⟩ := hrel.out
        clear hrel
        have hXr := hX.on hbr
        obtain ⟨x0, x1⟩ := hXr.cells
        by_cases hlt : k < L.length
        · obtain ⟨g, off, hga, _, q0, q1⟩ := (hAb.on hbr) k hlt
          have hsz := hz.at k hlt
          obtain ⟨f, hf⟩ : ∃ f, L[k] = f := ⟨_, rfl⟩
          rw [hf] at q0 q1 hsz
          have HF : Hid (L[k] = f) := hf
          have cF := specFieldOk_any f wr hsz.1 hsz.2.1
          subst hga
          have hi1 : (0 : Int) ≤ (k : Int) := by omega
          have hi2 : (k : Int) < (L.length : Int) := by omega
          have hkb : k ≤ 8 := by omega
          clear hf hsz
          cases hfo : fieldOkS f with
          | false =>
            rw [hfo] at cF
            have HP : Hid (R = false) := by show _ = _; rw [← HR3.out, all_no hlt (by rw [HF.out]; exact hfo)]; rfl
            clear hfo
            go_wp2_with fail
            refine cF.mono ?_
            rintro e w2 ⟨rfl, hb2⟩
            go_wp2_with fail
            go_ret
            exact ⟨by rw [HP.out]; rfl, hb.trans ((hbr.trans (hb2.mono hbr.size)).mono hb.size)⟩
          | true =>
            rw [hfo] at cF
            have HP : Hid (fieldOkS f = true) := hfo
            clear hfo
            go_wp2_with fail
            refine cF.mono ?_
            rintro e w2 ⟨rfl, hb2⟩
            have hb12 := hbr.trans (hb2.mono hbr.size)
            clear cF x0 x1 q0 q1
            go_wp2_with fail
            go_roundw
            case rel =>
              try ((repeat apply Exists.intro); refine ⟨?_, rfl⟩)
              refine ⟨⟨k + 1, by omega, by go_num, fun q hq hqk => ?_, hb12⟩⟩
              by_cases e : q = k
              · subst e; rw [HF.out]; exact HP.out
              · exact HN.out q hq (by omega)
            case measure => simp [intOf]; omega
        · have hi2 : ¬ (k : Int) < (L.length : Int) := by omega
          have HP : Hid (R = decide (((headT line L).size : Int) ≤ 300)) := by show _ = _; rw [← HR3.out, all_go fun q hq => HN.out q hq (by omega), Bool.true_and]; exact decide_eq_decide.2 (by omega)
          have cT := specText_w wr a c line L (hAb.on hbr) hz
          generalize headT line L = T at cT HP
          go_wp2_with fail
          refine cT.mono ?_
          rintro e w2 ⟨rfl, hb2⟩
          go_wp2_with fail
          go_ret
          exact ⟨by rw [HP.out]; rfl, hb.trans ((hbr.trans (hb2.mono hbr.size)).mono hb.size)⟩
theorem specHeadOk_any (w : World) (a : Option Addr) (c : Nat) (line : ByteArray) (L : List (ByteArray × ByteArray)) (hA : DAt w a L w.heap.size) (hz : HdSz line L) :
    Calls Tryz.prog 30 #[.agg #[.string line, .slice a L.length c]] w fun e w' => e = .returned (.bool (headOkS line L)) ∧ Below w.heap.size w w' := specHeadOk_w w a c line L hA hz.wide
end Go.Proofs.YtnnaphfeeobelaeGreatDoor
