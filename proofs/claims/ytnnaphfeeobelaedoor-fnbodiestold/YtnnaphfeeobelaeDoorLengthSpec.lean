/- The length that a head tells: the other text. -/
import Derived.Test.YtnnaphfeeobelaeDoorHeadTextPlainJ
import Derived.Test.YtnnaphfeeobelaeDoorFieldOfSpec
import Derived.Test.YtnnaphfeeobelaeDoorControlSpec
namespace Go.Proofs.YtnnaphfeeobelaeDoor
open Go.RowKit Go.Sort
theorem lenF_skip {n many : Nat} {f : ByteArray × ByteArray} {r : List (ByteArray × ByteArray)} (h : eqT f.1 clN = false) : lenF n many (f :: r) = lenF n many r := by
  show (if eqT f.1 clN = true then _ else _) = _
  rw [h]; rfl
theorem lenF_none {n many : Nat} {f : ByteArray × ByteArray} {r : List (ByteArray × ByteArray)} (h : eqT f.1 clN = true) (hn : numL f.2.data.toList = none) : lenF n many (f :: r) = (0, many + 1, false) := by
  show (if eqT f.1 clN = true then _ else _) = _
  rw [if_pos h, hn]
theorem lenF_bad {n many k : Nat} {f : ByteArray × ByteArray} {r : List (ByteArray × ByteArray)} (h : eqT f.1 clN = true) (hn : numL f.2.data.toList = some k) (hb : 3 < f.2.size ∨ (0 < many ∧ k ≠ n)) : lenF n many (f :: r) = (0, many + 1, false) := by
  show (if eqT f.1 clN = true then _ else _) = _
  rw [if_pos h, hn]
  show (if 3 < f.2.size ∨ (0 < many ∧ k ≠ n) then _ else _) = _
  rw [if_pos hb]
theorem lenF_on {n many k : Nat} {f : ByteArray × ByteArray} {r : List (ByteArray × ByteArray)} (h : eqT f.1 clN = true) (hn : numL f.2.data.toList = some k) (hb : ¬ (3 < f.2.size ∨ (0 < many ∧ k ≠ n))) : lenF n many (f :: r) = lenF k (many + 1) r := by
  show (if eqT f.1 clN = true then _ else _) = _
  rw [if_pos h, hn]
  show (if 3 < f.2.size ∨ (0 < many ∧ k ≠ n) then _ else _) = _
  rw [if_neg hb]
theorem numL_few {l : List UInt8} {n : Nat} (h : numL l = some n) : n ≤ 999999 := by
  unfold numL at h
  split at h
  · next hc =>
    simp only [Bool.and_eq_true, decide_eq_true_eq] at hc
    have hv : ∀ (t : List UInt8) (m : Nat), (∀ b ∈ t, b.toNat ≤ 57) → valF m t + 1 ≤ (m + 1) * 10 ^ t.length := by
      intro t
      induction t with
      | nil => intro m _; rw [valF_nil]; simp
      | cons b r ih =>
        intro m hb
        rw [valF_cons, List.length_cons, Nat.pow_succ]
        have h1 := ih (m * 10 + dOf b) (fun x hx => hb x (List.mem_cons_of_mem _ hx))
        have h2 : dOf b ≤ 9 := by unfold dOf; have := hb b List.mem_cons_self; omega
        refine Nat.le_trans h1 ?_
        rw [show (m + 1) * (10 ^ r.length * 10) = ((m + 1) * 10) * 10 ^ r.length by rw [Nat.mul_comm (10 ^ r.length) 10, Nat.mul_assoc]]
        exact Nat.mul_le_mul_right _ (by omega)
    have hd := hc.2
    unfold digits at hd
    rw [List.all_eq_true] at hd
    have h1 := hv l 0 (fun b hb => (of_decide_eq_true (hd b hb)).2)
    have h2 : 10 ^ l.length ≤ 10 ^ 6 := Nat.pow_le_pow_right (by omega) hc.1.2
    simp only [Option.some.injEq] at h
    omega
  · cases h
set_option maxRecDepth 100000 in
set_option maxHeartbeats 8000000 in
theorem specLength_any (w : World) (a : Option Addr) (c : Nat) (line : ByteArray) (L : List (ByteArray × ByteArray)) (hA : DAt w a L w.heap.size) (hz : HdSz line L) :
    Calls Tryd.prog 35 #[.agg #[.string line, .slice a L.length c]] w fun e w' => e = .returned (.tuple #[.int .i64 ((lenF 0 0 L).1 : Nat), .int .i64 ((lenF 0 0 L).2.1 : Nat), .bool (lenF 0 0 L).2.2]) ∧ Below w.heap.size w w' := by
  obtain ⟨wb, hwb⟩ : ∃ wb, w.alloc (.cells #[.string line, .slice a L.length c] 35) = wb := ⟨_, rfl⟩
  have hb : Below w.heap.size w wb := by rw [← hwb]; exact (Below.refl _ _).alloc (Nat.le_refl _) _
  have hX : KBy wb w.heap.size (.string line) (.slice a L.length c) := by rw [← hwb]; exact heap_alloc_new w _
  have hAb := hA.on hb
  have HW : Hid (w.alloc (.cells #[.string line, .slice a L.length c] 35) = wb) := hwb
  obtain ⟨b0, b1⟩ := hX.cells
  rw [← hwb] at b0 b1
  have hz' := hz
  unfold HdSz at hz'
  obtain ⟨R, hR⟩ : ∃ R, lenF 0 0 L = R := ⟨_, rfl⟩
  rw [hR]
  have HR : Hid (lenF 0 0 (L.drop 0) = R) := hR
  have HBW : Hid (Below w.heap.size w wb) := hb
  have hLb : L.length ≤ 1048576 := by omega
  clear hwb hA hR hb
  go_enter Tryd.func35, Tryd.ntmps35
  go_wp2
  rw [HW.out] at b0 b1 ⊢
  clear b0 b1
  go_loopw [5, 6, 7, 8, 9] (fun n many i _ _ wr => Box (∃ (k nN mN : Nat), k ≤ L.length ∧ nN ≤ 999999 ∧ mN ≤ k ∧ n = .int .i64 nN ∧ many = .int .i64 mN ∧ i = .int .i64 k ∧ Hid (lenF nN mN (L.drop k) = R) ∧ Below wb.heap.size wb wr))
    (fun _ _ i _ _ _ => L.length - (intOf i).toNat)
  case atStart => exact ⟨⟨0, 0, 0, by omega, by omega, by omega, rfl, rfl, rfl, HR, Below.refl _ _⟩⟩
  case round =>
    obtain ⟨k, nN, mN, hk, hnN, hmN, rfl, rfl, rfl, HS, hbr⟩ := hrel.out
    clear hrel
    have hXr := hX.on hbr
    obtain ⟨x0, x1⟩ := hXr.cells
    by_cases hlt : k < L.length
    · obtain ⟨g, off, hga, _, q0, q1⟩ := (hAb.on hbr) k hlt
      obtain ⟨f, hf⟩ : ∃ f, L[k] = f := ⟨_, rfl⟩
      rw [hf] at q0 q1
      have HS2 : Hid (lenF nN mN (f :: L.drop (k + 1)) = R) := by show _ = _; rw [← HS.out, List.drop_eq_getElem_cons hlt, hf]
      subst hga
      have hi1 : (0 : Int) ≤ (k : Int) := by omega
      have hi2 : (k : Int) < (L.length : Int) := by omega
      clear hf HS hz' hz hXr
      cases he : eqT f.1 clN with
      | false =>
        have HN : Hid (lenF nN mN (L.drop (k + 1)) = R) := by show _ = _; rw [← HS2.out, lenF_skip he]
        have he1 : (f.1.toList == [99, 111, 110, 116, 101, 110, 116, 45, 108, 101, 110, 103, 116, 104]) = false := by unfold eqT at he; rw [ByteArray.toList_eq clN] at he; exact he
        have he2 : (f.1.toList != [99, 111, 110, 116, 101, 110, 116, 45, 108, 101, 110, 103, 116, 104]) = true := by unfold bne; rw [he1]; rfl
        clear he HS2
        go_wp2_with fail
        go_roundw
        case rel =>
          try ((repeat apply Exists.intro); refine ⟨?_, rfl⟩)
          exact ⟨⟨k + 1, nN, mN, by omega, by omega, by omega, rfl, rfl, by go_num, HN, hbr⟩⟩
        case measure => simp [intOf]; omega
      | true =>
      have he1 : (f.1.toList == [99, 111, 110, 116, 101, 110, 116, 45, 108, 101, 110, 103, 116, 104]) = true := by unfold eqT at he; rw [ByteArray.toList_eq clN] at he; exact he
      have he2 : (f.1.toList != [99, 111, 110, 116, 101, 110, 116, 45, 108, 101, 110, 103, 116, 104]) = false := by unfold bne; rw [he1]; rfl
      have cN := specNumber_any f.2 wr
      cases hv : numL f.2.data.toList with
      | none =>
        rw [hv] at cN
        have HE : Hid (R = (0, mN + 1, false)) := by show _ = _; rw [← HS2.out, lenF_none he hv]
        clear he HS2 hv
        go_wp2_with fail
        refine cN.mono ?_
        rintro e wv ⟨rfl, hwv⟩
        rw [hwv]
        clear hwv wv cN
        go_wp2_with fail
        go_ret3
        exact ⟨by rw [HE.out]; rfl, HBW.out.trans (hbr.mono HBW.out.size)⟩
      | some x =>
        rw [hv] at cN
        have hx9 := numL_few hv
        by_cases h3 : 3 < f.2.size
        · have HE : Hid (R = (0, mN + 1, false)) := by show _ = _; rw [← HS2.out, lenF_bad he hv (.inl h3)]
          have h3i : (3 : Int) < (f.2.size : Int) := by omega
          clear he HS2 hv
          go_wp2_with fail
          refine cN.mono ?_
          rintro e wv ⟨rfl, hwv⟩
          rw [hwv]
          clear hwv wv cN
          go_wp2_with fail
          go_ret3
          exact ⟨by rw [HE.out]; rfl, HBW.out.trans (hbr.mono HBW.out.size)⟩
        have h3i : ¬ (3 : Int) < (f.2.size : Int) := by omega
        by_cases h4 : 0 < mN
        · have h4i : (0 : Int) < (mN : Int) := by omega
          by_cases h5 : x = nN
          · have HN : Hid (lenF x (mN + 1) (L.drop (k + 1)) = R) := by show _ = _; rw [← HS2.out, lenF_on he hv (by omega)]
            have h5i : ((x : Int) != (nN : Int)) = false := by simp; omega
            clear he HS2 hv h5
            go_wp2_with fail
            refine cN.mono ?_
            rintro e wv ⟨rfl, hwv⟩
            rw [hwv]
            clear hwv wv cN
            go_wp2_with fail
            go_roundw
            case rel =>
              try ((repeat apply Exists.intro); refine ⟨?_, rfl⟩)
              exact ⟨⟨k + 1, x, mN + 1, by omega, by omega, by omega, rfl, by go_num, by go_num, HN, hbr⟩⟩
            case measure => simp [intOf]; omega
          · have HE : Hid (R = (0, mN + 1, false)) := by show _ = _; rw [← HS2.out, lenF_bad he hv (.inr ⟨h4, h5⟩)]
            have h5i : ((x : Int) != (nN : Int)) = true := by simp; omega
            clear he HS2 hv h5
            go_wp2_with fail
            refine cN.mono ?_
            rintro e wv ⟨rfl, hwv⟩
            rw [hwv]
            clear hwv wv cN
            go_wp2_with fail
            go_ret3
            exact ⟨by rw [HE.out]; rfl, HBW.out.trans (hbr.mono HBW.out.size)⟩
        · have HN : Hid (lenF x (mN + 1) (L.drop (k + 1)) = R) := by show _ = _; rw [← HS2.out, lenF_on he hv (by omega)]
          have h4i : ¬ (0 : Int) < (mN : Int) := by omega
          clear he HS2 hv
          go_wp2_with fail
          refine cN.mono ?_
          rintro e wv ⟨rfl, hwv⟩
          rw [hwv]
          clear hwv wv cN
          go_wp2_with fail
          go_roundw
          case rel =>
            try ((repeat apply Exists.intro); refine ⟨?_, rfl⟩)
            exact ⟨⟨k + 1, x, mN + 1, by omega, by omega, by omega, rfl, by go_num, by go_num, HN, hbr⟩⟩
          case measure => simp [intOf]; omega
    · have hi2 : ¬ (k : Int) < (L.length : Int) := by omega
      have HE : Hid (R = (nN, mN, true)) := by show _ = _; rw [← HS.out, List.drop_eq_nil_of_le (by omega)]; rfl
      clear hz' hz hXr
      go_wp2_with fail
      go_ret3
      exact ⟨by rw [HE.out]; rfl, HBW.out.trans (hbr.mono HBW.out.size)⟩
end Go.Proofs.YtnnaphfeeobelaeDoor
