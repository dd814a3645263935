/- The length that a head tells: the program. -/
import Derived.Test.YtnnaphfeeobelaeGreatDoorBodyIPlain
import Derived.Test.YtnnaphfeeobelaeGreatDoorGoodReadJ
import Derived.Test.YtnnaphfeeobelaeGreatDoorAnswerDrawJ
namespace Go.Proofs.YtnnaphfeeobelaeGreatDoor
open Go.RowKit Go.Sort
theorem numM_few {l : List UInt8} {n : Nat} (h : numM 3 l = some n) : n ≤ 999 := by
  unfold numM at h
  split at h
  · next hc =>
    simp only [Bool.and_eq_true, decide_eq_true_eq] at hc
    have hv : ∀ (t : List UInt8) (m : Nat), (∀ b ∈ t, b.toNat ≤ 57) → valF m t + 1 ≤ (m + 1) * 10 ^ t.length := by
      intro t
      induction t with
      | nil => intro m _; rw [valF_nil]; simp
      | cons b r ih =>
        intro m hb
        rw [valF_cons, List.length_cons, Nat.pow_succ]
        have h1 := ih (m * 10 + dOf b) (fun x hx => hb x (List.mem_cons_of_mem _ hx))
        have h2 : dOf b ≤ 9 := by unfold dOf; have := hb b List.mem_cons_self; omega
        refine Nat.le_trans h1 ?_
        rw [show (m + 1) * (10 ^ r.length * 10) = ((m + 1) * 10) * 10 ^ r.length by rw [Nat.mul_comm (10 ^ r.length) 10, Nat.mul_assoc]]
        exact Nat.mul_le_mul_right _ (by omega)
    have hd := hc.2
    unfold digits at hd
    rw [List.all_eq_true] at hd
    have h1 := hv l 0 (fun b hb => (of_decide_eq_true (hd b hb)).2)
    have h2 : 10 ^ l.length ≤ 10 ^ 3 := Nat.pow_le_pow_right (by omega) hc.1.2
    simp only [Option.some.injEq] at h
    omega
  · cases h
set_option maxRecDepth 100000 in
set_option maxHeartbeats 8000000 in
theorem toldLength_any (w : World) (a : Option Addr) (c : Nat) (line : ByteArray) (L : List (ByteArray × ByteArray)) (hA : DAt w a L w.heap.size) (hz : HdSz line L) (R : Option Int) (hR : toldP (-1) L = R) :
    Calls Tryz.prog 61 #[.agg #[.string line, .slice a L.length c]] w fun e w' => ((R = none ∧ e = .returned (.tuple #[.int .i64 0, flt 2])) ∨ (∃ n, R = some n ∧ e = .returned (.tuple #[.int .i64 n, .nilIface]))) ∧ Below w.heap.size w w' := by
  obtain ⟨wb, hwb⟩ : ∃ wb, w.alloc (.cells #[.string line, .slice a L.length c] 32) = wb := ⟨_, rfl⟩
  have hb : Below w.heap.size w wb := by rw [← hwb]; exact (Below.refl _ _).alloc (Nat.le_refl _) _
  have hX : wb.heap[w.heap.size]? = some (.cells #[.string line, .slice a L.length c] 32 (0, 0)) := by rw [← hwb]; exact heap_alloc_new w _
  have HAb : Hid (DAt wb a L wb.heap.size) := hA.on hb
  obtain ⟨b0, b1⟩ := KBz_cells hX
  rw [← hwb] at b0 b1
  have HW : Hid (w.alloc (.cells #[.string line, .slice a L.length c] 32) = wb) := hwb
  have hz' := hz
  unfold HdSz at hz'
  have HR : Hid (toldP (-1) (L.drop 0) = R) := hR
  have HBW : Hid (Below w.heap.size w wb) := hb
  have hLb : L.length ≤ 1048576 := by omega
  unfold flt
  clear hwb hA hR hb hX
  go_enter Tryz.func61, Tryz.ntmps61
  go_wp2_with fail
  rw [HW.out] at b0 b1 ⊢
  clear b0 b1
  go_loopw [4, 6, 7, 8, 12] (fun td _ _ _ i wr => Box (∃ (k : Nat) (T : Int), k ≤ L.length ∧ i = .int .i64 k ∧ td = .int .i64 T ∧ (T = -1 ∨ (0 ≤ T ∧ T ≤ 400)) ∧ Hid (toldP T (L.drop k) = R) ∧ Below wb.heap.size wb wr))
    (fun _ _ _ _ i _ => L.length - (intOf i).toNat)
  case atStart => exact ⟨⟨0, -1, by omega, rfl, rfl, .inl rfl, HR, Below.refl _ _⟩⟩
  case round =>
    obtain ⟨k, T, hk, rfl, rfl, hT, HS, hbr⟩ := hrel.out
    clear hrel
    have HBR : Hid (Below w.heap.size w wr) := HBW.out.trans (hbr.mono HBW.out.size)
    by_cases hlt : k < L.length
    · obtain ⟨g, off, hga, _, q0, q1⟩ := (HAb.out.on hbr) k hlt
      have hsz := hz.at k hlt
      obtain ⟨f, hf⟩ : ∃ f, L[k] = f := ⟨_, rfl⟩
      rw [hf] at q0 q1 hsz
      have HS2 : Hid (toldP T (f :: L.drop (k + 1)) = R) := by show _ = _; rw [← HS.out, List.drop_eq_getElem_cons hlt, hf]
      obtain ⟨wx, hwx⟩ : ∃ x, wr.alloc (.cells #[.string f.1, .string f.2] 29) = x := ⟨_, rfl⟩
      have hbx : Below wb.heap.size wb wx := by rw [← hwx]; exact hbr.alloc hbr.size _
      have HX : Hid (wr.alloc (.cells #[.string f.1, .string f.2] 29) = wx) := hwx
      have cN := implFiguresM_any f.2 3 (by omega) wx
      subst hga
      have hi1 : (0 : Int) ≤ (k : Int) := by omega
      have hi2 : (k : Int) < (L.length : Int) := by omega
      have HK : Hid (k < L.length) := hlt
      have HBX : Hid (Below wb.heap.size wb wx) := hbx
      clear hf HS hz' hz hsz hwx hbx hbr
      cases he : eqT f.1 clN with
      | false =>
        have HN : Hid (toldP T (L.drop (k + 1)) = R) := by show _ = _; rw [← HS2.out, toldP_skip he]
        have he1 : (f.1.toList == [99, 111, 110, 116, 101, 110, 116, 45, 108, 101, 110, 103, 116, 104]) = false := by unfold eqT at he; rw [ByteArray.toList_eq clN] at he; exact he
        have he2 : (f.1.toList != [99, 111, 110, 116, 101, 110, 116, 45, 108, 101, 110, 103, 116, 104]) = true := by unfold bne; rw [he1]; rfl
        have HT : Hid (T = -1 ∨ (0 ≤ T ∧ T ≤ 400)) := hT
        clear he HS2 cN hT
        go_wp2_with fail
        go_roundw
        case rel =>
          try ((repeat apply Exists.intro); refine ⟨?_, rfl⟩)
          exact ⟨⟨k + 1, T, HK.out, by go_num, rfl, HT.out, HN, by rw [HX.out]; exact HBX.out⟩⟩
        case measure => have := HK.out; simp [intOf]; omega
      | true =>
      have he1 : (f.1.toList == [99, 111, 110, 116, 101, 110, 116, 45, 108, 101, 110, 103, 116, 104]) = true := by unfold eqT at he; rw [ByteArray.toList_eq clN] at he; exact he
      have he2 : (f.1.toList != [99, 111, 110, 116, 101, 110, 116, 45, 108, 101, 110, 103, 116, 104]) = false := by unfold bne; rw [he1]; rfl
      cases hv : numM 3 f.2.data.toList with
      | none =>
        rw [hv] at cN
        have HE : Hid (R = none) := by show _ = _; rw [← HS2.out, toldP_none he hv]
        clear he HS2 hv hT
        go_wp2_with fail
        rw [HX.out]
        refine cN.mono ?_
        rintro e wv ⟨rfl, hwv⟩
        clear cN
        have HBV : Hid (Below w.heap.size w wv) := HBW.out.trans ((HBX.out.trans (hwv.mono HBX.out.size)).mono HBW.out.size)
        go_wp2_with fail
        go_ret2
        exact ⟨.inl ⟨HE.out, rfl⟩, HBV.out⟩
      | some x =>
        rw [hv] at cN
        have hx9 := numM_few hv
        by_cases h4 : 400 < x
        · have HE : Hid (R = none) := by show _ = _; rw [← HS2.out, toldP_bad he hv (.inl h4)]
          have h4i : (400 : Int) < (x : Int) := by omega
          clear he HS2 hv hT
          go_wp2_with fail
          rw [HX.out]
          refine cN.mono ?_
          rintro e wv ⟨rfl, hwv⟩
          clear cN
          have HBV : Hid (Below w.heap.size w wv) := HBW.out.trans ((HBX.out.trans (hwv.mono HBX.out.size)).mono HBW.out.size)
          go_wp2_with fail
          go_ret2
          exact ⟨.inl ⟨HE.out, rfl⟩, HBV.out⟩
        have h4i : ¬ (400 : Int) < (x : Int) := by omega
        by_cases h5 : T = -1
        · have HN : Hid (toldP (x : Int) (L.drop (k + 1)) = R) := by show _ = _; rw [← HS2.out, toldP_on he hv (by omega)]
          have h5i : (T != -1) = false := by simp; exact h5
          have HT : Hid ((x : Int) = -1 ∨ (0 ≤ (x : Int) ∧ (x : Int) ≤ 400)) := by show _ ∨ _; omega
          clear he HS2 hv hT h5
          go_wp2_with fail
          rw [HX.out]
          refine cN.mono ?_
          rintro e wv ⟨rfl, hwv⟩
          clear cN
          have HBV : Hid (Below wb.heap.size wb wv) := HBX.out.trans (hwv.mono HBX.out.size)
          go_wp2_with fail
          go_roundw
          case rel =>
            try ((repeat apply Exists.intro); refine ⟨?_, rfl⟩)
            exact ⟨⟨k + 1, (x : Int), HK.out, by go_num, rfl, HT.out, HN, HBV.out⟩⟩
          case measure => have := HK.out; simp [intOf]; omega
        have h5i : (T != -1) = true := by simp; exact h5
        by_cases h6 : (x : Int) = T
        · have HN : Hid (toldP (x : Int) (L.drop (k + 1)) = R) := by show _ = _; rw [← HS2.out, toldP_on he hv (by omega)]
          have h6i : ((x : Int) != T) = false := by simp; exact h6
          have HT : Hid ((x : Int) = -1 ∨ (0 ≤ (x : Int) ∧ (x : Int) ≤ 400)) := by show _ ∨ _; omega
          clear he HS2 hv hT h5 h6
          go_wp2_with fail
          rw [HX.out]
          refine cN.mono ?_
          rintro e wv ⟨rfl, hwv⟩
          clear cN
          have HBV : Hid (Below wb.heap.size wb wv) := HBX.out.trans (hwv.mono HBX.out.size)
          go_wp2_with fail
          go_roundw
          case rel =>
            try ((repeat apply Exists.intro); refine ⟨?_, rfl⟩)
            exact ⟨⟨k + 1, (x : Int), HK.out, by go_num, rfl, HT.out, HN, HBV.out⟩⟩
          case measure => have := HK.out; simp [intOf]; omega
        · have HE : Hid (R = none) := by show _ = _; rw [← HS2.out, toldP_bad he hv (.inr ⟨h5, h6⟩)]
          have h6i : ((x : Int) != T) = true := by simp; exact h6
          clear he HS2 hv hT h5 h6
          go_wp2_with fail
          rw [HX.out]
          refine cN.mono ?_
          rintro e wv ⟨rfl, hwv⟩
          clear cN
          have HBV : Hid (Below w.heap.size w wv) := HBW.out.trans ((HBX.out.trans (hwv.mono HBX.out.size)).mono HBW.out.size)
          go_wp2_with fail
          go_ret2
          exact ⟨.inl ⟨HE.out, rfl⟩, HBV.out⟩
    · have hi2 : ¬ (k : Int) < (L.length : Int) := by omega
      have HE : Hid (R = some T) := by show _ = _; rw [← HS.out, List.drop_eq_nil_of_le (by omega)]; rfl
      clear hz' hz hT hbr
      go_wp2_with fail
      go_ret2
      exact ⟨.inr ⟨T, HE.out, rfl⟩, HBR.out⟩
end Go.Proofs.YtnnaphfeeobelaeGreatDoor
