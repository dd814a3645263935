/- A body: the program. -/
import Derived.Test.YtnnaphfeeobelaeGreatDoorToldImpl
import Derived.Test.YtnnaphfeeobelaeGreatDoorChunkReadJ
import Derived.Test.YtnnaphfeeobelaeGreatDoorGoodReadJ
namespace Go.Proofs.YtnnaphfeeobelaeGreatDoor
open Go.RowKit Go.Sort
/-- What a reader of bodies hands on: R is what is told. -/
def Ans (R : List UInt8 × Int × Int) (e : Ending) : Prop := (R = ([], 0, 2) ∧ ∃ s n, e = .returned (.tuple #[.string s, .int .i64 n, flt 2])) ∨ (R = ([], 0, 1) ∧ ∃ s n, e = .returned (.tuple #[.string s, .int .i64 n, flt 1])) ∨ (R.2.2 = 0 ∧ e = .returned (.tuple #[.string ⟨R.1.toArray⟩, .int .i64 R.2.1, .nilIface]))
set_option maxHeartbeats 4000000 in
theorem codedBody_any (w : World) (a : Option Addr) (c : Nat) (line : ByteArray) (L : List (ByteArray × ByteArray)) (t : ByteArray) (hA : DAt w a L w.heap.size) (hz : HdSz line L) (ht : t.size ≤ 1048576) (R : List UInt8 × Int × Int) (hR : (if eqT (fieldOfS L teN).1 chN = false then ([], 0, 2) else chunksI t.data.toList) = R) :
    Calls Tryz.prog 44 #[.agg #[.string line, .slice a L.length c], .string t] w fun e w' => Ans R e ∧ Below w.heap.size w w' := by
  obtain ⟨wb, hwb⟩ : ∃ wb, w.alloc (.cells #[.string line, .slice a L.length c] 32) = wb := ⟨_, rfl⟩
  have hb : Below w.heap.size w wb := by rw [← hwb]; exact (Below.refl _ _).alloc (Nat.le_refl _) _
  have hX : wb.heap[w.heap.size]? = some (.cells #[.string line, .slice a L.length c] 32 (0, 0)) := by rw [← hwb]; exact heap_alloc_new w _
  obtain ⟨b0, b1⟩ := KBz_cells hX
  rw [← hwb] at b0 b1
  have HW : Hid (w.alloc (.cells #[.string line, .slice a L.length c] 32) = wb) := hwb
  have hAb := hA.on hb
  have c1 := implFieldOf_any wb a c line L teN hAb hz (by decide)
  have HB : Hid (Below w.heap.size w wb) := hb
  generalize (fieldOfS L teN).1 = f1 at c1 hR
  generalize (fieldOfS L teN).2 = g1 at c1
  clear hwb hA hAb hb hX hz
  cases he : eqT f1 chN with
  | false =>
    have HE : Hid (R = ([], 0, 2)) := by show _ = _; rw [← hR, if_pos he]
    have he1 : (f1.toList == [99, 104, 117, 110, 107, 101, 100]) = false := by unfold eqT at he; rw [ByteArray.toList_eq chN] at he; exact he
    have he2 : (f1.toList != [99, 104, 117, 110, 107, 101, 100]) = true := by unfold bne; rw [he1]; rfl
    clear he hR
    go_enter Tryz.func44, Tryz.ntmps44
    go_wp2_with fail
    rw [HW.out] at b0 b1 ⊢
    refine c1.mono ?_
    rintro e w1 ⟨rfl, hb1⟩
    have HB1 : Hid (Below w.heap.size w w1) := HB.out.trans (hb1.mono HB.out.size)
    clear c1 b0 b1 hb1
    go_wp2_with fail
    go_ret3
    exact ⟨.inl ⟨HE.out, _, _, rfl⟩, HB1.out⟩
  | true =>
    have HE : Hid (chunksI t.data.toList = R) := by show _ = _; rw [← hR, if_neg (by rw [he]; simp)]
    have he1 : (f1.toList == [99, 104, 117, 110, 107, 101, 100]) = true := by unfold eqT at he; rw [ByteArray.toList_eq chN] at he; exact he
    have he2 : (f1.toList != [99, 104, 117, 110, 107, 101, 100]) = false := by unfold bne; rw [he1]; rfl
    have CR : Hid (∀ wi, Calls Tryz.prog 62 #[.string t] wi fun e w' => Ans R e ∧ Below wi.heap.size wi w') := fun wi => readParts_any t wi ht R HE.out
    clear he hR
    go_enter Tryz.func44, Tryz.ntmps44
    go_wp2_with fail
    rw [HW.out] at b0 b1 ⊢
    refine c1.mono ?_
    rintro e w1 ⟨rfl, hb1⟩
    have HB1 : Hid (Below w.heap.size w w1) := HB.out.trans (hb1.mono HB.out.size)
    clear c1 b0 b1 hb1
    have c2 := CR.out w1
    go_wp2_with fail
    refine c2.mono ?_
    clear c2
    rintro e w2 ⟨⟨g1, s, n, rfl⟩ | ⟨g1, s, n, rfl⟩ | ⟨g1, rfl⟩, hb2⟩
    all_goals (
      have HG : Hid _ := g1
      have HB2 : Hid (Below w.heap.size w w2) := HB1.out.trans (hb2.mono HB1.out.size)
      clear g1 hb2
      unfold flt at *
      go_wp2_with fail
      go_ret3
      first | exact ⟨.inl ⟨HG.out, _, _, rfl⟩, HB2.out⟩ | exact ⟨.inr (.inl ⟨HG.out, _, _, rfl⟩), HB2.out⟩ | exact ⟨.inr (.inr ⟨HG.out, rfl⟩), HB2.out⟩)
set_option maxHeartbeats 4000000 in
theorem sizedBody_any (w : World) (a : Option Addr) (c : Nat) (line : ByteArray) (L : List (ByteArray × ByteArray)) (t : ByteArray) (hA : DAt w a L w.heap.size) (hz : HdSz line L) (ht : t.size ≤ 1048576) (hf : (fieldOfS L clN).2 = true) (R : List UInt8 × Int × Int) (hR : (match toldP (-1) L with | none => (([], 0, 2) : List UInt8 × Int × Int) | some n => if (t.data.toList.length : Int) < n then ([], 0, 1) else (t.data.toList.take n.toNat, n, 0)) = R) :
    Calls Tryz.prog 43 #[.agg #[.string line, .slice a L.length c], .string t] w fun e w' => Ans R e ∧ Below w.heap.size w w' := by
  obtain ⟨wb, hwb⟩ : ∃ wb, w.alloc (.cells #[.string line, .slice a L.length c] 32) = wb := ⟨_, rfl⟩
  have hb : Below w.heap.size w wb := by rw [← hwb]; exact (Below.refl _ _).alloc (Nat.le_refl _) _
  have hX : wb.heap[w.heap.size]? = some (.cells #[.string line, .slice a L.length c] 32 (0, 0)) := by rw [← hwb]; exact heap_alloc_new w _
  obtain ⟨b0, b1⟩ := KBz_cells hX
  rw [← hwb] at b0 b1
  have HW : Hid (w.alloc (.cells #[.string line, .slice a L.length c] 32) = wb) := hwb
  obtain ⟨Q, hQ⟩ : ∃ Q, toldP (-1) L = Q := ⟨_, rfl⟩
  have c1 := toldLength_any wb a c line L (hA.on hb) hz Q hQ
  have HB : Hid (Below w.heap.size w wb) := hb
  have HQ : Hid (∀ n, Q = some n → 0 ≤ n ∧ n ≤ 400) := by
    intro n hn
    rw [hn] at hQ
    have h1 := toldP_range L (-1) n hQ (.inl rfl)
    have h2 := toldP_there L (-1) n hQ (.inl hf)
    omega
  rw [hQ] at hR
  have HR : Hid _ := hR
  have hsz : t.size = t.data.toList.length := Lib.size_eq t
  unfold flt at c1
  clear hwb hA hb hX hz hf hQ hR
  go_enter Tryz.func43, Tryz.ntmps43
  go_wp2_with fail
  rw [HW.out] at b0 b1 ⊢
  refine c1.mono ?_
  rintro e w1 ⟨⟨g1, rfl⟩ | ⟨n, g1, rfl⟩, hb1⟩
  · have HE : Hid (R = ([], 0, 2)) := by show _ = _; rw [← HR.out, g1]
    have HB1 : Hid (Below w.heap.size w w1) := HB.out.trans (hb1.mono HB.out.size)
    clear c1 b0 b1 hb1 g1 HR HQ
    go_wp2_with fail
    go_ret3
    exact ⟨.inl ⟨HE.out, _, _, rfl⟩, HB1.out⟩
  · obtain ⟨n0, n4⟩ := HQ.out n g1
    have HB1 : Hid (Below w.heap.size w w1) := HB.out.trans (hb1.mono HB.out.size)
    by_cases hlt : (t.size : Int) < n
    · have HE : Hid (R = ([], 0, 1)) := by show _ = _; rw [← HR.out, g1]; show (if (t.data.toList.length : Int) < n then _ else _) = _; rw [if_pos (by omega)]
      clear c1 b0 b1 hb1 g1 HR HQ hsz
      go_wp2_with fail
      go_ret3
      exact ⟨.inr (.inl ⟨HE.out, _, _, rfl⟩), HB1.out⟩
    · have HE : Hid (R = (t.data.toList.take n.toNat, n, 0)) := by show _ = _; rw [← HR.out, g1]; show (if (t.data.toList.length : Int) < n then _ else _) = _; rw [if_neg (by omega)]
      have hsl := fun w => run_slice_string_h (P := Tryz.prog) w 9 t Tryz.underlying9 .i64 n (by omega) (by omega)
      have hex : t.extract 0 n.toNat = ⟨(t.data.toList.take n.toNat).toArray⟩ := by
        rw [← Lib.mk_data (t.extract 0 n.toNat), Lib.extract_data, List.drop_zero, Nat.sub_zero]
      have hez : (t.extract 0 n.toNat).size ≤ 281474976710656 := by rw [ByteArray.size_extract]; omega
      rw [hex] at hsl hez
      obtain ⟨U, hU⟩ : ∃ U, t.data.toList.take n.toNat = U := ⟨_, rfl⟩
      rw [hU] at hsl hez HE
      have cC := cloneH_any ⟨U.toArray⟩ w1 hez
      clear c1 b0 b1 hb1 g1 HR HQ hsz hex hez hU
      go_wp2_with fail
      refine cC.mono ?_
      rintro e w2 ⟨rfl, hb2⟩
      have HB2 : Hid (Below w.heap.size w w2) := HB1.out.trans (hb2.mono HB1.out.size)
      clear cC hb2 hsl
      go_wp2_with fail
      go_ret3
      exact ⟨.inr (.inr (by rw [HE.out]; exact ⟨rfl, rfl⟩)), HB2.out⟩
set_option maxHeartbeats 4000000 in
theorem bodyBehind_any (w : World) (a : Option Addr) (c : Nat) (line : ByteArray) (L : List (ByteArray × ByteArray)) (t : ByteArray) (hA : DAt w a L w.heap.size) (hz : HdSz line L) (ht : t.size ≤ 1048576) (R : List UInt8 × Int × Int) (hR : bodyI L t.data.toList = R) :
    Calls Tryz.prog 25 #[.agg #[.string line, .slice a L.length c], .string t] w fun e w' => Ans R e ∧ Below w.heap.size w w' := by
  obtain ⟨wb, hwb⟩ : ∃ wb, w.alloc (.cells #[.string line, .slice a L.length c] 32) = wb := ⟨_, rfl⟩
  have hb : Below w.heap.size w wb := by rw [← hwb]; exact (Below.refl _ _).alloc (Nat.le_refl _) _
  have hX : wb.heap[w.heap.size]? = some (.cells #[.string line, .slice a L.length c] 32 (0, 0)) := by rw [← hwb]; exact heap_alloc_new w _
  have HX : Hid (∀ wi, Below wb.heap.size wb wi → wi.cell? ⟨w.heap.size, 0, none⟩ = some (.string line) ∧ wi.cell? ⟨w.heap.size, 1, none⟩ = some (.slice a L.length c)) := fun wi hi => KBz_cells ((hi.block _ (Array.getElem?_eq_some_iff.1 hX).1).trans hX)
  obtain ⟨b0, b1⟩ := KBz_cells hX
  rw [← hwb] at b0 b1
  have HW : Hid (w.alloc (.cells #[.string line, .slice a L.length c] 32) = wb) := hwb
  have HA : Hid (DAt wb a L wb.heap.size) := hA.on hb
  have c1 := bodyFields_any wb a c line L HA.out hz
  have HB : Hid (Below w.heap.size w wb) := hb
  rw [bodyI_looks] at hR
  have CS : Hid (∀ wi, Below wb.heap.size wb wi → (fieldOfS L clN).2 = true → (match toldP (-1) L with | none => (([], 0, 2) : List UInt8 × Int × Int) | some n => if (t.data.toList.length : Int) < n then ([], 0, 1) else (t.data.toList.take n.toNat, n, 0)) = R → Calls Tryz.prog 43 #[.agg #[.string line, .slice a L.length c], .string t] wi fun e w' => Ans R e ∧ Below wi.heap.size wi w') := fun wi hi hf hr => sizedBody_any wi a c line L t (HA.out.on hi) hz ht hf R hr
  have CC : Hid (∀ wi, Below wb.heap.size wb wi → (if eqT (fieldOfS L teN).1 chN = false then ([], 0, 2) else chunksI t.data.toList) = R → Calls Tryz.prog 44 #[.agg #[.string line, .slice a L.length c], .string t] wi fun e w' => Ans R e ∧ Below wi.heap.size wi w') := fun wi hi hr => codedBody_any wi a c line L t (HA.out.on hi) hz ht R hr
  have HR : Hid _ := hR
  generalize (fieldOfS L clN).2 = g1 at c1 CS HR
  generalize (fieldOfS L teN).2 = g2 at c1 HR
  clear hwb hA hb hX hz hR
  go_enter Tryz.func25, Tryz.ntmps25
  go_wp2_with fail
  rw [HW.out] at b0 b1 ⊢
  refine c1.mono ?_
  rintro e w1 ⟨rfl, hb1⟩
  have HB1 : Hid (Below w.heap.size w w1) := HB.out.trans (hb1.mono HB.out.size)
  clear c1 b0 b1
  obtain ⟨b0, b1⟩ := HX.out w1 hb1
  cases g1 with
  | true =>
    cases g2 with
    | true =>
      have HE : Hid (R = ([], 0, 2)) := by show _ = _; rw [← HR.out, if_pos ⟨rfl, rfl⟩]
      clear HR CS CC hb1 b0 b1
      unfold flt at *
      go_wp2_with fail
      go_ret3
      exact ⟨.inl ⟨HE.out, _, _, rfl⟩, HB1.out⟩
    | false =>
      have HE : Hid _ := HR.out
      have c2 := CS.out w1 hb1 rfl (by have h := HR.out; rw [if_neg (by simp), if_pos rfl] at h; exact h)
      clear HR CS CC hb1 HE
      go_wp2_with fail
      refine c2.mono ?_
      clear c2
      rintro e w2 ⟨⟨g1, s, n, rfl⟩ | ⟨g1, s, n, rfl⟩ | ⟨g1, rfl⟩, hb2⟩
      all_goals (
        have HG : Hid _ := g1
        have HB2 : Hid (Below w.heap.size w w2) := HB1.out.trans (hb2.mono HB1.out.size)
        clear g1 hb2 b0 b1
        unfold flt at *
        go_wp2_with fail
        go_ret3
        first | exact ⟨.inl ⟨HG.out, _, _, rfl⟩, HB2.out⟩ | exact ⟨.inr (.inl ⟨HG.out, _, _, rfl⟩), HB2.out⟩ | exact ⟨.inr (.inr ⟨HG.out, rfl⟩), HB2.out⟩)
  | false =>
    cases g2 with
    | true =>
      have c2 := CC.out w1 hb1 (by have h := HR.out; rw [if_neg (by simp), if_neg (by simp), if_pos rfl] at h; exact h)
      clear HR CS CC hb1
      go_wp2_with fail
      refine c2.mono ?_
      clear c2
      rintro e w2 ⟨⟨g1, s, n, rfl⟩ | ⟨g1, s, n, rfl⟩ | ⟨g1, rfl⟩, hb2⟩
      all_goals (
        have HG : Hid _ := g1
        have HB2 : Hid (Below w.heap.size w w2) := HB1.out.trans (hb2.mono HB1.out.size)
        clear g1 hb2 b0 b1
        unfold flt at *
        go_wp2_with fail
        go_ret3
        first | exact ⟨.inl ⟨HG.out, _, _, rfl⟩, HB2.out⟩ | exact ⟨.inr (.inl ⟨HG.out, _, _, rfl⟩), HB2.out⟩ | exact ⟨.inr (.inr ⟨HG.out, rfl⟩), HB2.out⟩)
    | false =>
      have HE : Hid (R = ([], 0, 0)) := by show _ = _; rw [← HR.out, if_neg (by simp), if_neg (by simp), if_neg (by simp)]
      clear HR CS CC hb1 b0 b1
      go_wp2_with fail
      go_ret3
      exact ⟨.inr (.inr (by rw [HE.out]; exact ⟨rfl, rfl⟩)), HB1.out⟩
set_option maxHeartbeats 4000000 in
theorem implBodyOf_any (w : World) (a : Option Addr) (c : Nat) (line : ByteArray) (L : List (ByteArray × ByteArray)) (t : ByteArray) (hA : DAt w a L w.heap.size) (hz : HdSz line L) (ht : t.size ≤ 1048576) (hT : ErrT w) :
    Calls Tryz.prog 10 #[.agg #[.string line, .slice a L.length c], .string t] w fun e w' => e = .returned (.tuple #[.string ⟨(bodyI L t.data.toList).1.toArray⟩, .int .i64 (bodyI L t.data.toList).2.1, .int .i64 (bodyI L t.data.toList).2.2]) ∧ Below w.heap.size w w' := by
  obtain ⟨wb, hwb⟩ : ∃ wb, w.alloc (.cells #[.string line, .slice a L.length c] 32) = wb := ⟨_, rfl⟩
  have hb : Below w.heap.size w wb := by rw [← hwb]; exact (Below.refl _ _).alloc (Nat.le_refl _) _
  have hX : wb.heap[w.heap.size]? = some (.cells #[.string line, .slice a L.length c] 32 (0, 0)) := by rw [← hwb]; exact heap_alloc_new w _
  obtain ⟨b0, b1⟩ := KBz_cells hX
  rw [← hwb] at b0 b1
  have HW : Hid (w.alloc (.cells #[.string line, .slice a L.length c] 32) = wb) := hwb
  obtain ⟨R, hR⟩ : ∃ R, bodyI L t.data.toList = R := ⟨_, rfl⟩
  rw [hR]
  have c1 := bodyBehind_any wb a c line L t (hA.on hb) hz ht R hR
  have HB : Hid (Below w.heap.size w wb) := hb
  have HT : Hid (ErrT wb) := hT.on hb (Nat.le_refl _)
  clear hwb hA hb hX hz hR hT
  go_enter Tryz.func10, Tryz.ntmps10
  go_wp2_with fail
  rw [HW.out] at b0 b1 ⊢
  refine c1.mono ?_
  clear c1
  rintro e w1 ⟨⟨g1, s, n, rfl⟩ | ⟨g1, s, n, rfl⟩ | ⟨g1, rfl⟩, hb1⟩
  · have c2 := bodyAns_flt s n 2 w1 (HT.out.on hb1 (Nat.le_refl _))
    have HG : Hid _ := g1
    have HB1 : Hid (Below w.heap.size w w1) := HB.out.trans (hb1.mono HB.out.size)
    unfold flt at *
    clear g1 b0 b1 hb1
    go_wp2_with fail
    refine c2.mono ?_
    rintro e w2 ⟨rfl, hb2⟩
    clear c2
    go_wp2_with fail
    go_ret3
    exact ⟨by rw [HG.out]; rfl, HB1.out.trans (hb2.mono HB1.out.size)⟩
  · have c2 := bodyAns_flt s n 1 w1 (HT.out.on hb1 (Nat.le_refl _))
    have HG : Hid _ := g1
    have HB1 : Hid (Below w.heap.size w w1) := HB.out.trans (hb1.mono HB.out.size)
    unfold flt at *
    clear g1 b0 b1 hb1
    go_wp2_with fail
    refine c2.mono ?_
    rintro e w2 ⟨rfl, hb2⟩
    clear c2
    go_wp2_with fail
    go_ret3
    exact ⟨by rw [HG.out]; rfl, HB1.out.trans (hb2.mono HB1.out.size)⟩
  · have c2 := bodyAns_nil ⟨R.1.toArray⟩ R.2.1 w1
    have HG : Hid (R.2.2 = 0) := g1
    have HB1 : Hid (Below w.heap.size w w1) := HB.out.trans (hb1.mono HB.out.size)
    clear g1 b0 b1 hb1
    go_wp2_with fail
    refine c2.mono ?_
    rintro e w2 ⟨rfl, hb2⟩
    clear c2
    go_wp2_with fail
    go_ret3
    exact ⟨by rw [HG.out]; rfl, HB1.out.trans (hb2.mono HB1.out.size)⟩
end Go.Proofs.YtnnaphfeeobelaeGreatDoor
