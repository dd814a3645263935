/- The program reads the text of a drawn head: whole, with anything behind it, and cut anywhere. -/
import Derived.Test.YtnnaphfeeobelaeGreatDoorHeadsPlainJ
import Derived.Test.YtnnaphfeeobelaeGreatDoorReadHead
import Derived.Test.YtnnaphfeeobelaeGreatDoorReadImpl
namespace Go.Proofs.YtnnaphfeeobelaeGreatDoor
open Go.RowKit Go.Sort
theorem words_asc {l : List UInt8} (h : l.all (fun b => wordB b) = true) : ∀ x ∈ l, x.toNat < 128 := by
  rw [List.all_eq_true] at h
  intro x hx
  have := h x hx
  unfold wordB at this
  rw [decide_eq_true_eq] at this
  omega
theorem flat_asc : ∀ (ms : List (List UInt8)), (∀ b ∈ ms, ∀ x ∈ b, x.toNat < 128) → ∀ x ∈ flatL ms, x.toNat < 128 := by
  intro ms h x hx
  unfold flatL at hx
  rw [List.mem_flatMap] at hx
  obtain ⟨b, hb, hx⟩ := hx
  rcases List.mem_append.1 hx with hx | hx
  · exact h b hb x hx
  · simp at hx
    rcases hx with rfl | rfl <;> decide
theorem lines_words {L : List (ByteArray × ByteArray)} (h2 : ∀ f ∈ L, FdD f) : ∀ b ∈ linesOf L, b.all (fun b => wordB b) = true := by
  intro b hb
  unfold linesOf at hb
  rcases List.mem_append.1 hb with hb | hb
  · obtain ⟨f, hf, rfl⟩ := List.mem_map.1 hb
    exact (h2 f hf).words
  · simp at hb
    subst hb
    rfl
theorem mk_back (line : ByteArray) : (⟨line.data.toList.toArray⟩ : ByteArray) = line := Lib.mk_data line
theorem lineOk_back {line : ByteArray} (h1 : line ∈ hlL) : (decide (1 ≤ (⟨line.data.toList.toArray⟩ : ByteArray).size) && plainS ⟨line.data.toList.toArray⟩ 80) = true := by
  rw [mk_back]
  have hl := hl_ok line h1
  have l1 := hlL_len line h1
  have e1 : allB plainB line = true := hl.1
  unfold plainS
  rw [e1, decide_eq_true (show 1 ≤ line.size from hl.2), decide_eq_true (show (line.size : Int) ≤ 80 by omega)]
  rfl
theorem head_asc {line : ByteArray} {L : List (ByteArray × ByteArray)} (h1 : line ∈ hlL) (h2 : ∀ f ∈ L, FdD f) : ∀ x ∈ (headT line L).data.toList, x.toNat < 128 := by
  rw [headT_list]
  intro x hx
  rcases List.mem_append.1 hx with hx | hx
  · exact words_asc (hl_ok line h1).1 x hx
  · rcases List.mem_cons.1 hx with rfl | hx
    · decide
    · rcases List.mem_cons.1 hx with rfl | hx
      · decide
      · exact flat_asc _ (fun b hb => words_asc (lines_words h2 b hb)) x hx
theorem readHead_drawn (w : World) (t line : ByteArray) (L : List (ByteArray × ByteArray)) (tail : List UInt8) (h1 : line ∈ hlL) (h2 : ∀ f ∈ L, FdD f) (h3 : L.length ≤ 3) (ht : t.data.toList = (headT line L).data.toList ++ tail) (hasc : ∀ x ∈ tail, x.toNat < 128) (htl : tail.length ≤ 100) :
    Calls Tryz.prog 9 #[.string t] w fun e w' => ∃ v, e = .returned (.tuple #[.agg #[.string line, v], .int .i64 ((headT line L).size : Int), .int .i64 0]) ∧ OwnD w' w.heap.size 29 v L ∧ Below w.heap.size w w' := by
  obtain ⟨hok, hsz⟩ := drawn_ok h1 h2 h3
  have hz := (headOk_sz hok).1
  have hll := linesOf_len L
  have hts : t.size ≤ 1048576 := by
    rw [Lib.size_eq, ht, List.length_append, ← Lib.size_eq]
    omega
  have hl : t.data.toList = line.data.toList ++ 13 :: 10 :: (flatL (linesOf L) ++ tail) := by
    rw [ht, headT_list]
    simp
  have hK : posL (line.data.toList.length + 2) (linesOf L) (L.length + 1) = (headT line L).size := by
    unfold posL
    rw [List.take_of_length_le (by omega), Lib.size_eq, headT_list]
    simp
    omega
  have h := readLines_whole ((( readW w t).heap.size, .cells #[.int .i64 0] 3 (0, 0)) :: besideR w) w (w.heap.size + 1) ⟨#[]⟩ (.slice none 0 0) t ((readW w t).alloc (.cells #[.int .i64 0] 3)) ((readW_rr w t).push #[.int .i64 0] 3 (by decide)) hts
    (by rw [ht]; intro x hx; rcases List.mem_append.1 hx with hx | hx; exact head_asc h1 h2 x hx; exact hasc x hx)
    line.data.toList (linesOf L) tail L L.length hl (wordB_noEnd (hl_ok line h1).1) (lineOk_back h1) (fun i hi => wordB_noEnd (lines_words h2 _ (List.getElem_mem hi))) rfl (by omega) hll
    (fun i hi hi' hi'' => by rw [linesOf_at L i hi hi']; exact (h2 _ (List.getElem_mem _)).line) (linesOf_last L) (by rw [mk_back]; exact hok)
  rw [mk_back, hK] at h
  exact readHead_ok w t line L (headT line L).size hz (read_of_ok (readW_rr w t) (beside_lt w t) h)
theorem more_one {tot : Nat} {first : Bool} {b : List UInt8} (h1 : tot ≤ 300) (h2 : first = false ∨ (b.length ≤ 80 ∧ b.all (fun x => wordB x) = true)) : moreC tot first ⟨b.toArray⟩ = 1 := by
  unfold moreC
  rw [if_neg (by omega)]
  rcases h2 with rfl | ⟨hl, hw⟩
  · rw [if_neg (by simp)]
  · rw [if_neg]
    rintro ⟨_, h⟩
    apply h
    refine ⟨by show b.toArray.size ≤ 80; simpa using hl, ?_⟩
    unfold allB
    rw [List.all_eq_true] at hw ⊢
    intro x hx
    have := hw x hx
    unfold wordB at this
    unfold blankB
    rw [decide_eq_true_eq] at this ⊢
    omega
theorem readHead_cut (w : World) (t line : ByteArray) (L : List (ByteArray × ByteArray)) (m : Nat) (h1 : line ∈ hlL) (h2 : ∀ f ∈ L, FdD f) (h3 : L.length ≤ 3) (hm : m < (headT line L).size) (ht : t.data.toList = (headT line L).data.toList.take m) :
    Calls Tryz.prog 9 #[.string t] w fun e w' => e = .returned (.tuple #[.agg #[.string ⟨#[]⟩, .slice none 0 0], .int .i64 0, .int .i64 1]) ∧ Below w.heap.size w w' := by
  obtain ⟨hok, hsz⟩ := drawn_ok h1 h2 h3
  have hll := linesOf_len L
  have hmz : t.size = m := by
    rw [Lib.size_eq, ht, List.length_take, ← Lib.size_eq]
    omega
  have hasc : ∀ x ∈ t.data.toList, x.toNat < 128 := by
    rw [ht]
    intro x hx
    exact head_asc h1 h2 x (List.mem_of_mem_take hx)
  have hR := (readW_rr w t).push #[.int .i64 0] 3 (by decide)
  refine readHead_pan w t 1 (by decide) (read_of_pan 1 (readW_rr w t) (beside_lt w t) ?_)
  have hlw := (hl_ok line h1).1
  have hl80 := hlL_len line h1
  have hls := Lib.size_eq line
  rw [headT_list] at ht
  by_cases hc : m < line.data.toList.length + 2
  · -- the first line is cut
    rw [show line.data.toList ++ 13 :: 10 :: flatL (linesOf L) = (line.data.toList ++ [13, 10]) ++ flatL (linesOf L) by simp, List.take_append_of_le_length (by simp; omega)] at ht
    refine readLines_first _ w _ _ _ t _ hR 1 ?_
    rcases take_line line.data.toList m hc with hd | hd
    · rw [hd] at ht
      have h := nextLine_more _ _ _ _ t 0 (line.data.toList.take m) hR.box (by omega) (by omega) hasc (by rw [List.drop_zero]; exact ht) (fun x hx => wordB_noEnd hlw x (List.mem_of_mem_take hx))
      rw [more_one (by omega) (.inr ⟨by rw [List.length_take]; omega, List.all_eq_true.2 fun x hx => List.all_eq_true.1 hlw x (List.mem_of_mem_take hx)⟩)] at h
      exact h
    · rw [hd] at ht
      have h := nextLine_half _ _ _ _ t 0 line.data.toList hR.box (by omega) (by omega) hasc (by rw [List.drop_zero]; exact ht) (wordB_noEnd hlw)
      rw [more_one (by omega) (.inr ⟨by omega, hlw⟩)] at h
      exact h
  · -- a later line is cut
    have hlen : (flatL (linesOf L)).length + line.data.toList.length + 2 = (headT line L).size := by
      rw [Lib.size_eq (headT line L), headT_list]
      simp
      omega
    obtain ⟨i, hi, d, hd, he⟩ := cut_flat (linesOf L) (m - (line.data.toList.length + 2)) (by omega)
    obtain ⟨tail, htail⟩ : ∃ q, ((linesOf L)[i] ++ [13, 10]).take d = q := ⟨_, rfl⟩
    have ht2 : t.data.toList = line.data.toList ++ 13 :: 10 :: (flatL ((linesOf L).take i) ++ tail) := by
      rw [ht, show line.data.toList ++ 13 :: 10 :: flatL (linesOf L) = (line.data.toList ++ [13, 10]) ++ flatL (linesOf L) by simp, List.take_append, List.take_of_length_le (by simp; omega)]
      have e : m - (line.data.toList ++ [13, 10]).length = m - (line.data.toList.length + 2) := by simp
      rw [e, he, htail]
      simp
    have hti : ((linesOf L).take i).length = i := by rw [List.length_take]; omega
    have hfi : (L.take i).length = i := by rw [List.length_take]; omega
    have hw : ((linesOf L)[i]).all (fun b => wordB b) = true := lines_words h2 _ (List.getElem_mem hi)
    refine readLines_panics _ w _ _ _ t _ hR (by omega) hasc line.data.toList ((linesOf L).take i) tail (L.take i) i ht2 (wordB_noEnd hlw) (lineOk_back h1)
      (fun j hj => wordB_noEnd (lines_words h2 _ (List.mem_of_mem_take (List.getElem_mem hj)))) hfi (by omega) hti
      (fun j hj hj' hj'' => by
        have e1 : ((linesOf L).take i)[j] = fldL ((L.take i)[j]) := by
          rw [List.getElem_take, List.getElem_take]
          exact linesOf_at L j (by omega) (by omega)
        rw [e1]
        exact (h2 _ (List.mem_of_mem_take (List.getElem_mem hj''))).line) 1 ?_
    intro lx vx wi hx
    have hda : t.data.toList.drop (posL (line.data.toList.length + 2) ((linesOf L).take i) i) = tail := by
      have h := drop_at t.data.toList (line.data.toList.length + 2) ((linesOf L).take i) tail (by
        rw [ht2, show line.data.toList ++ 13 :: 10 :: (flatL ((linesOf L).take i) ++ tail) = (line.data.toList ++ [13, 10]) ++ (flatL ((linesOf L).take i) ++ tail) by simp, List.drop_left' (by simp)]) i
      have e : ((linesOf L).take i).drop i = [] := List.drop_of_length_le (by omega)
      rw [e] at h
      exact h
    have hpz : ¬ posL (line.data.toList.length + 2) ((linesOf L).take i) i = 0 := by unfold posL; omega
    have hple : posL (line.data.toList.length + 2) ((linesOf L).take i) i ≤ t.size := by
      rw [Lib.size_eq, ht2]
      unfold posL
      rw [List.take_of_length_le (by omega)]
      simp
      omega
    rcases take_line (linesOf L)[i] d hd with hq | hq
    · rw [hq] at htail
      subst htail
      have h := nextLine_more wi _ lx vx t _ _ hx hple (by omega) hasc hda (fun x hx => wordB_noEnd hw x (List.mem_of_mem_take hx))
      rw [more_one (by omega) (.inl (decide_eq_false hpz))] at h
      exact h
    · rw [hq] at htail
      subst htail
      have h := nextLine_half wi _ lx vx t _ _ hx hple (by omega) hasc hda (wordB_noEnd hw)
      rw [more_one (by omega) (.inl (decide_eq_false hpz))] at h
      exact h
end Go.Proofs.YtnnaphfeeobelaeGreatDoor
