/- slices.Delete of one pair out of pairs that are owned. -/
import Derived.Test.YtogfkbkfcelgcaoInsPair
namespace Go.Proofs.Ytogfkbkfcelgcao
open Go.RowKit Go.Sort

theorem Try.zeroPr : ∀ w, (zeroValue 87).run Try.prog w = .ok (.agg #[.int .i64 0, .int .i64 0]) w := by intro w; kernel_rfl
theorem del_splice {α : Type} (X D Z : List α) (o m : Nat) (hX : o + m + D.length ≤ X.length) (hZ : Z.length = m) : (splice (splice X o D) (o + D.length) Z).take (o + D.length) = X.take o ++ D := by
  subst hZ
  unfold splice
  have e1 : (X.take o ++ (D ++ X.drop (o + D.length))).take (o + D.length) = X.take o ++ D := by
    rw [← List.append_assoc, List.take_append_of_le_length (by simp; omega)]
    exact List.take_of_length_le (by simp; omega)
  rw [e1, List.take_append_of_le_length (by simp; omega)]
  exact List.take_of_length_le (by simp; omega)
theorem below_cells {B g : Nat} (hg : B ≤ g) : ∀ (vs : List Value) (o : Nat) (w : World), Below B w (w.setCells g o vs)
  | [], _, w => Below.refl B w
  | v :: rest, o, w => by
    simp only [World.setCells]
    have h1 : Below B w (w.setCell ⟨g, o, none⟩ v) := ⟨rfl, rfl, rfl, by simp [World.setCell], fun k hk => heap_setCell_other w ⟨g, o, none⟩ k v (by show k ≠ g; omega)⟩
    exact h1.trans (below_cells hg rest (o + 1) _)
set_option maxHeartbeats 4000000 in
set_option maxRecDepth 100000 in
theorem deleteP_row (w : World) (base g cap i r : Nat) (L : List (Int × Int)) (cur : List Value) (hg : w.heap[g]? = some (.cells cur.toArray 87 (0, 0))) (hcur : cur.length = cap * 2) (htk : cur.take (L.length * 2) = prl L)
    (hcap : cap ≤ maxLen) (hbg : base ≤ g) (hn : L.length = i + 1 + r) (hnc : L.length ≤ cap) :
    Calls Try.prog 56 #[.slice (some ⟨g, 0, none⟩) L.length cap, .int .i64 i, .int .i64 ((i : Int) + 1)] w fun e w' => ∃ v', e = .returned v' ∧ OwnP w' base 87 v' (L.take i ++ L.drop (i + 1)) ∧ Below base w w' := by
  obtain ⟨i0, hi0, hz0, hzs, hzb⟩ := info_parts Try.infoPr
  have hsrc0 := row_src hg L htk (i + 1) (by omega)
  obtain ⟨D, hD⟩ : ∃ D, prl (L.drop (i + 1)) = D := ⟨_, rfl⟩
  have hDl : D.length = r * 2 := by rw [← hD, prl_length, List.length_drop, hn]; omega
  rw [hD] at hsrc0
  obtain ⟨A, hA, hsrc⟩ : ∃ A : Addr, (if cap = i + 1 then some (⟨g, 0, none⟩ : Addr) else some ⟨g, (i + 1) * 2, none⟩) = some A ∧ Hid (∀ j v, D[j]? = some v → w.drew.cell? (A.add j) = some v) := by
    by_cases h : cap = i + 1
    · refine ⟨⟨g, 0, none⟩, by simp [h], fun t u hu => ?_⟩
      have h0 : D.length = 0 := by rw [hDl]; omega
      rw [List.length_eq_zero_iff.1 h0] at hu
      simp at hu
    · exact ⟨⟨g, (i + 1) * 2, none⟩, by simp [h], hsrc0⟩
  have s1 : Hid (D.length = r * 2) := hDl
  have s2 : Hid (∀ v ∈ D, v.oneCell' = true) := by show ∀ v ∈ D, _; rw [← hD]; exact prl_one' _
  have s3 : Hid (∀ j, j < D.length → (w.drew.cell? ⟨g, 0 + i * 2 + j, none⟩).isSome = true ∧ w.drew.frozen? ⟨g, 0 + i * 2 + j, none⟩ = false) := by
    intro j hj
    rw [hDl] at hj
    have hlt : 0 + i * 2 + j < cur.length := by omega
    refine ⟨?_, by show w.frozen? _ = false; simp [World.frozen?, hg]⟩
    show (w.cell? _).isSome = true
    simp [World.cell?, hg] at hlt ⊢
    omega
  obtain ⟨W1, hW1⟩ : ∃ W1, w.drew.setCells g (0 + i * 2) D = W1 := ⟨_, rfl⟩
  have hrow : W1.heap[g]? = some (.cells (splice cur (0 + i * 2) D).toArray 87 (0, 0)) := by rw [← hW1]; exact setCells_row g _ D _ cur w.drew hg (by rw [hDl]; omega)
  have hbel : Below base w W1 := by
    rw [← hW1]
    have h0 : Below base w w.drew := ⟨rfl, rfl, rfl, Nat.le_refl _, fun _ _ => rfl⟩
    exact h0.trans (below_cells hbg D _ _)
  have hl1 : (splice cur (0 + i * 2) D).length = cap * 2 := by rw [length_splice _ _ _ (by rw [hDl]; omega), hcur]
  have HG : Hid (cur.length = cap * 2 ∧ cur.take (L.length * 2) = prl L ∧ L.length = i + 1 + r ∧ prl (L.drop (i + 1)) = D ∧ W1.heap[g]? = some (.cells (splice cur (0 + i * 2) D).toArray 87 (0, 0)) ∧ Below base w W1 ∧ (splice cur (0 + i * 2) D).length = cap * 2) := ⟨hcur, htk, hn, hD, hrow, hbel, hl1⟩
  have HW : Hid (w.drew.setCells g (0 + i * 2) D = W1) := hW1
  have hcl : ∀ ty c, (Builtin.clear_ #[66] ty #[.slice (some ⟨g, (i + r) * 2, none⟩) 1 c]).run Try.prog W1 = .ok (.tuple #[]) (W1.setRow g (splice (splice cur (0 + i * 2) D) ((i + r) * 2) [.int .i64 0, .int .i64 0]).toArray) := fun ty c =>
    run_clear_one W1 66 87 ty (.agg #[.int .i64 0, .int .i64 0]) Try.underlying66 Try.zeroPr (by intro v hv; simp [Value.cells] at hv; rw [hv]; rfl) g ((i + r) * 2) c (splice cur (0 + i * 2) D) 87 hrow (by rw [hl1]; simp [Value.cells]; omega)
  obtain ⟨W2, hW2⟩ : ∃ W2, W1.setRow g (splice (splice cur (0 + i * 2) D) ((i + r) * 2) [.int .i64 0, .int .i64 0]).toArray = W2 := ⟨_, rfl⟩
  rw [hW2] at hcl
  have H2 : Hid (W2.heap[g]? = some (.cells (splice (splice cur (0 + i * 2) D) ((i + r) * 2) [.int .i64 0, .int .i64 0]).toArray 87 (0, 0)) ∧ Below base w W2) := by
    rw [← hW2]
    exact ⟨setRow_heap W1 g _ _ _ _ hrow, below_setRow hbel hbg _⟩
  rw [hn] at hnc ⊢
  clear hW2
  clear hg hcur htk hn hsrc0 hD hDl hW1 hrow hbel hl1
  have hc1 : (cap : Int) ≤ 9223372036854775807 := by unfold maxLen at hcap; omega
  have hz2 : ¬ ((i : Int) = (i : Int) + 1) := by omega
  have hw1 : IntKind.i64.wrap ((i : Int) + 1) = (i : Int) + 1 := by rw [IntKind.wrap_i64]; omega
  have htn : ((i : Int) + 1).toNat = i + 1 := by omega
  have hb1 : (0 : Int) ≤ (i : Int) + 1 := by omega
  have hb5 : (i : Int) ≤ (i : Int) + 1 := by omega
  have hb6 : (i : Int) + 1 ≤ (i : Int) + 1 + (r : Int) := by omega
  have hb7 : (i : Int) + 1 + (r : Int) ≤ (cap : Int) := by omega
  have hic : i ≤ cap := by omega
  have hjc : i + 1 ≤ cap := by omega
  have hjc' : (i : Int) + 1 ≤ (cap : Int) := by omega
  have hd1 : ¬ (cap = i + r) := by omega
  have hd2 : (i : Int) + (r : Int) ≤ (i : Int) + 1 + (r : Int) := by omega
  have hd3 : (0 : Int) ≤ (i : Int) + (r : Int) := by omega
  have hd4 : ((i : Int) + (r : Int)).toNat = i + r := by omega
  have hd5 : ((i : Int) + 1 + (r : Int)).toNat = i + 1 + r := by omega
  have hd6 : i + 1 + r - (i + r) = 1 := by omega
  go_enter Try.func56, Try.ntmps56
  go_wp2_with fail
  go_region_law (refine step_append_room rfl (.tmp 22) (.tmp 25) 66 rfl 87 i0 2 Try.underlying66 hi0 hzs g 0 i cap (by simp [Act.eval, Act.put]) A r (cap - (i + 1)) D (by simp [Act.eval, Act.put]) s1.out hsrc.out s2.out (by omega) s3.out ?_; rw [HW.out])
  go_wp2
  go_ret
  refine ⟨_, rfl, ?_, H2.out.2⟩
  obtain ⟨e1, e2, e3, e4, _, _, e5⟩ := HG.out
  have hl2 : (splice (splice cur (0 + i * 2) D) ((i + r) * 2) [.int .i64 0, .int .i64 0]).length = cap * 2 := by rw [length_splice _ _ _ (by rw [e5]; simp; omega), e5]
  have hLn : (L.take i ++ L.drop (i + 1)).length = i + r := by simp; omega
  refine ⟨by rw [prl_length], .inr ⟨g, cap, _, by rw [hLn]; rfl, hbg, H2.out.1, by omega, hcap, by simpa using hl2, ?_⟩⟩
  have e := del_splice cur D [.int .i64 0, .int .i64 0] (i * 2) 2 (by rw [s1.out, e1]; omega) rfl
  rw [hLn, show 0 + i * 2 = i * 2 by omega, show (i + r) * 2 = i * 2 + D.length by rw [s1.out]; omega]
  show List.take _ (splice (splice cur (i * 2) D) (i * 2 + D.length) [.int .i64 0, .int .i64 0]) = _
  rw [e, ← e4, show cur.take (i * 2) = prl (L.take i) by rw [← prl_take, ← e2, List.take_take, Nat.min_eq_left (by omega)], prl_append]
theorem deleteP_any (w : World) (base : Nat) (v : Value) (L : List (Int × Int)) (i : Nat) (ho : OwnP w base 87 v L) (hi : i < L.length) :
    Calls Try.prog 56 #[v, .int .i64 i, .int .i64 ((i : Int) + 1)] w fun e w' => ∃ v', e = .returned v' ∧ OwnP w' base 87 v' (L.take i ++ L.drop (i + 1)) ∧ Below base w w' := by
  rcases ho.2 with ⟨_, h0⟩ | ⟨g, cap, cur, rfl, hb, hg, h1, h2, h3, h4⟩
  · omega
  · have hg' : w.heap[g]? = some (.cells cur.toList.toArray 87 (0, 0)) := by simpa using hg
    exact deleteP_row w base g cap i (L.length - (i + 1)) L cur.toList hg' (by simpa using h3) h4 h2 hb (by omega) h1
end Go.Proofs.Ytogfkbkfcelgcao
