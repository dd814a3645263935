/- The other text's StreamNew and StreamJoin, and the program's StreamNew. -/
import Derived.Test.YtmpnjijbahjinatStmCopy
import Derived.Test.YtmpnjijbahjinatStmOkSpec
import Derived.Test.YtmpnjijbahjinatStmAt
namespace Go.Proofs.Ytmpnjijbahjinat
open Go.RowKit Go.Sort

theorem specStreamNew_any (w : World) : Calls Try.prog 21 #[] w fun e w' => ∃ v, e = .returned v ∧ MOwn w' w.heap.size v newM ∧ Below w.heap.size w w' := by
  have hb : Below w.heap.size w (w.alloc (.cells #[.int .i64 1, .string ⟨#[]⟩, .slice none 0 0] 44)) := (Below.refl _ _).alloc (Nat.le_refl _) _
  obtain ⟨q0, q1, q2⟩ := (MBox.new w (.int .i64 1) (.string ⟨#[]⟩) (.slice none 0 0)).cells
  go_enter Try.func21, Try.ntmps21
  go_wp2_with fail
  refine bodyPost_ret (v := .agg #[.int .i64 1, .string ⟨#[]⟩, .slice none 0 0]) (by simp [results, Try.results21, go_sem, q0, q1, q2]) rfl ⟨_, rfl, ⟨_, rfl, ⟨by simp [prl, newM], .inl ⟨rfl, rfl⟩⟩⟩, hb⟩
theorem implStreamNew_any (w : World) : Calls Try.prog 22 #[] w fun e w' => ∃ v, e = .returned v ∧ MOwn w' w.heap.size v newM ∧ Below w.heap.size w w' := by
  have hb : Below w.heap.size w (w.alloc (.cells #[.int .i64 1, .string ⟨#[]⟩, .slice none 0 0] 44)) := (Below.refl _ _).alloc (Nat.le_refl _) _
  obtain ⟨q0, q1, q2⟩ := (MBox.new w (.int .i64 1) (.string ⟨#[]⟩) (.slice none 0 0)).cells
  go_enter Try.func22, Try.ntmps22
  go_wp2_with fail
  refine bodyPost_ret (v := .agg #[.int .i64 1, .string ⟨#[]⟩, .slice none 0 0]) (by simp [results, Try.results22, go_sem, q0, q1, q2]) rfl ⟨_, rfl, ⟨_, rfl, ⟨by simp [prl, newM], .inl ⟨rfl, rfl⟩⟩⟩, hb⟩
def ltL (l : List (Int × Int)) (id : Int) : List (Int × Int) := l.filter fun r => decide (r.1 < id)
def gtL (l : List (Int × Int)) (id : Int) : List (Int × Int) := l.filter fun r => decide (id < r.1)
theorem ltL_len (l : List (Int × Int)) (id : Int) : (ltL l id).length ≤ l.length := List.length_filter_le _ _
theorem gtL_len (l : List (Int × Int)) (id : Int) : (gtL l id).length ≤ l.length := List.length_filter_le _ _
theorem ltgt_len (l : List (Int × Int)) (id : Int) : (ltL l id).length + (gtL l id).length ≤ l.length := by
  induction l with
  | nil => simp [ltL, gtL]
  | cons r l ih =>
    unfold ltL gtL at *
    rw [List.filter_cons, List.filter_cons]
    by_cases h1 : r.1 < id
    · have h2 : ¬ id < r.1 := by omega
      simp [h1, h2]; omega
    · by_cases h2 : id < r.1
      · simp [h1, h2]; omega
      · simp [h1, h2]; omega
theorem ltL_on (l : List (Int × Int)) (id : Int) (k : Nat) (hk : k < l.length) : ltL (l.take (k + 1)) id = if l[k].1 < id then ltL (l.take k) id ++ [l[k]] else ltL (l.take k) id := by
  unfold ltL
  rw [List.take_succ_eq_append_getElem hk, List.filter_append]
  by_cases h : l[k].1 < id <;> simp [h]
theorem gtL_on (l : List (Int × Int)) (id : Int) (k : Nat) (hk : k < l.length) : gtL (l.take (k + 1)) id = if id < l[k].1 then gtL (l.take k) id ++ [l[k]] else gtL (l.take k) id := by
  unfold gtL
  rw [List.take_succ_eq_append_getElem hk, List.filter_append]
  by_cases h : id < l[k].1 <;> simp [h]
theorem join_lt (l : List (Int × Int)) (id : Int) : joinL l id = ltL l id ++ [(id, 0)] ++ gtL l id := rfl
end Go.Proofs.Ytmpnjijbahjinat
