/- Streams that are drawn: right, and their readers are 1 to 5; what is put, ended, joined, read and left stays right. Plain, no program. -/
import Derived.Test.YtmpnjijbahjinafStmRead1
namespace Go.Proofs.Ytmpnjijbahjinaf
open Go.RowKit

theorem inI_iff {n a b : Int} : inI n a b = true ↔ a ≤ n ∧ n ≤ b := by unfold inI; exact decide_eq_true_iff
theorem atM_none {l : List (Int × Int)} {id : Int} (h : ∀ r ∈ l, ¬ r.1 = id) : atM l id = -1 := atM_miss l id fun _ hj => h _ (List.getElem_mem hj)
theorem put_ok {S : Stm} {part : ByteArray} (h : okM S = true) : okM (putM S part).1 = true := by
  unfold putM
  split
  · rename_i hc
    simp only [Bool.and_eq_true, decide_eq_true_eq] at hc
    obtain ⟨h1, h2, h3, h4⟩ := okM_parts h
    obtain ⟨g1, g2⟩ := (rdOk_iff _ _).1 h1
    refine okM_of ((rdOk_iff _ _).2 ⟨fun r hr => ⟨(g1 r hr).1, ?_⟩, g2⟩) h2 (by simp; omega) h4
    have := inI_iff.1 (g1 r hr).2
    exact inI_iff.2 ⟨this.1, by simp; omega⟩
  · exact h
theorem end_ok {S : Stm} {br : Bool} (h : okM S = true) : okM (endM S br).1 = true := by
  unfold endM
  split
  · obtain ⟨h1, h2, h3, h4⟩ := okM_parts h
    exact okM_of h1 (by cases br <;> rfl) h3 h4
  · exact h
theorem join_okM {S : Stm} {id : Int} (h : okM S = true) : okM (joinM S id).1 = true := by
  unfold joinM
  split
  · rename_i hc
    rw [Bool.and_eq_true] at hc
    exact hc.2
  · exact h
theorem leave_ok {S : Stm} {id : Int} (h : okM S = true) : okM (leaveM S id) = true := by
  obtain ⟨h1, h2, h3, h4⟩ := okM_parts h
  obtain ⟨g1, g2⟩ := (rdOk_iff _ _).1 h1
  refine okM_of ((rdOk_iff _ _).2 ⟨fun r hr => g1 r ((List.mem_filter.1 hr).1), asc_pair.2 ((asc_pair.1 g2).filter _)⟩) h2 h3 (Nat.le_trans (List.length_filter_le _ _) h4)
theorem farM_in {t : Nat} {a most : Int} (h1 : a ≤ t) : a ≤ farM t a most ∧ farM t a most ≤ t := by
  unfold farM
  by_cases h : most < 0
  · rw [if_pos h]; split <;> omega
  · rw [if_neg h]; split <;> omega
theorem set_asc {l : List (Int × Int)} {k : Nat} (hk : k < l.length) (h : AscR l) (x : Int) : AscR (l.set k (l[k].1, x)) := by
  have e : ∀ i (hi : i < (l.set k (l[k].1, x)).length), (l.set k (l[k].1, x))[i].1 = (l[i]'(by simpa using hi)).1 := fun i hi => by
    rw [List.getElem_set]
    split
    · rename_i e; subst e; rfl
    · rfl
  intro i j hi hj hij
  rw [e i hi, e j hj]
  exact h i j (by simpa using hi) (by simpa using hj) hij
theorem set_ok {S : Stm} {k : Nat} (hk : k < S.rd.length) {x : Int} (h : okM S = true) (h0 : 0 ≤ x) (h1 : x ≤ S.text.size) : okM ⟨S.st, S.text, S.rd.set k (S.rd[k].1, x)⟩ = true := by
  obtain ⟨g0, g2, g3, g4⟩ := okM_parts h
  obtain ⟨q1, q2⟩ := (rdOk_iff _ _).1 g0
  refine okM_of ((rdOk_iff _ _).2 ⟨fun r hr => ?_, set_asc hk q2 x⟩) g2 g3 (by simpa using g4)
  rcases List.mem_or_eq_of_mem_set hr with hr | rfl
  · exact q1 r hr
  · exact ⟨(q1 _ (List.getElem_mem hk)).1, inI_iff.2 ⟨h0, h1⟩⟩
theorem readM_cases (S : Stm) (id most : Int) : (readM S id most = (S, ⟨#[]⟩, false)) ∨ ∃ k, ∃ hk : k < S.rd.length, okM S = true ∧ (readM S id most).1 = ⟨S.st, S.text, S.rd.set k (S.rd[k].1, farM S.text.size S.rd[k].2 most)⟩ := by
  by_cases hc : (okM S && decide (0 ≤ atM S.rd id)) = true
  · right
    have h := hc
    rw [Bool.and_eq_true, decide_eq_true_eq] at h
    rcases atM_cases S.rd id with ⟨e, _⟩ | ⟨k, hk, e, _, _⟩
    · rw [e] at h; exact absurd h.2 (by decide)
    · refine ⟨k, hk, h.1, ?_⟩
      unfold readM
      rw [if_pos hc]
      have hd : S.rd.getD k (0, 0) = S.rd[k] := by simp [List.getD, List.getElem?_eq_getElem hk]
      simp only [e, Int.toNat_natCast, hd]
  · left
    unfold readM
    rw [if_neg hc]
theorem read_ok {S : Stm} {id most : Int} (h : okM S = true) : okM (readM S id most).1 = true := by
  rcases readM_cases S id most with e | ⟨k, hk, _, e⟩
  · rw [e]; exact h
  · rw [e]
    have hb := rdOk_at (okM_parts h).1 k hk hk
    have := farM_in (most := most) hb.2
    exact set_ok hk h (by omega) (by omega)
/-- A drawn stream. -/
def DrM (S : Stm) : Prop := okM S = true ∧ ∀ r ∈ S.rd, r.1 ≤ 5
theorem new_dr : DrM newM := ⟨rfl, fun r hr => by simp [newM] at hr⟩
theorem put_dr {S : Stm} {part : ByteArray} (h : DrM S) : DrM (putM S part).1 := ⟨put_ok h.1, by unfold putM; split <;> exact h.2⟩
theorem end_dr {S : Stm} {br : Bool} (h : DrM S) : DrM (endM S br).1 := ⟨end_ok h.1, by unfold endM; split <;> exact h.2⟩
theorem join_dr {S : Stm} {id : Int} (h : DrM S) (hi : id ≤ 5) : DrM (joinM S id).1 := by
  refine ⟨join_okM h.1, ?_⟩
  unfold joinM
  split
  · intro r hr
    unfold joinL at hr
    rcases List.mem_append.1 hr with hr | hr
    · rcases List.mem_append.1 hr with hr | hr
      · exact h.2 r ((List.mem_filter.1 hr).1)
      · rw [List.mem_singleton] at hr; subst hr; exact hi
    · exact h.2 r ((List.mem_filter.1 hr).1)
  · exact h.2
theorem leave_dr {S : Stm} {id : Int} (h : DrM S) : DrM (leaveM S id) := ⟨leave_ok h.1, fun r hr => h.2 r ((List.mem_filter.1 hr).1)⟩
theorem read_dr {S : Stm} {id most : Int} (h : DrM S) : DrM (readM S id most).1 := by
  refine ⟨read_ok h.1, ?_⟩
  rcases readM_cases S id most with e | ⟨k, hk, _, e⟩
  · rw [e]; exact h.2
  · rw [e]
    intro r hr
    rcases List.mem_or_eq_of_mem_set hr with hr | rfl
    · exact h.2 r hr
    · exact h.2 S.rd[k] (List.getElem_mem hk)
theorem asc_ge {l : List (Int × Int)} (hA : AscR l) (h1 : ∀ r ∈ l, 1 ≤ r.1) : ∀ i (hi : i < l.length), (i : Int) + 1 ≤ l[i].1
  | 0, hi => h1 _ (List.getElem_mem hi)
  | i + 1, hi => by
    have := asc_ge hA h1 i (by omega)
    have := hA i (i + 1) (by omega) hi (by omega)
    omega
theorem DrM.len {S : Stm} (h : DrM S) : S.rd.length ≤ 5 := by
  obtain ⟨g1, g2⟩ := (rdOk_iff _ _).1 (okM_parts h.1).1
  rcases Nat.eq_zero_or_pos S.rd.length with e | e
  · omega
  · have := asc_ge g2 (fun r hr => (inI_iff.1 (g1 r hr).1).1) (S.rd.length - 1) (by omega)
    have := h.2 _ (List.getElem_mem (show S.rd.length - 1 < S.rd.length by omega))
    omega
theorem DrM.text {S : Stm} (h : DrM S) : S.text.size ≤ 400 := (okM_parts h.1).2.2.1
/-- Who is not there leaves nothing. -/
theorem leave_none {S : Stm} {id : Int} (h : ∀ r ∈ S.rd, ¬ r.1 = id) : leaveM S id = S := by
  unfold leaveM
  rw [List.filter_eq_self.2 fun r hr => by simp [h r hr]]
/-- A stream that the reader id reads, at A, behind the readers R. -/
structure Rdg (S : Stm) (id : Int) (R : List (Int × Int)) (A : Nat) : Prop where
  ok : okM S = true
  rd : S.rd = R ++ [(id, (A : Int))]
  lo : ∀ r ∈ R, r.1 < id
theorem Rdg.place {S : Stm} {id : Int} {R : List (Int × Int)} {A : Nat} (h : Rdg S id R A) : atM S.rd id = R.length ∧ ∃ hk : R.length < S.rd.length, S.rd[R.length] = (id, (A : Int)) := by
  have hl : R.length < S.rd.length := by rw [h.rd]; simp
  have e : S.rd[R.length] = (id, (A : Int)) := by simp [h.rd]
  refine ⟨atM_hit S.rd id R.length hl (by rw [e]) fun j hj hjk => ?_, hl, e⟩
  have e2 : S.rd[j] = R[j] := by simp [h.rd, hjk]
  rw [e2]
  have := h.lo _ (List.getElem_mem hjk)
  omega
theorem Rdg.le {S : Stm} {id : Int} {R : List (Int × Int)} {A : Nat} (h : Rdg S id R A) : A ≤ S.text.size := by
  obtain ⟨_, hk, e⟩ := h.place
  have := rdOk_at (okM_parts h.ok).1 R.length hk hk
  rw [e] at this
  omega
theorem join_last {S : Stm} (h : DrM S) {id : Int} (h6 : 6 ≤ id) (h9 : id ≤ 9) : joinM (leaveM S id) id = (⟨S.st, S.text, S.rd ++ [(id, 0)]⟩, true) ∧ Rdg ⟨S.st, S.text, S.rd ++ [(id, 0)]⟩ id S.rd 0 := by
  rw [leave_none fun r hr => by have := h.2 r hr; omega]
  have hl := h.len
  have hP : PlaceR S.rd id S.rd.length false := ⟨Nat.le_refl _, fun j hj _ => by have := h.2 _ (List.getElem_mem hj); omega, fun j hj hk => absurd hj (by omega), by simp⟩
  have e := joinM_new h.1 hP
  rw [inI_iff.2 ⟨by omega, h9⟩, decide_eq_false (by omega)] at e
  simp only [Bool.not_false, Bool.and_self, if_true, List.take_length, List.drop_length] at e
  refine ⟨e, ?_, rfl, fun r hr => by have := h.2 r hr; omega⟩
  have := join_okM (id := id) h.1
  rw [e] at this
  exact this
theorem Rdg.read {S : Stm} {id : Int} {R : List (Int × Int)} {A : Nat} (h : Rdg S id R A) (most : Int) (N : Nat) (hN : min (max most 0) (((S.text.size - A : Nat)) : Int) = N) :
    readM S id most = (⟨S.st, S.text, R ++ [(id, ((A + N : Nat) : Int))]⟩, S.text.extract A (A + N), true) ∧ Rdg ⟨S.st, S.text, R ++ [(id, ((A + N : Nat) : Int))]⟩ id R (A + N) := by
  obtain ⟨hat, hk, e⟩ := h.place
  have hs : S.rd.set R.length (S.rd[R.length].1, ((A + N : Nat) : Int)) = R ++ [(id, ((A + N : Nat) : Int))] := by rw [e, h.rd]; simp
  have hR := readM_yes h.ok hat hk (by rw [e]) h.le hN
  rw [hs] at hR
  refine ⟨hR, ?_, rfl, h.lo⟩
  have := read_ok (id := id) (most := most) h.ok
  rw [hR] at this
  exact this
theorem Rdg.put {S : Stm} {id : Int} {R : List (Int × Int)} {A : Nat} (h : Rdg S id R A) (part : ByteArray) : Rdg (putM S part).1 id R A ∧ ∃ x, (putM S part).1.text = S.text ++ x := by
  refine ⟨⟨put_ok h.ok, by unfold putM; split <;> exact h.rd, h.lo⟩, ?_⟩
  unfold putM
  split
  · exact ⟨part, rfl⟩
  · exact ⟨ByteArray.empty, by simp⟩
end Go.Proofs.Ytmpnjijbahjinaf
