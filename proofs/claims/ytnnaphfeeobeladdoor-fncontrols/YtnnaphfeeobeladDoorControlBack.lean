/- What is told of keeping comes back from its text, where its numbers may be told. Plain, no program. -/
import Derived.Test.YtnnaphfeeobeladDoorNumPlain
import Derived.Test.YtnnaphfeeobeladDoorControlTextPlain
namespace Go.Proofs.YtnnaphfeeobeladDoor
open Go.RowKit
/-- Told in words, joined: the parts are just the words, the later ones behind a blank. -/
theorem splitC_words : ∀ (w : List UInt8) (ws : List (List UInt8)), (∀ x ∈ w, x ≠ 44) → (∀ v ∈ ws, ∀ x ∈ v, x ≠ 44) → splitC (w ++ (ws.map (fun v => 44 :: 32 :: v)).flatten) = w :: ws.map (fun v => 32 :: v)
  | w, [], h, _ => by simp [splitC_none w h]
  | w, v :: ws, h, hs => by
    rw [List.map_cons, List.flatten_cons, List.cons_append, splitC_at w _ h]
    congr 1
    have h2 : ∀ x ∈ 32 :: v, x ≠ 44 := fun x hx => (List.mem_cons.1 hx).elim (fun e => by rw [e]; decide) (hs v List.mem_cons_self x)
    have := splitC_words (32 :: v) ws h2 (fun u hu => hs u (List.mem_cons_of_mem _ hu))
    rw [List.map_cons]
    exact this
def joinW : List (List UInt8) → List UInt8
  | [] => []
  | w :: ws => w ++ (ws.map (fun v => 44 :: 32 :: v)).flatten
theorem joinW_snoc (P : List (List UInt8)) (q : List UInt8) (h : P ≠ []) : joinW (P ++ [q]) = joinW P ++ 44 :: 32 :: q := by
  cases P with
  | nil => exact absurd rfl h
  | cons w ws => simp [joinW]
theorem joinK_list (P : List ByteArray) : ∀ k, k ≤ P.length → (joinK P k).data.toList = joinW ((P.take k).map (fun p => p.data.toList))
  | 0, _ => rfl
  | k + 1, h => by
    have ih := joinK_list P k (by omega)
    rw [joinK, List.take_succ_eq_append_getElem (by omega), List.map_append]
    have hg : P.getD k ⟨#[]⟩ = P[k] := by rw [List.getD_eq_getElem?_getD, List.getElem?_eq_getElem (by omega)]; rfl
    rw [hg]
    by_cases h0 : 0 < k
    · rw [if_pos h0]
      rw [List.map_cons, List.map_nil, joinW_snoc _ _ (by intro e; rw [List.map_eq_nil_iff, List.take_eq_nil_iff] at e; rcases e with e | e; (· omega); (· rw [e] at h; simp at h)), ← ih]
      simp
    · have e : k = 0 := by omega
      subst e
      rw [if_neg h0]
      simp [joinK, joinW]
theorem textC_list (c : Ct) : (textC c).data.toList = joinW ((wordsC c).map (fun p => p.data.toList)) := by
  unfold textC
  rw [joinK_list _ _ (Nat.le_refl _), List.take_length]
def okN (x : Int) : Prop := x = -1 ∨ (0 ≤ x ∧ x ≤ 999999)
/-- The words as lists. -/
def wordsL (c : Ct) : List (List UInt8) :=
  (if c.ns = true then [noStoreL] else []) ++ (if c.nc = true then [noCacheL] else []) ++ (if inN c.ma 0 999999 = true then [maxAgeL ++ decOf c.ma] else []) ++ (if inN c.sh 0 999999 = true then [sMaxL ++ decOf c.sh] else [])
theorem wordsC_list (c : Ct) : (wordsC c).map (fun p => p.data.toList) = wordsL c := by
  unfold wordsC wordsL
  cases c.ns <;> cases c.nc <;> cases inN c.ma 0 999999 <;> cases inN c.sh 0 999999 <;> simp
theorem inN_nat {x : Int} (h : inN x 0 999999 = true) : ∃ n : Nat, n ≤ 999999 ∧ x = (n : Int) := by
  unfold inN at h
  have := of_decide_eq_true h
  exact ⟨x.toNat, by omega, by omega⟩
theorem wordsL_comma (c : Ct) : ∀ v ∈ wordsL c, ∀ x ∈ v, x ≠ 44 := by
  intro v hv
  unfold wordsL at hv
  rcases List.mem_append.1 hv with hv | hv
  · rcases List.mem_append.1 hv with hv | hv
    · rcases List.mem_append.1 hv with hv | hv
      · split at hv
        · rw [List.mem_singleton.1 hv]; decide
        · cases hv
      · split at hv
        · rw [List.mem_singleton.1 hv]; decide
        · cases hv
    · split at hv
      · next h =>
        obtain ⟨n, hn, e⟩ := inN_nat h
        rw [List.mem_singleton.1 hv, e]
        exact app_noComma (by decide) (dec_noComma n hn)
      · cases hv
  · split at hv
    · next h =>
      obtain ⟨n, hn, e⟩ := inN_nat h
      rw [List.mem_singleton.1 hv, e]
      exact app_noComma (by decide) (dec_noComma n hn)
    · cases hv
theorem foldl_blank (c : Ct) (ws : List (List UInt8)) : (ws.map (fun v => (32 : UInt8) :: v)).foldl partC c = ws.foldl partC c := by
  induction ws generalizing c with
  | nil => rfl
  | cons w ws ih =>
    rw [List.map_cons, List.foldl_cons, List.foldl_cons, ih]
    congr 1
    unfold partC
    rw [partW_blank]
theorem controlS_words (c : Ct) : controlS (textC c).data.toList = (wordsL c).foldl partC ct0 := by
  rw [textC_list, wordsC_list]
  have hc := wordsL_comma c
  unfold controlS
  cases h : wordsL c with
  | nil => rfl
  | cons w ws =>
    rw [h] at hc
    show (splitC (w ++ (ws.map (fun v => 44 :: 32 :: v)).flatten)).foldl partC ct0 = _
    rw [splitC_words w ws (hc w List.mem_cons_self) (fun v hv => hc v (List.mem_cons_of_mem _ hv)), List.foldl_cons, List.foldl_cons, foldl_blank]
theorem partC_noStore (c : Ct) : partC c noStoreL = { c with ns := true } := rfl
theorem partC_noCache (c : Ct) : partC c noCacheL = { c with nc := true } := rfl
theorem controlS_back (c : Ct) (h1 : okN c.ma) (h2 : okN c.sh) : controlS (textC c).data.toList = c := by
  rw [controlS_words]
  unfold wordsL
  rw [List.foldl_append, List.foldl_append, List.foldl_append]
  have e1 : (if c.ns = true then [noStoreL] else []).foldl partC ct0 = ⟨c.ns, false, -1, -1⟩ := by cases c.ns <;> rfl
  have e2 : (if c.nc = true then [noCacheL] else []).foldl partC ⟨c.ns, false, -1, -1⟩ = ⟨c.ns, c.nc, -1, -1⟩ := by
    cases c.nc
    · rfl
    · exact partC_noCache _
  rw [e1, e2]
  have e3 : (if inN c.ma 0 999999 = true then [maxAgeL ++ decOf c.ma] else []).foldl partC ⟨c.ns, c.nc, -1, -1⟩ = ⟨c.ns, c.nc, c.ma, -1⟩ := by
    by_cases h : inN c.ma 0 999999 = true
    · obtain ⟨n, hn, e⟩ := inN_nat h
      rw [if_pos h, e]
      show partC _ _ = _
      rw [partC_age _ n hn (told_word (by decide) (by decide) (by decide) n hn)]
    · rw [if_neg h]
      have : c.ma = -1 := by
        rcases h1 with h1 | h1
        · exact h1
        · exact absurd (decide_eq_true h1) h
      rw [this]; rfl
  rw [e3]
  by_cases h : inN c.sh 0 999999 = true
  · obtain ⟨n, hn, e⟩ := inN_nat h
    rw [if_pos h, e]
    show partC _ _ = _
    rw [partC_sh _ n hn (told_word (by decide) (by decide) (by decide) n hn), ← e]
  · rw [if_neg h]
    have : c.sh = -1 := by
      rcases h2 with h2 | h2
      · exact h2
      · exact absurd (decide_eq_true h2) h
    show (⟨c.ns, c.nc, c.ma, -1⟩ : Ct) = c
    rw [← this]
end Go.Proofs.YtnnaphfeeobeladDoor
