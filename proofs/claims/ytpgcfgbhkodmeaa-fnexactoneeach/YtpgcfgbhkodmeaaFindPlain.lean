/- What is found of a file: of each key the last one; the plain reckoning; no program. -/
import Derived.Test.YtpgcfgbhkodmeaaEntPlain
import Derived.Test.YtpgcfgbhkodmeaaFolderPlain
namespace Go.Proofs.Ytpgcfgbhkodmeaa
open Go.RowKit
/-- The entries among texts. -/
def entsOf (xs : List ByteArray) : List En := xs.filterMap fun x => if reOk x = true then some (reE x) else none
theorem ents_yes {x : ByteArray} (xs : List ByteArray) (h : reOk x = true) : entsOf (xs ++ [x]) = entsOf xs ++ [reE x] := by simp [entsOf, h]
theorem ents_no {x : ByteArray} (xs : List ByteArray) (h : reOk x = false) : entsOf (xs ++ [x]) = entsOf xs := by simp [entsOf, h]
theorem ents_len (xs : List ByteArray) : (entsOf xs).length ≤ xs.length := List.length_filterMap_le _ _
/-- An entry in its place. -/
def insE (L : List En) (e : En) : List En := (L.filter fun x => ltS x.key e.key) ++ e :: (L.filter fun x => ltS e.key x.key)
def findE (es : List En) : List En := es.foldl insE []
theorem findE_snoc (es : List En) (e : En) : findE (es ++ [e]) = insE (findE es) e := by simp [findE]
/-- A later one takes the place of one of its key. -/
def posE (L : List En) (k : ByteArray) : Option Nat := L.findIdx? fun x => decide (x.key = k)
def updE (L : List En) (e : En) : List En := match posE L e.key with | some j => L.set j e | none => L ++ [e]
def lastE (es : List En) : List En := es.foldl updE []
theorem lastE_snoc (es : List En) (e : En) : lastE (es ++ [e]) = updE (lastE es) e := by simp [lastE]

def UpK (L : List En) : Prop := L.Pairwise fun x y => ltS x.key y.key = true
def ApartK (L : List En) : Prop := L.Pairwise fun x y => x.key ≠ y.key
theorem UpK.apart {L : List En} (h : UpK L) : ApartK L := h.imp fun {x y} hxy e => by rw [e, ltS_irr] at hxy; cases hxy
theorem mem_insE {L : List En} {e x : En} : x ∈ insE L e ↔ x = e ∨ (x ∈ L ∧ x.key ≠ e.key) := by
  unfold insE
  simp only [List.mem_append, List.mem_cons, List.mem_filter]
  constructor
  · rintro (⟨h1, h2⟩ | h | ⟨h1, h2⟩)
    · exact .inr ⟨h1, fun e => by rw [e, ltS_irr] at h2; cases h2⟩
    · exact .inl h
    · exact .inr ⟨h1, fun e => by rw [e, ltS_irr] at h2; cases h2⟩
  · rintro (h | ⟨h1, h2⟩)
    · exact .inr (.inl h)
    · rcases ltS_total h2 with h | h
      · exact .inl ⟨h1, h⟩
      · exact .inr (.inr ⟨h1, h⟩)
theorem insE_up {L : List En} (h : UpK L) (e : En) : UpK (insE L e) := by
  unfold UpK insE
  rw [List.pairwise_append]
  refine ⟨h.filter _, ?_, ?_⟩
  · rw [List.pairwise_cons]
    exact ⟨fun x hx => (List.mem_filter.1 hx).2, h.filter _⟩
  · intro x hx y hy
    have hx2 := (List.mem_filter.1 hx).2
    rcases List.mem_cons.1 hy with rfl | hy
    · exact hx2
    · exact ltS_trans hx2 (List.mem_filter.1 hy).2
theorem findE_up (es : List En) : UpK (findE es) := by
  have go : ∀ (es L : List En), UpK L → UpK (es.foldl insE L) := by
    intro es
    induction es with
    | nil => intro L h; exact h
    | cons e es ih => intro L h; exact ih _ (insE_up h e)
  exact go es [] List.Pairwise.nil
theorem posE_some {L : List En} {k : ByteArray} {j : Nat} (h : posE L k = some j) : ∃ hj : j < L.length, L[j].key = k := by
  unfold posE at h
  rw [List.findIdx?_eq_some_iff_getElem] at h
  obtain ⟨hj, h1, _⟩ := h
  exact ⟨hj, by simpa using h1⟩
theorem posE_none {L : List En} {k : ByteArray} (h : posE L k = none) : ∀ x ∈ L, x.key ≠ k := by
  unfold posE at h
  rw [List.findIdx?_eq_none_iff] at h
  intro x hx
  simpa using h x hx
theorem apart_at {L : List En} (h : ApartK L) {i j : Nat} (hi : i < L.length) (hj : j < L.length) (he : L[i].key = L[j].key) : i = j := by
  rcases Nat.lt_trichotomy i j with hlt | heq | hlt
  · exact absurd he (List.pairwise_iff_getElem.1 h i j hi hj hlt)
  · exact heq
  · exact absurd he.symm (List.pairwise_iff_getElem.1 h j i hj hi hlt)
theorem mem_updE {L : List En} (h : ApartK L) {e x : En} : x ∈ updE L e ↔ x = e ∨ (x ∈ L ∧ x.key ≠ e.key) := by
  unfold updE
  cases hp : posE L e.key with
  | none =>
    have hn := posE_none hp
    simp only [List.mem_append, List.mem_singleton]
    constructor
    · rintro (h | h)
      · exact .inr ⟨h, hn x h⟩
      · exact .inl h
    · rintro (h | ⟨h, _⟩)
      · exact .inr h
      · exact .inl h
  | some j =>
    obtain ⟨hj, hk⟩ := posE_some hp
    show x ∈ L.set j e ↔ _
    constructor
    · intro hm
      obtain ⟨i, hi, hx⟩ := List.getElem_of_mem hm
      rw [List.length_set] at hi
      rw [List.getElem_set] at hx
      split at hx
      · exact .inl hx.symm
      · rename_i hne
        refine .inr ⟨by rw [← hx]; exact List.getElem_mem hi, fun he => hne ?_⟩
        rw [← hx] at he
        exact (apart_at h hj hi (by rw [hk, he]))
    · rintro (rfl | ⟨hm, hne⟩)
      · exact List.mem_set hj _
      · obtain ⟨i, hi, hx⟩ := List.getElem_of_mem hm
        have hij : j ≠ i := by rintro rfl; exact hne (by rw [← hx, hk])
        have : (L.set j e)[i]'(by rw [List.length_set]; exact hi) = x := by rw [List.getElem_set_ne hij]; exact hx
        rw [← this]
        exact List.getElem_mem _
theorem updE_apart {L : List En} (h : ApartK L) (e : En) : ApartK (updE L e) := by
  unfold updE
  cases hp : posE L e.key with
  | none =>
    have hn := posE_none hp
    show ApartK (L ++ [e])
    unfold ApartK
    rw [List.pairwise_append]
    exact ⟨h, by simp, fun x hx y hy => by rw [List.mem_singleton.1 hy]; exact hn x hx⟩
  | some j =>
    obtain ⟨hj, hk⟩ := posE_some hp
    show ApartK (L.set j e)
    unfold ApartK
    rw [List.pairwise_iff_getElem]
    intro i l hi hl hil
    rw [List.length_set] at hi hl
    have hb := List.pairwise_iff_getElem.1 h i l hi hl hil
    rw [List.getElem_set, List.getElem_set]
    split
    · split
      · omega
      · rename_i h1 h2
        subst h1
        rw [← hk]; exact hb
    · split
      · rename_i h1 h2
        subst h2
        rw [← hk]; exact hb
      · exact hb
theorem lastE_apart (es : List En) : ApartK (lastE es) := by
  have go : ∀ (es L : List En), ApartK L → ApartK (es.foldl updE L) := by
    intro es
    induction es with
    | nil => intro L h; exact h
    | cons e es ih => intro L h; exact ih _ (updE_apart h e)
  exact go es [] List.Pairwise.nil
theorem last_find (es : List En) : ∀ x, x ∈ lastE es ↔ x ∈ findE es := by
  have go : ∀ (es L M : List En), ApartK L → (∀ x, x ∈ L ↔ x ∈ M) → ∀ x, x ∈ es.foldl updE L ↔ x ∈ es.foldl insE M := by
    intro es
    induction es with
    | nil => intro L M _ h; exact h
    | cons e es ih =>
      intro L M hL h
      refine ih _ _ (updE_apart hL e) fun x => ?_
      rw [mem_updE hL, mem_insE, h x]
  exact go es [] [] List.Pairwise.nil fun x => Iff.rfl
/-- Two lists that ascend and have the same entries are one. -/
theorem up_ext : ∀ {L M : List En}, UpK L → UpK M → (∀ x, x ∈ L ↔ x ∈ M) → L = M
  | [], [], _, _, _ => rfl
  | [], y :: M, _, _, h => absurd ((h y).2 (by simp)) (by simp)
  | x :: L, [], _, _, h => absurd ((h x).1 (by simp)) (by simp)
  | x :: L, y :: M, hL, hM, h => by
    obtain ⟨hL1, hL2⟩ := List.pairwise_cons.1 hL
    obtain ⟨hM1, hM2⟩ := List.pairwise_cons.1 hM
    have hxy : x = y := by
      rcases List.mem_cons.1 ((h x).1 (by simp)) with e | hx
      · exact e
      · rcases List.mem_cons.1 ((h y).2 (by simp)) with e | hy
        · exact e.symm
        · have h1 := hL1 y hy
          have h2 := hM1 x hx
          have := ltS_asym h1
          rw [h2] at this
          cases this
    subst hxy
    congr 1
    refine up_ext hL2 hM2 fun z => ?_
    have hz := h z
    simp only [List.mem_cons] at hz
    constructor
    · intro hm
      rcases hz.1 (.inr hm) with e | hm'
      · subst e; have := hL1 z hm; rw [ltS_irr] at this; cases this
      · exact hm'
    · intro hm
      rcases hz.2 (.inr hm) with e | hm'
      · subst e; have := hM1 z hm; rw [ltS_irr] at this; cases this
      · exact hm'
/-- Whatever is sorted of what came last is what is found. -/
theorem sorted_find {es D : List En} (hp : D.Perm (lastE es)) (hs : D.Pairwise fun x y => ltS y.key x.key = false) : D = findE es := by
  have hap : ApartK D := (hp.pairwise_iff (fun {x y} h e => h e.symm)).2 (lastE_apart es)
  have hup : UpK D := by
    refine List.Pairwise.imp₂ ?_ hap hs
    intro x y h1 h2
    rcases ltS_total h1 with h | h
    · exact h
    · rw [h] at h2; cases h2
  exact up_ext hup (findE_up es) fun x => (hp.mem_iff).trans (last_find es x)
theorem insE_len (L : List En) (e : En) : (insE L e).length ≤ L.length + 1 := by
  have hd : ∀ L : List En, (L.filter fun x => ltS x.key e.key).length + (L.filter fun x => ltS e.key x.key).length ≤ L.length := by
    intro L
    induction L with
    | nil => simp
    | cons x L ih =>
      simp only [List.filter_cons, List.length_cons]
      cases h1 : ltS x.key e.key
      · cases h2 : ltS e.key x.key <;> simp <;> omega
      · have h2 := ltS_asym h1
        rw [h2]
        simp
        omega
  have := hd L
  unfold insE
  rw [List.length_append, List.length_cons]
  omega
theorem findE_len (es : List En) : (findE es).length ≤ es.length := by
  have go : ∀ (es L : List En), (es.foldl insE L).length ≤ L.length + es.length := by
    intro es
    induction es with
    | nil => intro L; simp
    | cons e es ih =>
      intro L
      have h1 := ih (insE L e)
      have h2 := insE_len L e
      simp only [List.foldl_cons, List.length_cons]
      omega
  have := go es []
  unfold findE
  simpa using this
theorem updE_len (L : List En) (e : En) : (updE L e).length ≤ L.length + 1 := by
  unfold updE
  cases posE L e.key <;> simp
theorem lastE_len (es : List En) : (lastE es).length ≤ es.length := by
  have go : ∀ (es L : List En), (es.foldl updE L).length ≤ L.length + es.length := by
    intro es
    induction es with
    | nil => intro L; simp
    | cons e es ih =>
      intro L
      have h1 := ih (updE L e)
      have h2 := updE_len L e
      simp only [List.foldl_cons, List.length_cons]
      omega
  have := go es []
  unfold lastE
  simpa using this
end Go.Proofs.Ytpgcfgbhkodmeaa
