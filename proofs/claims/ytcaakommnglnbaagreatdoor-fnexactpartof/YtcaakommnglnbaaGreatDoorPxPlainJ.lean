/- Texts that stand in one: PxPlain, PxSlices, Pairs. -/
import Derived.Test.YtcaakommnglnbaaGreatDoorPrxBase
import Derived.Test.YtcaakommnglnbaaGreatDoorTellPlainJ
import Derived.Test.YtcaakommnglnbaaGreatDoorHallKitJ
import Derived.Test.YtcaakommnglnbaaGreatDoorIntsJ
import Derived.Deep.MidRow
namespace Go.Proofs.YtcaakommnglnbaaGreatDoor
open Go.RowKit Go.Sort

/-- The first n of a kind. -/
def allT (f : Nat → Bool) : Nat → Bool
  | 0 => true
  | k + 1 => allT f k && f k
theorem allT_down {f : Nat → Bool} : ∀ {n k : Nat}, k < n → f k = false → allT f n = false
  | 0, _, h, _ => absurd h (Nat.not_lt_zero _)
  | n + 1, k, h, hf => by
    by_cases e : k = n
    · subst e; simp [allT, hf]
    · simp [allT, allT_down (show k < n by omega) hf]
theorem allT_iff {f : Nat → Bool} : ∀ {n : Nat}, allT f n = true ↔ ∀ i, i < n → f i = true
  | 0 => by simp [allT]
  | n + 1 => by
    have ih := @allT_iff f n
    unfold allT
    rw [Bool.and_eq_true, ih]
    constructor
    · rintro ⟨h1, h2⟩ i hi
      by_cases e : i = n
      · subst e; exact h2
      · exact h1 i (by omega)
    · intro h
      exact ⟨fun i hi => h i (by omega), h n (by omega)⟩
def entF (L : List En) (P : Pol) (i : Nat) : Bool := enOk (L.getD i zen) && (!(decide (0 < i) && !ltS (L.getD (i - 1) zen).key (L.getD i zen).key) && hasP P (L.getD i zen).key)
def openP (key : ByteArray) (f : Fet) : Bool := eqS f.key key && (f.st == 1)
def fetF (now : Int) (L : List Fet) (i : Nat) : Bool :=
  (enKey (L.getD i zFet).key && (decide ((L.getD i zFet).tx.size ≤ 400) && (inB (L.getD i zFet).st 1 3 && (inB (L.getD i zFet).lf 0 999999 && inB (L.getD i zFet).sto 0 now)))) && !(((L.getD i zFet).st == 1) && (L.take i).any (openP (L.getD i zFet).key))
def cliF (now : Int) (nf : Nat) (L : List Cli) (i : Nat) : Bool :=
  (inB (L.getD i zCli).id 1 9 && (enKey (L.getD i zCli).key && (inB (L.getD i zCli).st 1 3 && (decide ((L.getD i zCli).got.size ≤ 400) && (inB (L.getD i zCli).fe 0 nf && (inB (L.getD i zCli).fr 0 now && decide (0 ≤ (L.getD i zCli).ag))))))) && !(decide (0 < i) && decide ((L.getD i zCli).id ≤ (L.getD (i - 1) zCli).id))
def entsOkX (L : List En) (P : Pol) : Bool := decide (L.length = P.win.length + P.main.length) && allT (entF L P) L.length
def fesOkX (now : Int) (L : List Fet) : Bool := decide (L.length ≤ 20) && allT (fetF now L) L.length
def clsOkX (R : Prx) : Bool := decide (R.cls.length ≤ 6) && allT (cliF R.now R.fes.length R.cls) R.cls.length
def okX (R : Prx) : Bool := (inB R.now 1 1000000000 && inB R.hits 0 1000000000) && (okP R.pol && (entsOkX R.ents R.pol && (fesOkX R.now R.fes && clsOkX R)))

theorem inB_iff' {v lo hi : Int} : inB v lo hi = true ↔ lo ≤ v ∧ v ≤ hi := by unfold inB; simp

/-- What stands of a right proxy. -/
structure OkX (R : Prx) : Prop where
  now : 1 ≤ R.now ∧ R.now ≤ 1000000000
  hits : 0 ≤ R.hits ∧ R.hits ≤ 1000000000
  pol : okP R.pol = true
  len : R.ents.length = R.pol.win.length + R.pol.main.length
  ents : ∀ e ∈ R.ents, enOk e = true
  up : UpK R.ents
  sub : ∀ e ∈ R.ents, hasP R.pol e.key = true
  flen : R.fes.length ≤ 20
  fes : ∀ f ∈ R.fes, enKey f.key = true ∧ f.tx.size ≤ 400 ∧ (1 ≤ f.st ∧ f.st ≤ 3) ∧ (0 ≤ f.lf ∧ f.lf ≤ 999999) ∧ (0 ≤ f.sto ∧ f.sto ≤ R.now)
  one : ∀ i k (hi : i < R.fes.length) (hk : k < R.fes.length), R.fes[i].st = 1 → R.fes[k].st = 1 → R.fes[i].key = R.fes[k].key → i = k
  clen : R.cls.length ≤ 6
  cls : ∀ c ∈ R.cls, (1 ≤ c.id ∧ c.id ≤ 9) ∧ enKey c.key = true ∧ (1 ≤ c.st ∧ c.st ≤ 3) ∧ c.got.size ≤ 400 ∧ (0 ≤ c.fe ∧ c.fe ≤ R.fes.length) ∧ (0 ≤ c.fr ∧ c.fr ≤ R.now) ∧ 0 ≤ c.ag
  cup : R.cls.Pairwise fun x y => x.id < y.id

theorem getD_of {α : Type} {L : List α} {i : Nat} {d : α} (h : i < L.length) : L.getD i d = L[i] := by simp [List.getD, List.getElem?_eq_getElem h]
theorem pw_of_steps {α : Type} {r : α → α → Prop} (ht : ∀ a b c, r a b → r b c → r a c) : ∀ {L : List α}, (∀ i (h : i + 1 < L.length), r (L[i]'(by omega)) L[i + 1]) → L.Pairwise r
  | [], _ => .nil
  | [a], _ => by simp
  | a :: b :: l, h => by
    have ih : (b :: l).Pairwise r := pw_of_steps ht (fun i hi => h (i + 1) (by simp at hi ⊢; omega))
    have h0 : r a b := h 0 (by simp)
    refine List.pairwise_cons.2 ⟨fun x hx => ?_, ih⟩
    rcases List.mem_cons.1 hx with rfl | hx
    · exact h0
    · exact ht _ _ _ h0 ((List.pairwise_cons.1 ih).1 x hx)
theorem pw_steps {α : Type} {r : α → α → Prop} {L : List α} (h : L.Pairwise r) (i j : Nat) (hij : i < j) (hj : j < L.length) : r (L[i]'(by omega)) L[j] := List.pairwise_iff_getElem.1 h i j (by omega) hj hij

theorem allF_iff {α : Type} {L : List α} {f : Nat → Bool} {p : α → Prop} (h : ∀ i (hi : i < L.length), f i = true ↔ p L[i]) : allT f L.length = true ↔ ∀ x ∈ L, p x := by
  rw [allT_iff]
  constructor
  · intro h' x hx
    obtain ⟨i, hi, rfl⟩ := List.getElem_of_mem hx
    exact (h i hi).1 (h' i hi)
  · intro h' i hi
    exact (h i hi).2 (h' _ (List.getElem_mem hi))

theorem ents_iff {L : List En} {P : Pol} : entsOkX L P = true ↔ L.length = P.win.length + P.main.length ∧ (∀ e ∈ L, enOk e = true) ∧ UpK L ∧ ∀ e ∈ L, hasP P e.key = true := by
  unfold entsOkX
  rw [Bool.and_eq_true, decide_eq_true_eq, allT_iff]
  refine and_congr Iff.rfl ⟨fun h => ?_, ?_⟩
  · have h1 : ∀ i (hi : i < L.length), enOk L[i] = true ∧ (∀ (h0 : 0 < i), ltS (L[i - 1]'(by omega)).key L[i].key = true) ∧ hasP P L[i].key = true := fun i hi => by
      have := h i hi
      unfold entF at this
      rw [getD_of hi] at this
      simp only [Bool.and_eq_true, Bool.not_eq_true'] at this
      refine ⟨this.1, fun h0 => ?_, this.2.2⟩
      have h2 := this.2.1
      rw [decide_eq_true h0, Bool.true_and, getD_of (show i - 1 < L.length by omega)] at h2
      simpa using h2
    refine ⟨fun e he => ?_, pw_of_steps (r := fun x y : En => ltS x.key y.key = true) (fun a b c h k => ltS_trans h k) (fun i hi => (h1 (i + 1) hi).2.1 (by omega)), fun e he => ?_⟩
    · obtain ⟨i, hi, rfl⟩ := List.getElem_of_mem he
      exact (h1 i hi).1
    · obtain ⟨i, hi, rfl⟩ := List.getElem_of_mem he
      exact (h1 i hi).2.2
  · rintro ⟨h1, h2, h3⟩ i hi
    unfold entF
    rw [getD_of hi, h1 _ (List.getElem_mem hi), h3 _ (List.getElem_mem hi)]
    by_cases h0 : 0 < i
    · rw [getD_of (show i - 1 < L.length by omega), show ltS (L[i - 1]'(by omega)).key L[i].key = true from pw_steps h2 (i - 1) i (by omega) hi]
      simp
    · simp [h0]
theorem fes_iff {now : Int} {L : List Fet} : fesOkX now L = true ↔ L.length ≤ 20 ∧ (∀ f ∈ L, enKey f.key = true ∧ f.tx.size ≤ 400 ∧ (1 ≤ f.st ∧ f.st ≤ 3) ∧ (0 ≤ f.lf ∧ f.lf ≤ 999999) ∧ (0 ≤ f.sto ∧ f.sto ≤ now)) ∧ ∀ i k (hi : i < L.length) (hk : k < L.length), L[i].st = 1 → L[k].st = 1 → L[i].key = L[k].key → i = k := by
  unfold fesOkX
  rw [Bool.and_eq_true, decide_eq_true_eq, allT_iff]
  have hany : ∀ i (hi : i < L.length), (L.take i).any (openP L[i].key) = true ↔ ∃ k, ∃ hk : k < i, (L[k]'(by omega)).key = L[i].key ∧ (L[k]'(by omega)).st = 1 := fun i hi => by
    rw [List.any_eq_true]
    constructor
    · rintro ⟨x, hx, hp⟩
      obtain ⟨k, hk, rfl⟩ := List.getElem_of_mem hx
      rw [List.length_take] at hk
      rw [List.getElem_take] at hp
      unfold openP at hp
      rw [Bool.and_eq_true, eqS_iff, beq_iff_eq] at hp
      exact ⟨k, by omega, hp⟩
    · rintro ⟨k, hk, h1, h2⟩
      refine ⟨L[k]'(by omega), ?_, ?_⟩
      · rw [List.mem_take_iff_getElem]
        exact ⟨k, by omega, rfl⟩
      · unfold openP
        rw [Bool.and_eq_true, eqS_iff, beq_iff_eq]
        exact ⟨h1, h2⟩
  have h1 : ∀ i (hi : i < L.length), fetF now L i = true ↔ (enKey L[i].key = true ∧ L[i].tx.size ≤ 400 ∧ (1 ≤ L[i].st ∧ L[i].st ≤ 3) ∧ (0 ≤ L[i].lf ∧ L[i].lf ≤ 999999) ∧ (0 ≤ L[i].sto ∧ L[i].sto ≤ now)) ∧ (L[i].st = 1 → ¬ ∃ k, ∃ hk : k < i, (L[k]'(by omega)).key = L[i].key ∧ (L[k]'(by omega)).st = 1) := fun i hi => by
    rw [← hany i hi]
    unfold fetF
    rw [getD_of hi]
    simp only [Bool.and_eq_true, Bool.not_eq_true', inB_iff', decide_eq_true_eq]
    refine and_congr Iff.rfl ?_
    cases (L.take i).any (openP L[i].key)
    · simp
    · by_cases hs : L[i].st = 1
      · simp [hs]
      · simp [hs]
  refine and_congr Iff.rfl ⟨fun h => ⟨fun f hf => ?_, fun i k hi hk e1 e2 e3 => ?_⟩, fun h i hi => (h1 i hi).2 ⟨h.1 _ (List.getElem_mem hi), fun e ⟨k, hk, e1, e2⟩ => ?_⟩⟩
  · obtain ⟨i, hi, rfl⟩ := List.getElem_of_mem hf
    exact ((h1 i hi).1 (h i hi)).1
  · rcases Nat.lt_trichotomy i k with hlt | heq | hgt
    · exact absurd ⟨i, hlt, e3, e1⟩ (((h1 k hk).1 (h k hk)).2 e2)
    · exact heq
    · exact absurd ⟨k, hgt, e3.symm, e2⟩ (((h1 i hi).1 (h i hi)).2 e1)
  · have := h.2 k i (by omega) hi e2 e e1
    omega
theorem cls_iff {R : Prx} : clsOkX R = true ↔ R.cls.length ≤ 6 ∧ (∀ c ∈ R.cls, (1 ≤ c.id ∧ c.id ≤ 9) ∧ enKey c.key = true ∧ (1 ≤ c.st ∧ c.st ≤ 3) ∧ c.got.size ≤ 400 ∧ (0 ≤ c.fe ∧ c.fe ≤ R.fes.length) ∧ (0 ≤ c.fr ∧ c.fr ≤ R.now) ∧ 0 ≤ c.ag) ∧ R.cls.Pairwise fun x y => x.id < y.id := by
  unfold clsOkX
  rw [Bool.and_eq_true, decide_eq_true_eq, allT_iff]
  generalize R.cls = L
  have h1 : ∀ i (hi : i < L.length), cliF R.now R.fes.length L i = true ↔ ((1 ≤ L[i].id ∧ L[i].id ≤ 9) ∧ enKey L[i].key = true ∧ (1 ≤ L[i].st ∧ L[i].st ≤ 3) ∧ L[i].got.size ≤ 400 ∧ (0 ≤ L[i].fe ∧ L[i].fe ≤ R.fes.length) ∧ (0 ≤ L[i].fr ∧ L[i].fr ≤ R.now) ∧ 0 ≤ L[i].ag) ∧ (∀ (h0 : 0 < i), (L[i - 1]'(by omega)).id < L[i].id) := fun i hi => by
    unfold cliF
    rw [getD_of hi]
    simp only [Bool.and_eq_true, Bool.not_eq_true', inB_iff', decide_eq_true_eq]
    refine and_congr Iff.rfl ?_
    by_cases h0 : 0 < i
    · rw [getD_of (show i - 1 < L.length by omega)]
      simp [h0]
    · simp [h0]
  refine and_congr Iff.rfl ⟨fun h => ⟨fun f hf => ?_, pw_of_steps (r := fun x y : Cli => x.id < y.id) (fun a b c h k => Int.lt_trans h k) (fun i hi => ((h1 (i + 1) hi).1 (h (i + 1) hi)).2 (by omega))⟩, fun h i hi => (h1 i hi).2 ⟨h.1 _ (List.getElem_mem hi), fun h0 => pw_steps h.2 (i - 1) i (by omega) hi⟩⟩
  obtain ⟨i, hi, rfl⟩ := List.getElem_of_mem hf
  exact ((h1 i hi).1 (h i hi)).1
theorem okX_iff {R : Prx} : okX R = true ↔ OkX R := by
  unfold okX
  simp only [Bool.and_eq_true, inB_iff', ents_iff, fes_iff, cls_iff]
  constructor
  · rintro ⟨⟨h1, h2⟩, h3, ⟨h4, h5, h6, h7⟩, ⟨h8, h9, h10⟩, h11, h12, h13⟩
    exact ⟨h1, h2, h3, h4, h5, h6, h7, h8, h9, h10, h11, h12, h13⟩
  · rintro ⟨h1, h2, h3, h4, h5, h6, h7, h8, h9, h10, h11, h12, h13⟩
    exact ⟨⟨h1, h2⟩, h3, ⟨h4, h5, h6, h7⟩, ⟨h8, h9, h10⟩, h11, h12, h13⟩
/-- Of as many, none twice, all there: all of them. -/
theorem all_there : ∀ {K M : List ByteArray}, K.Nodup → M.Nodup → (∀ z ∈ K, z ∈ M) → K.length = M.length → ∀ z ∈ M, z ∈ K
  | [], M, _, _, _, hl, z, hz => by
    have : M = [] := List.length_eq_zero_iff.1 hl.symm
    rw [this] at hz; simp at hz
  | a :: K, M, hK, hM, hs, hl, z, hz => by
    obtain ⟨h1, h2⟩ := List.nodup_cons.1 hK
    have ha := hs a (by simp)
    have hw := without_length hM ha
    by_cases e : z = a
    · rw [e]; simp
    · refine List.mem_cons_of_mem _ (all_there h2 (without_nodup (s := a) hM) (fun y hy => without_mem.2 ⟨hs y (List.mem_cons_of_mem _ hy), fun e => h1 (e ▸ hy)⟩) ?_ z (without_mem.2 ⟨hz, e⟩))
      rw [List.length_cons] at hl
      omega
theorem OkX.has {R : Prx} (h : OkX R) (key : ByteArray) : hasP R.pol key = true ↔ ∃ e ∈ R.ents, e.key = key := by
  obtain ⟨_, _, h3, h4, h5, _, _, _⟩ := okP_iff.1 h.pol
  have hM : (R.pol.win ++ R.pol.main).Nodup := List.nodup_append.2 ⟨h3, h4, fun a ha b hb e => h5 a ha (e ▸ hb)⟩
  have hmem : ∀ z, hasP R.pol z = true ↔ z ∈ R.pol.win ++ R.pol.main := fun z => by
    unfold hasP
    rw [Bool.or_eq_true, inL_iff, inL_iff, List.mem_append]
  have hK : (R.ents.map (·.key)).Nodup := List.pairwise_map.2 (h.up.apart)
  constructor
  · intro hk
    have := all_there hK hM (fun z hz => by
      obtain ⟨e, he, rfl⟩ := List.mem_map.1 hz
      exact (hmem _).1 (h.sub e he)) (by rw [List.length_map, List.length_append]; exact h.len) key ((hmem key).1 hk)
    obtain ⟨e, he, rfl⟩ := List.mem_map.1 this
    exact ⟨e, he, rfl⟩
  · rintro ⟨e, he, rfl⟩
    exact h.sub e he
/-- The entries without those of a key. -/
def offE (L : List En) (key : ByteArray) : List En := keepX (fun e : En => eqS e.key key) L
end Go.Proofs.YtcaakommnglnbaaGreatDoor

namespace Go.Proofs.YtcaakommnglnbaaGreatDoor
open Go.RowKit Go.Sort
theorem CliV.at' {w : World} {a : Option Addr} {c : Nat} {L : List Cli} {B : Nat} (h : CliV w (.slice a L.length c) L B) : CliAt w a L B := by
  obtain ⟨a', c', e, h⟩ := h
  cases e
  exact h
theorem FetV.at' {w : World} {a : Option Addr} {c : Nat} {L : List Fet} {B : Nat} (h : FetV w (.slice a L.length c) L B) : FetAt w a L B := by
  obtain ⟨a', c', e, h⟩ := h
  cases e
  exact h
theorem EnsV.at' {w : World} {a : Option Addr} {c : Nat} {L : List En} {B : Nat} (h : EnsV w (.slice a L.length c) L B) : NAt w a L B := by
  obtain ⟨a', c', e, h⟩ := h
  cases e
  exact h
theorem StrsV.at' {w : World} {a : Option Addr} {c : Nat} {L : List ByteArray} {B : Nat} (h : StrsV w (.slice a L.length c) L B) : LAt w a L B := by
  obtain ⟨a', c', e, h⟩ := h
  cases e
  exact h
theorem SSV.at' {w : World} {a : Option Addr} {c : Nat} {L : List (List Int)} {B : Nat} (h : SSV w (.slice a L.length c) L B) : SSAt w a L B := by
  obtain ⟨a', c', e, h⟩ := h
  cases e
  exact h
theorem PxAt.slices {w : World} {X : Pc} {R : Prx} {B : Nat} (h : PxAt w X R B) : ∃ (e0 : Option Addr) (e1 : Nat) (p0 : Option Addr) (p1 : Nat) (m0 : Option Addr) (m1 : Nat) (k0 : Option Addr) (k1 : Nat) (f0 : Option Addr) (f1 : Nat) (c0 : Option Addr) (c1 : Nat), X = ⟨.slice e0 R.ents.length e1, .slice p0 R.pol.win.length p1, .slice m0 R.pol.main.length m1, .slice k0 R.pol.sk.rows.length k1, .slice f0 R.fes.length f1, .slice c0 R.cls.length c1⟩ := by
  obtain ⟨xe, xw, xm, xk, xf, xc⟩ := X
  obtain ⟨⟨e0, e1, h1, _⟩, ⟨w0, w1, h2, _⟩, ⟨m0, m1, h3, _⟩, ⟨k0, k1, h4, _⟩, ⟨f0, f1, h5, _⟩, ⟨c0, c1, h6, _⟩⟩ := h
  dsimp only at *
  subst h1 h2 h3 h4 h5 h6
  exact ⟨_, _, _, _, _, _, _, _, _, _, _, _, rfl⟩
theorem PxAt.polAt {w : World} {e0 p0 m0 k0 f0 c0 : Option Addr} {e1 p1 m1 k1 f1 c1 : Nat} {R : Prx} {B : Nat} (h : PxAt w ⟨.slice e0 R.ents.length e1, .slice p0 R.pol.win.length p1, .slice m0 R.pol.main.length m1, .slice k0 R.pol.sk.rows.length k1, .slice f0 R.fes.length f1, .slice c0 R.cls.length c1⟩ R B) : PolAt w p0 m0 k0 R.pol B := ⟨StrsV.at' h.pw, StrsV.at' h.pm, SSV.at' h.pk⟩
theorem PxSz.ents {R : Prx} (h : PxSz R) : ∀ e ∈ R.ents, e.key.size ≤ 1048576 ∧ e.bd.size ≤ 1048576 := fun c hc => by
  obtain ⟨j, hj, rfl⟩ := List.getElem_of_mem hc
  have h1 := ewg_mem hj
  have h2 : wgtX R ≤ 1048576 := h
  unfold wgtX at h2
  unfold En.wg at h1
  omega
theorem PxSz.fes {R : Prx} (h : PxSz R) : ∀ e ∈ R.fes, e.key.size ≤ 1048576 ∧ e.tx.size ≤ 1048576 := fun c hc => by
  obtain ⟨j, hj, rfl⟩ := List.getElem_of_mem hc
  have h1 := ftwg_mem hj
  have h2 : wgtX R ≤ 1048576 := h
  unfold wgtX at h2
  unfold Fet.wg at h1
  omega
theorem PxSz.cls {R : Prx} (h : PxSz R) : ∀ e ∈ R.cls, e.key.size ≤ 1048576 ∧ e.got.size ≤ 1048576 := fun c hc => by
  obtain ⟨j, hj, rfl⟩ := List.getElem_of_mem hc
  have h1 := clwg_mem hj
  have h2 : wgtX R ≤ 1048576 := h
  unfold wgtX at h2
  unfold Cli.wg at h1
  omega
/-- There is room for as many fetches as there are. -/
def RoomF (v : Value) (n : Nat) : Prop := ∀ a k c, v = .slice a k c → n ≤ c
theorem PxOwn.roomF {w : World} {lo hi : Nat} {X : Pc} {R : Prx} (h : PxOwn w lo hi X R) : RoomF X.f R.fes.length := fun a k c e => by
  have h' := h.f
  rw [e] at h'
  rcases h'.2 with ⟨e1, hl⟩ | ⟨g', cp, cur, e1, _, _, hle, _⟩
  · omega
  · simp only [Value.slice.injEq] at e1
    omega
end Go.Proofs.YtcaakommnglnbaaGreatDoor

namespace Go.Proofs.YtcaakommnglnbaaGreatDoor
open Go.RowKit

def prCells (f : Int × Int) : List Value := [.int .i64 f.1, .int .i64 f.2]
def prl (L : List (Int × Int)) : List Value := L.flatMap prCells
theorem prl_length (L : List (Int × Int)) : (prl L).length = L.length * 2 := by
  induction L with
  | nil => rfl
  | cons f L ih => simp [prl, prCells] at *; omega
theorem prl_cons (f : Int × Int) (L : List (Int × Int)) : prl (f :: L) = prCells f ++ prl L := by simp [prl]
theorem prl_at : ∀ (L : List (Int × Int)) (j : Nat) (h : j < L.length), (prl L)[2 * j]? = some (.int .i64 L[j].1) ∧ (prl L)[2 * j + 1]? = some (.int .i64 L[j].2)
  | [], j, h => by simp at h
  | f :: L, 0, h => by simp [prl_cons, prCells]
  | f :: L, j + 1, h => by
    have ih := prl_at L j (by simpa using h)
    have e : ∀ k, 2 * (j + 1) + k = (2 * j + k) + 2 := fun k => by omega
    rw [prl_cons]
    refine ⟨?_, ?_⟩
    · rw [show 2 * (j + 1) = 2 * j + 2 by omega]; simpa [prCells] using ih.1
    · rw [e 1]; simpa [prCells] using ih.2
theorem prl_set : ∀ (L : List (Int × Int)) (j : Nat) (f : Int × Int), ((prl L).set (j * 2) (.int .i64 f.1)).set (j * 2 + 1) (.int .i64 f.2) = prl (L.set j f)
  | [], j, f => by simp [prl]
  | g :: L, 0, f => by simp [prl_cons, prCells]
  | g :: L, j + 1, f => by
    have ih := prl_set L j f
    rw [show (j + 1) * 2 = j * 2 + 1 + 1 by omega, prl_cons, List.set_cons_succ, prl_cons, ← ih]
    simp [prCells]

/-- The pairs L lie at the address a, below the block B. -/
def PAt (w : World) (a : Option Addr) (L : List (Int × Int)) (B : Nat) : Prop :=
  ∀ j (hj : j < L.length), ∃ g off, a = some ⟨g, off, none⟩ ∧ g < B ∧ w.cell? ⟨g, off + j * 2, none⟩ = some (.int .i64 L[j].1) ∧ w.cell? ⟨g, off + j * 2 + 1, none⟩ = some (.int .i64 L[j].2)
/-- The slice value v owns the pairs L. -/
def OwnP (w : World) (base : Nat) (e : TypeId) (v : Value) (L : List (Int × Int)) : Prop := w.ownsRow base e 2 v L.length (prl L)
theorem OwnP.lt {w : World} {base : Nat} {e : TypeId} {v : Value} {L : List (Int × Int)} (h : OwnP w base e v L) (k : Nat) (hk : v.ownBlock = some k) : base ≤ k ∧ k < w.heap.size := World.ownsRow.lt h k hk
theorem OwnP.alloc {w : World} {base : Nat} {e : TypeId} {v : Value} {L : List (Int × Int)} (h : OwnP w base e v L) (o : Obj) : OwnP (w.alloc o) base e v L := World.ownsRow.alloc h o
theorem OwnP.mono {w : World} {base base' : Nat} {e : TypeId} {v : Value} {L : List (Int × Int)} (h : OwnP w base e v L) (hb : base' ≤ base) : OwnP w base' e v L := by
  refine ⟨h.1, ?_⟩
  rcases h.2 with h | ⟨g, cap, cur, hv, hg, rest⟩
  · exact .inl h
  · exact .inr ⟨g, cap, cur, hv, Nat.le_trans hb hg, rest⟩
theorem OwnP.kept {w w' : World} {base : Nat} {e : TypeId} {v : Value} {L : List (Int × Int)} (h : OwnP w base e v L) (hk : ∀ k, v.ownBlock = some k → w'.heap[k]? = w.heap[k]?) : OwnP w' base e v L := by
  refine ⟨h.1, ?_⟩
  rcases h.2 with hn | ⟨g, cap, cur, rfl, hb, hg, rest⟩
  · exact .inl hn
  · exact .inr ⟨g, cap, cur, rfl, hb, by rw [hk g rfl]; exact hg, rest⟩
theorem OwnP.below {w w' : World} {B base : Nat} {e : TypeId} {v : Value} {L : List (Int × Int)} (h : OwnP w base e v L) (hb : Below B w w') (hB : w.heap.size ≤ B) : OwnP w' base e v L :=
  h.kept fun k hk => hb.block k (Nat.lt_of_lt_of_le (h.lt k hk).2 hB)
theorem OwnP.grown {w w' : World} {row : Option Nat} {base : Nat} {e : TypeId} {v : Value} {L : List (Int × Int)} (h : OwnP w base e v L) (hb : w.grownBy w' row) (hne : ∀ k, v.ownBlock = some k → row ≠ some k) : OwnP w' base e v L :=
  h.kept fun k hk => hb.block k (h.lt k hk).2 (fun e => hne k hk e.symm)
theorem OwnP.at {w : World} {base : Nat} {e : TypeId} {v : Value} {L : List (Int × Int)} (h : OwnP w base e v L) : ∃ a cap, v = .slice a L.length cap ∧ PAt w a L w.heap.size := by
  have h0 := h
  rcases h.2 with ⟨rfl, hn⟩ | ⟨g, cap, cur, rfl, hb, hg, h1, h2, h3, h4⟩
  · have hx : L = [] := List.length_eq_zero_iff.1 hn
    subst hx
    exact ⟨none, 0, rfl, fun j hj => by simp at hj⟩
  · have hgs := (Array.getElem?_eq_some_iff.1 hg).1
    refine ⟨_, _, rfl, fun j hj => ⟨g, 0, rfl, hgs, ?_⟩⟩
    have := prl_at L j hj
    rw [World.ownsRow.cellAt h0 (0 + j * 2) (by omega), World.ownsRow.cellAt h0 (0 + j * 2 + 1) (by omega)]
    rw [show 0 + j * 2 = 2 * j by omega]
    exact this
/-- Its cells are there, and may be written. -/
theorem OwnP.there {w : World} {base : Nat} {e : TypeId} {g n cap : Nat} {L : List (Int × Int)} (h : OwnP w base e (.slice (some ⟨g, 0, none⟩) n cap) L) (hn : n = L.length) (i : Nat) : w.frozen? ⟨g, i, none⟩ = false := by
  subst hn
  exact World.ownsRow.frozenAt h i
/-- A store of a whole pair. -/
theorem OwnP.stored {w : World} {base : Nat} {e : TypeId} {g n cap : Nat} {L : List (Int × Int)} (h : OwnP w base e (.slice (some ⟨g, 0, none⟩) n cap) L) (hn : n = L.length) (j : Nat) (f : Int × Int) :
    OwnP ((w.setCell ⟨g, j * 2, none⟩ (.int .i64 f.1)).setCell ⟨g, j * 2 + 1, none⟩ (.int .i64 f.2)) base e (.slice (some ⟨g, 0, none⟩) n cap) (L.set j f) ∧
      w.grownBy ((w.setCell ⟨g, j * 2, none⟩ (.int .i64 f.1)).setCell ⟨g, j * 2 + 1, none⟩ (.int .i64 f.2)) (some g) := by
  subst hn
  have h0 := World.ownsRow.stored h (j * 2) (.int .i64 f.1)
  have h1 := World.ownsRow.stored h0.1 (j * 2 + 1) (.int .i64 f.2)
  rw [prl_set] at h1
  refine ⟨?_, grownBy_trans h0.2 (h1.2)⟩
  unfold OwnP
  rw [List.length_set]
  exact h1.1

/-- 'append(v, f)' of one pair onto pairs that are owned. -/
theorem wpList_snocP {P : Program} {ops : Array Oper} {rest : List Oper} {o : Oper} {a : Act} {Q : Exit → Act → World → Prop} {wr : World} (hgd : o.guard = none) (s x : Operand) (t : TypeId)
    (ho : o.op = .call { callee := .builtin .append, args := #[s, x], argTypes := #[t, t] }) (base : Nat) (e : TypeId) (ht : P.underlying t = some (.slice e))
    (hinfo : (P.info? e).map (fun i => (i.zero, i.size, i.bytes)) = some (some (.agg #[.int .i64 0, .int .i64 0]), 2, 16)) (v : Value) (L : List (Int × Int)) (hs : a.eval s = v) (hown : OwnP wr base e v L)
    (f : Int × Int) (S : Nat) (hx : a.eval x = .slice (some ⟨S, 0, none⟩) 1 1) (hS : wr.heap.size = S) (hlen : L.length < 10000000) (hbase : base ≤ wr.heap.size)
    (h : ∀ v' w', OwnP w' base e v' (L ++ [f]) → (wr.alloc (.cells #[.int .i64 f.1, .int .i64 f.2] e)).grownBy w' v.ownBlock → wpList P ops Q rest (a.put o.dst v') w') :
    wpList P ops Q (o :: rest) a (wr.alloc (.cells #[.int .i64 f.1, .int .i64 f.2] e)) := by
  subst hS
  obtain ⟨i0, hi, hz0, hz1, hz2⟩ := info_parts hinfo
  refine wpList_append_own _ hgd s x t ho base e i0 _ 2 16 ht hi hz0 hz1 hz2 rfl (by decide) v L.length (prl L) hs (World.ownsRow.alloc hown _) ⟨wr.heap.size, 0, none⟩ 1 1 (prl [f]) hx rfl (fun j u hu => World.news_of_block (heap_alloc_new wr _) j u (by simpa [prl, prCells] using hu)) ?_ (by unfold maxLen; omega) (by omega) (by simp; omega) ?_
  · intro u hu
    simp [prl, prCells] at hu
    rcases hu with rfl | rfl <;> rfl
  · intro v' w' h1 h2 _
    refine h v' w' ?_ h2
    unfold OwnP
    rw [show prl (L ++ [f]) = prl L ++ prl [f] by simp [prl], List.length_append, List.length_singleton]
    exact h1

theorem prl_one' (L : List (Int × Int)) : ∀ u ∈ prl L, u.oneCell' = true := by
  intro u hu
  simp only [prl, List.mem_flatMap, prCells, List.mem_cons, List.not_mem_nil, or_false] at hu
  obtain ⟨f, _, rfl | rfl⟩ := hu <;> rfl
/-- 'append(v, all...)' of pairs onto pairs that are owned. -/
theorem wpList_allP {P : Program} {ops : Array Oper} {rest : List Oper} {o : Oper} {a : Act} {Q : Exit → Act → World → Prop} {w : World} (hgd : o.guard = none) (s x : Operand) (t : TypeId)
    (ho : o.op = .call { callee := .builtin .append, args := #[s, x], argTypes := #[t, t] }) (base : Nat) (e : TypeId) (ht : P.underlying t = some (.slice e))
    (hinfo : (P.info? e).map (fun i => (i.zero, i.size, i.bytes)) = some (some (.agg #[.int .i64 0, .int .i64 0]), 2, 16)) (v : Value) (hs : a.eval s = v) (hown : OwnP w base e v [])
    (ad : Addr) (cap : Nat) (l : List (Int × Int)) (B : Nat) (hx : a.eval x = .slice (some ad) l.length cap) (hI : PAt w (some ad) l B) (hlen : l.length ≤ 1048576) (hbase : base ≤ w.heap.size)
    (h : ∀ v' w', OwnP w' base e v' l → w.grownBy w' v.ownBlock → wpList P ops Q rest (a.put o.dst v') w') :
    wpList P ops Q (o :: rest) a w := by
  obtain ⟨i0, hi, hz0, hz1, hz2⟩ := info_parts hinfo
  refine wpList_append_own _ hgd s x t ho base e i0 _ 2 16 ht hi hz0 hz1 hz2 rfl (by decide) v 0 [] hs hown ad l.length cap (prl l) hx (prl_length l) ?_ (prl_one' l) (by unfold maxLen; omega) (by omega) hbase ?_
  · intro j u hu
    obtain ⟨hj, _⟩ := List.getElem?_eq_some_iff.1 hu
    rw [prl_length] at hj
    obtain ⟨g, off, ha, _, hc0, hc1⟩ := hI (j / 2) (by omega)
    simp only [Option.some.injEq] at ha
    subst ha
    have hat := prl_at l (j / 2) (by omega)
    rw [Addr.add_mid]
    rcases (by omega : j % 2 = 0 ∨ j % 2 = 1) with h | h
    · have e : j = 2 * (j / 2) := by omega
      rw [e, hat.1] at hu
      rw [show off + j = off + j / 2 * 2 by omega, hc0]
      exact hu
    · have e : j = 2 * (j / 2) + 1 := by omega
      rw [e, hat.2] at hu
      rw [show off + j = off + j / 2 * 2 + 1 by omega, hc1]
      exact hu
  · intro v' w' h1 h2 _
    refine h v' w' ?_ h2
    unfold OwnP
    simpa using h1
theorem PAt.below {w w' : World} {a : Option Addr} {L : List (Int × Int)} {B B' : Nat} (h : PAt w a L B) (hb : Below B' w w') (hB : B ≤ B') : PAt w' a L B := by
  intro j hj
  obtain ⟨g, off, ha, hg, h0, h1⟩ := h j hj
  have hl := Nat.lt_of_lt_of_le hg hB
  exact ⟨g, off, ha, hg, (hb.cell hl).trans h0, (hb.cell hl).trans h1⟩
theorem PAt.on {w w' : World} {a : Option Addr} {L : List (Int × Int)} (h : PAt w a L w.heap.size) (hb : Below w.heap.size w w') : PAt w' a L w'.heap.size := by
  intro j hj
  obtain ⟨g, off, ha, hg, r⟩ := (h.below hb (Nat.le_refl _)) j hj
  exact ⟨g, off, ha, Nat.lt_of_lt_of_le hg hb.size, r⟩
end Go.Proofs.YtcaakommnglnbaaGreatDoor
