/- Texts that stand in one: HexPlain, UnhexPlain, Trip. -/
import Derived.Test.YtpgcfgbhkodmeaaSkLaw3J
import Derived.Lib.Bytealg
import Derived.Test.YtpgcfgbhkodmeaaReadPlain
import Derived.Test.YtpgcfgbhkodmeaaDecPlain
namespace Go.Proofs.Ytpgcfgbhkodmeaa
open Go.RowKit

/-- The figures of bytes. -/
def figs (l : List UInt8) : List UInt8 := l.flatMap fun b => [fig (b.toNat / 16), fig (b.toNat % 16)]

theorem figs_snoc (l : List UInt8) (b : UInt8) : figs (l ++ [b]) = figs l ++ [fig (b.toNat / 16), fig (b.toNat % 16)] := by simp [figs]

theorem figs_length (l : List UInt8) : (figs l).length = 2 * l.length := by
  induction l with
  | nil => rfl
  | cons b l ih => simp only [figs, List.flatMap_cons, List.length_append, List.length_cons, List.length_nil] at *; omega

theorem take_snoc (s : ByteArray) (k : Nat) (h : k < s.size) : s.data.toList.take (k + 1) = s.data.toList.take k ++ [s[k]] := by
  rw [List.take_succ_eq_append_getElem (by simpa using h)]; rfl

theorem wrap_small (x : Int) (h1 : -9223372036854775808 ≤ x) (h2 : x < 9223372036854775808) : IntKind.i64.wrap x = x := by
  simp only [IntKind.wrap_i64]; omega

/-- The text of all figures. -/
def allFigs : ByteArray := ⟨#[48, 49, 50, 51, 52, 53, 54, 55, 56, 57, 97, 98, 99, 100, 101, 102]⟩

theorem allFigs_at : ∀ q, (h : q < 16) → allFigs[q]'h = fig q := by
  intro q h
  rcases (show q = 0 ∨ q = 1 ∨ q = 2 ∨ q = 3 ∨ q = 4 ∨ q = 5 ∨ q = 6 ∨ q = 7 ∨ q = 8 ∨ q = 9 ∨ q = 10 ∨ q = 11 ∨ q = 12 ∨ q = 13 ∨ q = 14 ∨ q = 15 by omega) with rfl | rfl | rfl | rfl | rfl | rfl | rfl | rfl | rfl | rfl | rfl | rfl | rfl | rfl | rfl | rfl <;> rfl

/-- What Hex answers. -/
def hxOk (s : ByteArray) : Bool := decide (s.size ≤ 20000)

def hxText (s : ByteArray) : ByteArray := if s.size ≤ 20000 then ⟨(figs s.data.toList).toArray⟩ else ⟨#[]⟩
end Go.Proofs.Ytpgcfgbhkodmeaa

namespace Go.Proofs.Ytpgcfgbhkodmeaa
open Go.RowKit

/-- What a figure tells, -1 where it is none. -/
def uv (b : UInt8) : Int := if 48 ≤ b.toNat ∧ b.toNat ≤ 57 then b.toNat - 48 else if 97 ≤ b.toNat ∧ b.toNat ≤ 102 then b.toNat - 87 else -1

theorem uv_bd (b : UInt8) : -1 ≤ uv b ∧ uv b < 16 := by
  unfold uv
  split
  · omega
  · split <;> omega

theorem index_uv (b : UInt8) : Lib.indexByte [48, 49, 50, 51, 52, 53, 54, 55, 56, 57, 97, 98, 99, 100, 101, 102] b = uv b := by
  have h : ∀ n : Fin 256, Lib.indexByte [48, 49, 50, 51, 52, 53, 54, 55, 56, 57, 97, 98, 99, 100, 101, 102] (UInt8.ofNat n.val) = uv (UInt8.ofNat n.val) := by decide +kernel
  have := h ⟨b.toNat, b.toNat_lt⟩
  simpa using this

/-- The text that figures tell, if all are figures. -/
def unF : List UInt8 → Option (List UInt8)
  | a :: b :: r => if 0 ≤ uv a ∧ 0 ≤ uv b then (unF r).map (fun l => UInt8.ofNat (16 * uv a + uv b).toNat :: l) else none
  | _ => some []

theorem drop_two {t : List UInt8} {i : Nat} (h : i + 1 < t.length) : t.drop i = t[i] :: t[i + 1] :: t.drop (i + 2) := by
  rw [List.drop_eq_getElem_cons (by omega), List.drop_eq_getElem_cons h]

/-- Where the reading stands: the bytes l are read, the rest stands from the place i on. -/
def unAt (t : List UInt8) (i : Nat) (l : List UInt8) : Prop := unF t = (unF (t.drop i)).map (fun r => l ++ r)

theorem unAt_start (t : List UInt8) : unAt t 0 [] := by simp [unAt]

theorem unAt_on {t : List UInt8} {i : Nat} {l : List UInt8} (h : unAt t i l) (hi : i + 1 < t.length) {x y : Int} (hx : uv t[i] = x) (hy : uv t[i + 1] = y) (h1 : 0 ≤ x) (h2 : 0 ≤ y) : unAt t (i + 2) (l ++ [UInt8.ofNat (16 * x + y).toNat]) := by
  unfold unAt at *
  rw [h, drop_two hi, unF, hx, hy, if_pos ⟨h1, h2⟩, Option.map_map]
  congr 1
  funext r
  simp

theorem unAt_no {t : List UInt8} {i : Nat} {l : List UInt8} (h : unAt t i l) (hi : i + 1 < t.length) {x y : Int} (hx : uv t[i] = x) (hy : uv t[i + 1] = y) (h1 : x < 0 ∨ y < 0) : unF t = none := by
  unfold unAt at h
  rw [h, drop_two hi, unF, hx, hy, if_neg (by omega)]
  rfl

theorem unAt_end {t : List UInt8} {i : Nat} {l : List UInt8} (h : unAt t i l) (hi : t.length ≤ i) : unF t = some l := by
  unfold unAt at h
  rw [h, List.drop_of_length_le hi]
  simp [unF]

/-- What Unhex answers. -/
def uhR (s : ByteArray) : Option (List UInt8) := if s.size ≤ 40000 ∧ s.size % 2 = 0 then unF s.data.toList else none

def uhOk (s : ByteArray) : Bool := (uhR s).isSome

def uhText (s : ByteArray) : ByteArray := ⟨((uhR s).getD []).toArray⟩

theorem ret_uh_none {r : Option (List UInt8)} (h : r = none) : Ending.returned (.tuple #[.string ⟨#[]⟩, .bool false]) = .returned (.tuple #[.string ⟨(r.getD []).toArray⟩, .bool r.isSome]) := by subst h; rfl

theorem ret_uh_some {r : Option (List UInt8)} {l : List UInt8} (h : r = some l) : Ending.returned (.tuple #[.string ⟨l.toArray⟩, .bool true]) = .returned (.tuple #[.string ⟨(r.getD []).toArray⟩, .bool r.isSome]) := by subst h; rfl

theorem byte_list {s : ByteArray} {i : Nat} {b : UInt8} (h : i < s.size) (hb : s[i] = b) : s.data.toList[i]'(by simpa using h) = b := by rw [← hb]; simp; rfl

theorem uhR_in {s : ByteArray} (h1 : s.size ≤ 40000) (h2 : s.size % 2 = 0) : uhR s = unF s.data.toList := by unfold uhR; rw [if_pos ⟨h1, h2⟩]

theorem uhR_out {s : ByteArray} (h : ¬ (s.size ≤ 40000 ∧ s.size % 2 = 0)) : uhR s = none := by unfold uhR; rw [if_neg h]
end Go.Proofs.Ytpgcfgbhkodmeaa

namespace Go.Proofs.Ytpgcfgbhkodmeaa
open Go.RowKit

theorem varF_form : ∀ (f n : Nat), n < 128 * 128 ^ f → ∃ p b, varF f n = p ++ [b] ∧ (∀ c ∈ p, 128 ≤ c.toNat) ∧ b.toNat < 128 ∧ dec (p ++ [b]) = n ∧ (b = 0 → p = []) ∧ ∀ j, n < 128 * 128 ^ j → p.length ≤ j
  | f, n, h => by
    by_cases hlt : 127 < n
    · match f, h with
      | 0, h => simp at h; omega
      | f + 1, h =>
        obtain ⟨p, b, h1, h2, h3, h4, h5, h6⟩ := varF_form f (n / 128) (pow_down h)
        have hc : (UInt8.ofNat (n % 128 + 128)).toNat = n % 128 + 128 := by simp; omega
        refine ⟨UInt8.ofNat (n % 128 + 128) :: p, b, by rw [varF_step hlt, h1]; rfl, ?_, h3, ?_, ?_, ?_⟩
        · intro c hcm
          rcases List.mem_cons.1 hcm with rfl | hcm
          · rw [hc]; omega
          · exact h2 c hcm
        · show (UInt8.ofNat (n % 128 + 128)).toNat % 128 + 128 * dec (p ++ [b]) = n
          rw [hc, h4]
          omega
        · intro hb
          have hp := h5 hb
          subst hp
          subst hb
          have : dec ([] ++ [(0 : UInt8)]) = 0 := rfl
          omega
        · intro j hj
          match j, hj with
          | 0, hj => simp at hj; omega
          | j + 1, hj =>
            have := h6 j (pow_down hj)
            simp
            omega
    · refine ⟨[], UInt8.ofNat n, varF_end hlt, by simp, by simp; omega, ?_, fun _ => rfl, fun j _ => by simp⟩
      simp [dec]
      omega

theorem drop_at {t r : List UInt8} {a k : Nat} (p : List UInt8) (c : UInt8) (h : t.drop a = p ++ c :: r) (hk : k = p.length) : ∃ h' : a + k < t.length, t[a + k] = c := by
  subst hk
  have hl := congrArg List.length h
  simp at hl
  have h1 : a + p.length < t.length := by omega
  refine ⟨h1, ?_⟩
  have h2 : (t.drop a)[p.length]? = some c := by rw [h]; simp
  rw [List.getElem?_drop, List.getElem?_eq_getElem h1] at h2
  exact Option.some.inj h2

theorem rvF_reads {t r : List UInt8} {a : Nat} {b : UInt8} : ∀ (q p : List UInt8) (f : Nat), t.drop a = p ++ (q ++ b :: r) → q.length < f → (∀ c ∈ q, 128 ≤ c.toNat) → b.toNat < 128 → dec (p ++ q ++ [b]) ≤ 1000000000 → (b = 0 → p ++ q = []) →
    rvF t a f p.length = some (dec (p ++ q ++ [b]), a + (p ++ q).length + 1)
  | [], p, f, h, hf, _, hb, hd, hz => by
    obtain ⟨f, rfl⟩ : ∃ g, f = g + 1 := ⟨f - 1, by simp at hf; omega⟩
    obtain ⟨h1, h2⟩ := drop_at p b (by simpa using h) rfl
    have h3 : (t.drop a).take (p.length + 1) = p ++ [b] := by rw [take_more h1, h2, h]; simp
    have h4 : rvF t a (f + 1) p.length = some (dec ((t.drop a).take (p.length + 1)), a + p.length + 1) := rvF_yes h1 (by rw [h2]; exact hb) (by
      rw [h3, h2]
      simp only [List.append_nil] at hd hz
      rintro (h5 | ⟨h5, h6⟩)
      · omega
      · have := hz h5; subst this; simp at h6)
    rw [h4, h3]
    simp
  | c :: q, p, f, h, hf, hq, hb, hd, hz => by
    obtain ⟨f, rfl⟩ : ∃ g, f = g + 1 := ⟨f - 1, by simp at hf; omega⟩
    obtain ⟨h1, h2⟩ := drop_at p c (by simpa using h) rfl
    rw [rvF_on h1 (by rw [h2]; exact hq c (by simp))]
    have := rvF_reads (t := t) (r := r) (a := a) (b := b) q (p ++ [c]) f (by rw [h]; simp) (by simp at hf; omega) (fun x hx => hq x (by simp [hx])) hb (by simpa using hd) (by simpa using hz)
    simpa using this

/-- A number is read back, whatever stands ahead of its bytes and behind them. -/
theorem rvF_varF {t r : List UInt8} {a n : Nat} (hn : n ≤ 1000000000) (h : t.drop a = varF 8 n ++ r) : rvF t a 5 0 = some (n, a + (varF 8 n).length) := by
  obtain ⟨p, b, h1, h2, h3, h4, h5, h6⟩ := varF_form 8 n (by omega)
  have hp := h6 4 (by omega)
  have := rvF_reads (t := t) (r := r) (a := a) (b := b) p [] 5 (by rw [h, h1]; simp) (by omega) h2 h3 (by simp only [List.nil_append]; omega) (by simpa using h5)
  simp only [List.nil_append, List.length_nil] at this
  rw [this, h4, h1]
  simp
  omega

theorem digF_app : ∀ (f n : Nat) (s : List UInt8), digF f n s = digF f n [] ++ s
  | 0, n, s => by simp [digF]
  | f + 1, n, s => by
    by_cases h : n = 0
    · subst h; rw [digF_zero, digF_zero]; rfl
    · rw [digF_on h, digF_on h, digF_app f _ (fig (n % 10) :: s), digF_app f _ [fig (n % 10)]]
      simp
theorem fig_isDig {d : Nat} (h : d < 10) : isDig (fig d) ∧ dOf (fig d) = d := by
  unfold isDig dOf
  rw [fig_lo h]
  omega
theorem digF_back : ∀ (f n : Nat), n < 10 ^ f → (∀ b ∈ digF f n [], isDig b) ∧ valF 0 (digF f n []) = n ∧ ∀ j, n < 10 ^ j → (digF f n []).length ≤ j
  | 0, n, h => by simp at h; subst h; simp [digF, valF]
  | f + 1, n, h => by
    by_cases h0 : n = 0
    · subst h0; rw [digF_zero]; simp [valF]
    · obtain ⟨h1, h2, h3⟩ := digF_back f (n / 10) (by rw [Nat.pow_succ] at h; omega)
      have hd := fig_isDig (d := n % 10) (by omega)
      rw [digF_on h0, digF_app]
      refine ⟨fun b hb => ?_, ?_, fun j hj => ?_⟩
      · rcases List.mem_append.1 hb with hb | hb
        · exact h1 b hb
        · simp at hb; subst hb; exact hd.1
      · rw [valF_snoc, h2, hd.2]; omega
      · match j, hj with
        | 0, hj => simp at hj; omega
        | j + 1, hj =>
          have := h3 j (by rw [Nat.pow_succ] at hj; omega)
          simp
          omega
/-- Decimal figures are read back. -/
theorem rdF_decOf {n : Nat} (hn : n ≤ 1000000000) : rdF 0 0 (decOf (n : Int)) = some n := by
  rw [← sdF_eq]
  by_cases h0 : n = 0
  · subst h0; decide
  · have hd : decOf (n : Int) = digF 20 n [] := by
      unfold decOf
      rw [if_neg (by omega), if_neg (by omega)]
      simp
    obtain ⟨h1, h2, h3⟩ := digF_back 20 n (by omega)
    rw [hd]
    unfold sdF
    rw [h2, if_pos ⟨h3 10 (by omega), h1, hn, hd⟩]

theorem uv_fig {d : Nat} (h : d < 16) : uv (fig d) = d := by
  have h1 : ∀ n : Fin 16, uv (fig n.val) = (n.val : Int) := by decide
  exact h1 ⟨d, h⟩
/-- Figures are read back. -/
theorem unF_figs : ∀ l : List UInt8, unF (figs l) = some l
  | [] => rfl
  | b :: l => by
    have hb := b.toNat_lt
    have e : figs (b :: l) = fig (b.toNat / 16) :: fig (b.toNat % 16) :: figs l := by simp [figs]
    rw [e, unF, uv_fig (by omega), uv_fig (by omega), if_pos ⟨by omega, by omega⟩, unF_figs l]
    have : UInt8.ofNat (16 * ((b.toNat / 16 : Nat) : Int) + ((b.toNat % 16 : Nat) : Int)).toNat = b := by
      rw [show (16 * ((b.toNat / 16 : Nat) : Int) + ((b.toNat % 16 : Nat) : Int)).toNat = b.toNat by omega]
      simp
    rw [this]
    rfl
end Go.Proofs.Ytpgcfgbhkodmeaa
