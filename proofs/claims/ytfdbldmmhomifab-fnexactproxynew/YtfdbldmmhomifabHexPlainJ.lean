/- Texts that stand in one: HexPlain, UnhexPlain. -/
import Derived.Test.YtfdbldmmhomifabSkLaw3J
import Derived.Lib.Bytealg
namespace Go.Proofs.Ytfdbldmmhomifab
open Go.RowKit

/-- The figures of bytes. -/
def figs (l : List UInt8) : List UInt8 := l.flatMap fun b => [fig (b.toNat / 16), fig (b.toNat % 16)]

theorem figs_snoc (l : List UInt8) (b : UInt8) : figs (l ++ [b]) = figs l ++ [fig (b.toNat / 16), fig (b.toNat % 16)] := by simp [figs]

theorem figs_length (l : List UInt8) : (figs l).length = 2 * l.length := by
  induction l with
  | nil => rfl
  | cons b l ih => simp only [figs, List.flatMap_cons, List.length_append, List.length_cons, List.length_nil] at *; omega

theorem take_snoc (s : ByteArray) (k : Nat) (h : k < s.size) : s.data.toList.take (k + 1) = s.data.toList.take k ++ [s[k]] := by
  rw [List.take_succ_eq_append_getElem (by simpa using h)]; rfl

theorem wrap_small (x : Int) (h1 : -9223372036854775808 ≤ x) (h2 : x < 9223372036854775808) : IntKind.i64.wrap x = x := by
  simp only [IntKind.wrap_i64]; omega

/-- The text of all figures. -/
def allFigs : ByteArray := ⟨#[48, 49, 50, 51, 52, 53, 54, 55, 56, 57, 97, 98, 99, 100, 101, 102]⟩

theorem allFigs_at : ∀ q, (h : q < 16) → allFigs[q]'h = fig q := by
  intro q h
  rcases (show q = 0 ∨ q = 1 ∨ q = 2 ∨ q = 3 ∨ q = 4 ∨ q = 5 ∨ q = 6 ∨ q = 7 ∨ q = 8 ∨ q = 9 ∨ q = 10 ∨ q = 11 ∨ q = 12 ∨ q = 13 ∨ q = 14 ∨ q = 15 by omega) with rfl | rfl | rfl | rfl | rfl | rfl | rfl | rfl | rfl | rfl | rfl | rfl | rfl | rfl | rfl | rfl <;> rfl

/-- What Hex answers. -/
def hxOk (s : ByteArray) : Bool := decide (s.size ≤ 20000)

def hxText (s : ByteArray) : ByteArray := if s.size ≤ 20000 then ⟨(figs s.data.toList).toArray⟩ else ⟨#[]⟩
end Go.Proofs.Ytfdbldmmhomifab

namespace Go.Proofs.Ytfdbldmmhomifab
open Go.RowKit

/-- What a figure tells, -1 where it is none. -/
def uv (b : UInt8) : Int := if 48 ≤ b.toNat ∧ b.toNat ≤ 57 then b.toNat - 48 else if 97 ≤ b.toNat ∧ b.toNat ≤ 102 then b.toNat - 87 else -1

theorem uv_bd (b : UInt8) : -1 ≤ uv b ∧ uv b < 16 := by
  unfold uv
  split
  · omega
  · split <;> omega

theorem index_uv (b : UInt8) : Lib.indexByte [48, 49, 50, 51, 52, 53, 54, 55, 56, 57, 97, 98, 99, 100, 101, 102] b = uv b := by
  have h : ∀ n : Fin 256, Lib.indexByte [48, 49, 50, 51, 52, 53, 54, 55, 56, 57, 97, 98, 99, 100, 101, 102] (UInt8.ofNat n.val) = uv (UInt8.ofNat n.val) := by decide +kernel
  have := h ⟨b.toNat, b.toNat_lt⟩
  simpa using this

/-- The text that figures tell, if all are figures. -/
def unF : List UInt8 → Option (List UInt8)
  | a :: b :: r => if 0 ≤ uv a ∧ 0 ≤ uv b then (unF r).map (fun l => UInt8.ofNat (16 * uv a + uv b).toNat :: l) else none
  | _ => some []

theorem drop_two {t : List UInt8} {i : Nat} (h : i + 1 < t.length) : t.drop i = t[i] :: t[i + 1] :: t.drop (i + 2) := by
  rw [List.drop_eq_getElem_cons (by omega), List.drop_eq_getElem_cons h]

/-- Where the reading stands: the bytes l are read, the rest stands from the place i on. -/
def unAt (t : List UInt8) (i : Nat) (l : List UInt8) : Prop := unF t = (unF (t.drop i)).map (fun r => l ++ r)

theorem unAt_start (t : List UInt8) : unAt t 0 [] := by simp [unAt]

theorem unAt_on {t : List UInt8} {i : Nat} {l : List UInt8} (h : unAt t i l) (hi : i + 1 < t.length) {x y : Int} (hx : uv t[i] = x) (hy : uv t[i + 1] = y) (h1 : 0 ≤ x) (h2 : 0 ≤ y) : unAt t (i + 2) (l ++ [UInt8.ofNat (16 * x + y).toNat]) := by
  unfold unAt at *
  rw [h, drop_two hi, unF, hx, hy, if_pos ⟨h1, h2⟩, Option.map_map]
  congr 1
  funext r
  simp

theorem unAt_no {t : List UInt8} {i : Nat} {l : List UInt8} (h : unAt t i l) (hi : i + 1 < t.length) {x y : Int} (hx : uv t[i] = x) (hy : uv t[i + 1] = y) (h1 : x < 0 ∨ y < 0) : unF t = none := by
  unfold unAt at h
  rw [h, drop_two hi, unF, hx, hy, if_neg (by omega)]
  rfl

theorem unAt_end {t : List UInt8} {i : Nat} {l : List UInt8} (h : unAt t i l) (hi : t.length ≤ i) : unF t = some l := by
  unfold unAt at h
  rw [h, List.drop_of_length_le hi]
  simp [unF]

/-- What Unhex answers. -/
def uhR (s : ByteArray) : Option (List UInt8) := if s.size ≤ 40000 ∧ s.size % 2 = 0 then unF s.data.toList else none

def uhOk (s : ByteArray) : Bool := (uhR s).isSome

def uhText (s : ByteArray) : ByteArray := ⟨((uhR s).getD []).toArray⟩

theorem ret_uh_none {r : Option (List UInt8)} (h : r = none) : Ending.returned (.tuple #[.string ⟨#[]⟩, .bool false]) = .returned (.tuple #[.string ⟨(r.getD []).toArray⟩, .bool r.isSome]) := by subst h; rfl

theorem ret_uh_some {r : Option (List UInt8)} {l : List UInt8} (h : r = some l) : Ending.returned (.tuple #[.string ⟨l.toArray⟩, .bool true]) = .returned (.tuple #[.string ⟨(r.getD []).toArray⟩, .bool r.isSome]) := by subst h; rfl

theorem byte_list {s : ByteArray} {i : Nat} {b : UInt8} (h : i < s.size) (hb : s[i] = b) : s.data.toList[i]'(by simpa using h) = b := by rw [← hb]; simp; rfl

theorem uhR_in {s : ByteArray} (h1 : s.size ≤ 40000) (h2 : s.size % 2 = 0) : uhR s = unF s.data.toList := by unfold uhR; rw [if_pos ⟨h1, h2⟩]

theorem uhR_out {s : ByteArray} (h : ¬ (s.size ≤ 40000 ∧ s.size % 2 = 0)) : uhR s = none := by unfold uhR; rw [if_neg h]
end Go.Proofs.Ytfdbldmmhomifab
