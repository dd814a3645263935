/- Texts that stand in one: HexPlain, HexImpl. -/
import Derived.Test.YtnnaphfeeobelaeDoorFigPlain
import Derived.Test.YtnnaphfeeobelaeDoorBase
import Derived.Deep.RegionHeld3
import Derived.Deep.RegionLaw
namespace Go.Proofs.YtnnaphfeeobelaeDoor
open Go.RowKit

/-- The figures of bytes. -/
def figs (l : List UInt8) : List UInt8 := l.flatMap fun b => [fig (b.toNat / 16), fig (b.toNat % 16)]

theorem figs_snoc (l : List UInt8) (b : UInt8) : figs (l ++ [b]) = figs l ++ [fig (b.toNat / 16), fig (b.toNat % 16)] := by simp [figs]

theorem figs_length (l : List UInt8) : (figs l).length = 2 * l.length := by
  induction l with
  | nil => rfl
  | cons b l ih => simp only [figs, List.flatMap_cons, List.length_append, List.length_cons, List.length_nil] at *; omega

theorem take_snoc (s : ByteArray) (k : Nat) (h : k < s.size) : s.data.toList.take (k + 1) = s.data.toList.take k ++ [s[k]] := by
  rw [List.take_succ_eq_append_getElem (by simpa using h)]; rfl

theorem wrap_small (x : Int) (h1 : -9223372036854775808 ≤ x) (h2 : x < 9223372036854775808) : IntKind.i64.wrap x = x := by
  simp only [IntKind.wrap_i64]; omega

/-- The text of all figures. -/
def allFigs : ByteArray := ⟨#[48, 49, 50, 51, 52, 53, 54, 55, 56, 57, 97, 98, 99, 100, 101, 102]⟩

theorem allFigs_at : ∀ q, (h : q < 16) → allFigs[q]'h = fig q := by
  intro q h
  rcases (show q = 0 ∨ q = 1 ∨ q = 2 ∨ q = 3 ∨ q = 4 ∨ q = 5 ∨ q = 6 ∨ q = 7 ∨ q = 8 ∨ q = 9 ∨ q = 10 ∨ q = 11 ∨ q = 12 ∨ q = 13 ∨ q = 14 ∨ q = 15 by omega) with rfl | rfl | rfl | rfl | rfl | rfl | rfl | rfl | rfl | rfl | rfl | rfl | rfl | rfl | rfl | rfl <;> rfl

/-- What Hex answers. -/
def hxOk (s : ByteArray) : Bool := decide (s.size ≤ 20000)

def hxText (s : ByteArray) : ByteArray := if s.size ≤ 20000 then ⟨(figs s.data.toList).toArray⟩ else ⟨#[]⟩
end Go.Proofs.YtnnaphfeeobelaeDoor

namespace Go.Proofs.YtnnaphfeeobelaeDoor
open Go.RowKit

theorem run_figAt (q : Nat) (hq : q < 16) (i : Int) (hi : i = (q : Int)) (w : World) :
    (Instr.index 9 (.string ⟨#[48, 49, 50, 51, 52, 53, 54, 55, 56, 57, 97, 98, 99, 100, 101, 102]⟩) (.int .u8 i)).run Tryd.prog w = .ok (.int .u8 ((fig q).toNat : Int)) w := by
  subst hi
  rw [run_index_string w 9 _ .u8 (q : Int) Tryd.underlying9, dif_pos ⟨by omega, by show (q : Int) < 16; omega⟩]
  have := allFigs_at q hq
  rw [← this]
  rfl

set_option maxHeartbeats 2000000 in
set_option maxRecDepth 100000 in
theorem implHex_in (s : ByteArray) (w : World) (hs : s.size ≤ 20000) :
    Calls Tryd.prog 39 #[.string s] w fun e w' => e = .returned (.tuple #[.string ⟨(figs s.data.toList).toArray⟩, .bool true]) ∧ Below w.heap.size w w' := by
  go_enter Tryd.func39, Tryd.ntmps39
  go_wp2_with (at_make; refine wpList_make0 rfl _ _ 22 rfl w.heap.size 5 Tryd.underlying22 Tryd.info5 _ (2 * s.size) rfl rfl (by omega) (by omega) (Nat.le_refl _) ?_; intro w0 hown0 hbel0 hsz0)
  go_loopw [4, 5, 15] (fun v _ i wr => Box (∃ (k : Nat) (n cap : Nat) (ad : Addr), k ≤ s.size ∧ i = .int .i64 k ∧ v = .slice (some ad) n cap ∧ OwnB wr w.heap.size 5 v (figs (s.data.toList.take k)) ∧ Below w.heap.size w wr))
    (fun _ _ i _ => s.size - (intOf i).toNat)
  case atStart => exact ⟨⟨0, _, _, _, Nat.zero_le _, rfl, rfl, hown0, hbel0 _ (Below.refl _ _)⟩⟩
  case round =>
    obtain ⟨k, n, cap, ad, hk, rfl, rfl, hown, hbel⟩ := hrel.out
    have hsz := hbel.size
    have hfl : (figs (s.data.toList.take k)).length ≤ 40000 := by rw [figs_length]; have := List.length_take_le k s.data.toList; omega
    by_cases hlt : k < s.size
    · obtain ⟨b, hb⟩ : ∃ b, s[k] = b := ⟨_, rfl⟩
      have HB : Hid (s[k] = b) := hb
      have hbl : b.toNat < 256 := b.toNat_lt
      obtain ⟨q, hq, hq1, hq2⟩ : ∃ q : Nat, q < 16 ∧ Hid (q = b.toNat / 16) ∧ IntKind.u8.wrap ((b.toNat : Int) / 16) = (q : Int) := ⟨b.toNat / 16, by omega, rfl, by simp only [IntKind.wrap_u8]; omega⟩
      obtain ⟨r, hr, hr1, hr2⟩ : ∃ r : Nat, r < 16 ∧ Hid (r = b.toNat % 16) ∧ (b.toNat : Int) % 16 = (r : Int) := ⟨b.toNat % 16, by omega, rfl, by omega⟩
      have hr3 : (b.toNat : Int).tmod 16 = (r : Int) := by rw [Int.tmod_eq_emod_of_nonneg (by omega)]; exact hr2
      have hiq := run_figAt q hq q rfl
      have hir := run_figAt r hr r rfl
      go_wp2
      go_region_held3 (fun _ => True) (trivial) (first | (refine step_pair (by rfl) _ _ 22 (by rfl) w.heap.size 5 Tryd.underlying22 Tryd.info5 _ (figs (s.data.toList.take k)) (by rfl) (by exact hown.alloc _) wr.heap.size (fig q) (fig r) (0, 0) (by rfl) (by exact heap_alloc_new wr _) (by omega) (by simp; omega) ?_; intro g cap' w1 hown' hbel' hsz'))
      all_goals
        have HF : Hid (figs (s.data.toList.take (k + 1)) = figs (s.data.toList.take k) ++ [fig q, fig r]) := by
          show _ = _
          rw [take_snoc s k hlt, HB.out, figs_snoc, hq1.out, hr1.out]
        go_wp2
        go_roundw
        case rel =>
          try ((repeat apply Exists.intro); refine ⟨?_, rfl⟩)
          exact ⟨⟨k + 1, _, _, _, by omega, by go_num, rfl, by rw [HF.out]; exact hown', hbel' _ (hbel.alloc hsz _).drew⟩⟩
        case measure => simp [intOf]; omega
    · have hcv := hown.text (P := Tryd.prog) 22 9 Tryd.underlying22 Tryd.underlying5 Tryd.underlying9 (by simp)
      go_wp2
      go_ret2
      exact ⟨ret_str_bool (by rw [List.take_of_length_le (by simp; omega)]), hbel⟩

theorem implHex_any (s : ByteArray) (w : World) (hs : s.size ≤ 1048576) :
    Calls Tryd.prog 39 #[.string s] w fun e w' => e = .returned (.tuple #[.string (hxText s), .bool (hxOk s)]) ∧ Below w.heap.size w w' := by
  by_cases h : s.size ≤ 20000
  · rw [show hxOk s = true by simp [hxOk, h], show hxText s = ⟨(figs s.data.toList).toArray⟩ by simp [hxText, h]]
    exact implHex_in s w h
  · rw [show hxOk s = false by simp [hxOk]; omega, show hxText s = ⟨#[]⟩ by simp [hxText, h]]
    go_enter Tryd.func39, Tryd.ntmps39
    go_wp2
    go_ret2
    exact ⟨rfl, Below.refl _ _⟩
end Go.Proofs.YtnnaphfeeobelaeDoor
