/- The walk over figures of bytes: the other text. -/
import Derived.Test.YtednbcdomkhhmajHexPlain
import Derived.Test.YtednbcdomkhhmajFig
import Derived.Test.YtednbcdomkhhmajHexImpl
namespace Go.Proofs.Ytednbcdomkhhmaj
open Go.RowKit

set_option maxHeartbeats 2000000 in
set_option maxRecDepth 100000 in
theorem specHex_in (s : ByteArray) (w : World) (hs : s.size ≤ 20000) :
    Calls Try.prog 9 #[.string s] w fun e w' => e = .returned (.tuple #[.string ⟨(figs s.data.toList).toArray⟩, .bool true]) ∧ Below w.heap.size w w' := by
  go_enter Try.func9, Try.ntmps9
  go_wp2
  go_loopw [4, 5] (fun v i wr => Box (∃ (k : Nat) (n cap : Nat) (ad : Addr), k ≤ s.size ∧ i = .int .i64 k ∧ v = .slice (some ad) n cap ∧ OwnB wr w.heap.size 5 v (figs (s.data.toList.take k)) ∧ Below w.heap.size w wr))
    (fun _ i _ => s.size - (intOf i).toNat)
  case atStart => exact ⟨⟨0, 0, 0, _, Nat.zero_le _, rfl, rfl, World.ownsRow_made w #[] 0 (Nat.le_refl _) (by simp [maxLen]) (by simp), (Below.refl _ _).alloc (Nat.le_refl _) _⟩⟩
  case round =>
    obtain ⟨k, n, cap, ad, hk, rfl, rfl, hown, hbel⟩ := hrel.out
    have hsz := hbel.size
    have hfl : (figs (s.data.toList.take k)).length ≤ 40000 := by rw [figs_length]; have := List.length_take_le k s.data.toList; omega
    by_cases hlt : k < s.size
    · obtain ⟨b, hb⟩ : ∃ b, s[k] = b := ⟨_, rfl⟩
      have HB : Hid (s[k] = b) := hb
      have hbl : b.toNat < 256 := b.toNat_lt
      obtain ⟨q, hq, hq1, hq2⟩ : ∃ q : Nat, q < 16 ∧ Hid (q = b.toNat / 16) ∧ Hid (IntKind.i64.wrap ((IntKind.i64.wrap (b.toNat : Int)).tdiv 16) = (q : Int)) := ⟨b.toNat / 16, by omega, rfl, by show _ = _; rw [wrap_small (b.toNat : Int) (by omega) (by omega), Int.tdiv_eq_ediv_of_nonneg (by omega), wrap_small _ (by omega) (by omega)]; simp⟩
      obtain ⟨r, hr, hr1, hr2⟩ : ∃ r : Nat, r < 16 ∧ Hid (r = b.toNat % 16) ∧ Hid ((IntKind.i64.wrap (b.toNat : Int)).tmod 16 = (r : Int)) := ⟨b.toNat % 16, by omega, rfl, by show _ = _; rw [wrap_small (b.toNat : Int) (by omega) (by omega), Int.tmod_eq_emod_of_nonneg (by omega)]; simp⟩
      go_wp2
      go_region_held3 (fun _ => True) (trivial) (first | (go_at_call 18; rw [hq2.out]; refine (l01Figure_any q _ hq).mono ?_; rintro e w' ⟨rfl, rfl⟩) | (go_at_call 18; rw [hr2.out]; refine (l01Figure_any r _ hr).mono ?_; rintro e w' ⟨rfl, rfl⟩) | (refine step_pair (by rfl) _ _ 33 (by rfl) w.heap.size 5 Try.underlying33 Try.info5 _ (figs (s.data.toList.take k)) (by rfl) (by exact hown.alloc _) wr.heap.size (fig q) (fig r) (0, 0) (by rfl) (by exact heap_alloc_new wr _) (by omega) (by simp; omega) ?_; intro g cap' w1 hown' hbel' hsz'))
      all_goals
        have HF : Hid (figs (s.data.toList.take (k + 1)) = figs (s.data.toList.take k) ++ [fig q, fig r]) := by
          show _ = _
          rw [take_snoc s k hlt, HB.out, figs_snoc, hq1.out, hr1.out]
        go_wp2
        go_roundw
        case rel =>
          try ((repeat apply Exists.intro); refine ⟨?_, rfl⟩)
          exact ⟨⟨k + 1, _, _, _, by omega, by go_num, rfl, by rw [HF.out]; exact hown', hbel' _ (hbel.alloc hsz _).drew⟩⟩
        case measure => simp [intOf]; omega
    · have hcv := hown.text (P := Try.prog) 33 9 Try.underlying33 Try.underlying5 Try.underlying9 (by simp)
      go_wp2
      go_ret2
      exact ⟨ret_str_bool (by rw [List.take_of_length_le (by simp; omega)]), hbel⟩

theorem specHex_any (s : ByteArray) (w : World) (hs : s.size ≤ 1048576) :
    Calls Try.prog 9 #[.string s] w fun e w' => e = .returned (.tuple #[.string (hxText s), .bool (hxOk s)]) ∧ Below w.heap.size w w' := by
  by_cases h : s.size ≤ 20000
  · rw [show hxOk s = true by simp [hxOk, h], show hxText s = ⟨(figs s.data.toList).toArray⟩ by simp [hxText, h]]
    exact specHex_in s w h
  · rw [show hxOk s = false by simp [hxOk]; omega, show hxText s = ⟨#[]⟩ by simp [hxText, h]]
    go_enter Try.func9, Try.ntmps9
    go_wp2
    go_ret2
    exact ⟨rfl, Below.refl _ _⟩
end Go.Proofs.Ytednbcdomkhhmaj
