/- slices.Index, slices.Contains of texts; a key's size: the program's. -/
import Derived.Test.YtbcjkinalghokatPolSpec
namespace Go.Proofs.Ytbcjkinalghokat
open Go.RowKit Go.Sort

theorem bytes_nk' {z key : ByteArray} (h : ¬ z = key) : (key.toList == z.toList) = false := bytes_nk (fun e => h e.symm)
set_option maxHeartbeats 2000000 in
theorem indexS_any (w : World) (a : Option Addr) (c : Nat) (L : List ByteArray) (s : ByteArray) (hA : LAt w a L w.heap.size) (hm : L.length ≤ 10000000) :
    Calls Try.prog 55 #[.slice a L.length c, .string s] w fun e w' => ∃ r : Int, e = .returned (.int .i64 r) ∧ w' = w ∧ ((r = -1 ∧ inL L s = false) ∨ ∃ k : Nat, ∃ hk : k < L.length, r = k ∧ L[k] = s ∧ inL (L.take k) s = false) := by
  go_enter Try.func55, Try.ntmps55
  go_wp2
  go_loopw [8] (fun i wr => Box (∃ (k : Nat), k ≤ L.length ∧ i = .int .i64 k ∧ Hid (inL (L.take k) s = false) ∧ w = wr))
    (fun i _ => L.length - (intOf i).toNat)
  case atStart => exact ⟨⟨0, by omega, rfl, rfl, rfl⟩⟩
  case round =>
    obtain ⟨k, hk, rfl, HN, rfl⟩ := hrel.out
    by_cases hlt : k < L.length
    · obtain ⟨g, off, rfl, hg, hc⟩ := hA k hlt
      have hi1 : (0 : Int) ≤ (k : Int) := by omega
      have hi2 : (k : Int) < (L.length : Int) := by omega
      by_cases hz : L[k] = s
      · have HT : Hid (∃ k' : Nat, ∃ hk : k' < L.length, (k : Int) = k' ∧ L[k'] = s ∧ inL (L.take k') s = false) := ⟨k, hlt, rfl, hz, HN.out⟩
        rw [hz] at hc
        clear hrel hz hA
        go_wp2
        go_ret
        exact ⟨_, rfl, rfl, .inr HT.out⟩
      · have HT : Hid (inL (L.take (k + 1)) s = false) := inL_take hlt HN.out hz
        have hz1 := bytes_nk' hz
        obtain ⟨z, hzz⟩ : ∃ z, L[k] = z := ⟨_, rfl⟩
        rw [hzz] at hc hz1
        clear hrel hz hzz hA
        go_wp2
        go_roundw
        case rel =>
          try ((repeat apply Exists.intro); refine ⟨?_, rfl⟩)
          exact ⟨⟨k + 1, by omega, by go_num, HT, by first | rfl | trivial⟩⟩
        case measure => simp [intOf]; omega
    · go_wp2
      go_ret
      have hke : k = L.length := by omega
      have := HN.out
      rw [hke, List.take_length] at this
      exact ⟨_, rfl, rfl, .inl ⟨rfl, this⟩⟩
theorem containsS_any (w : World) (a : Option Addr) (c : Nat) (L : List ByteArray) (s : ByteArray) (hA : LAt w a L w.heap.size) (hm : L.length ≤ 10000000) :
    Calls Try.prog 38 #[.slice a L.length c, .string s] w fun e w' => e = .returned (.bool (inL L s)) ∧ w' = w := by
  have c1 := indexS_any w a c L s hA hm
  go_enter Try.func38, Try.ntmps38
  go_wp2_with fail
  refine c1.mono ?_
  rintro e w' ⟨r, rfl, rfl, h⟩
  clear c1
  rcases h with ⟨rfl, h⟩ | ⟨k, hk, rfl, h1, _⟩
  · go_wp2_with fail
    go_ret
    exact ⟨by rw [h]; rfl, rfl⟩
  · have HT : Hid (inL L s = true) := inL_iff.2 (by rw [← h1]; exact List.getElem_mem hk)
    have hi1 : (0 : Int) ≤ (k : Int) := by omega
    clear h1
    go_wp2_with fail
    go_ret
    exact ⟨by rw [HT.out]; simp, rfl⟩
theorem nokey_bytes {s : ByteArray} (h : 1 ≤ s.size) : s.toList.isEmpty = false := by
  rw [ByteArray.toList_eq, List.isEmpty_eq_false_iff]
  intro e
  have h1 : s.size = s.data.toList.length := by rw [Array.length_toList]; rfl
  rw [e, List.length_nil] at h1
  omega
set_option maxHeartbeats 2000000 in
theorem implKeyOk_any (w : World) (s : ByteArray) (hs : s.size ≤ 10000000) :
    Calls Try.prog 37 #[.string s] w fun e w' => e = .returned (.bool (keyOk s)) ∧ w' = w := by
  by_cases h : 1 ≤ s.size
  · have h1 := nokey_bytes h
    have HK : Hid (keyOk s = decide ((s.size : Int) ≤ 30)) := by
      show _ = _
      unfold keyOk
      by_cases h' : s.size ≤ 30
      · rw [decide_eq_true (⟨h, h'⟩ : 1 ≤ s.size ∧ s.size ≤ 30), decide_eq_true (by omega)]
      · rw [decide_eq_false (by omega), decide_eq_false (by omega)]
    clear h
    go_enter Try.func37, Try.ntmps37
    go_wp2
    go_ret
    exact ⟨by rw [HK.out]; rfl, rfl⟩
  · have h0 : s = ⟨#[]⟩ := by
      have h0 : s.data.size = 0 := by have : s.size = s.data.size := rfl; omega
      exact ByteArray.ext (Array.eq_empty_of_size_eq_zero h0)
    subst h0
    go_enter Try.func37, Try.ntmps37
    go_wp2
    go_ret
    exact ⟨rfl, rfl⟩
end Go.Proofs.Ytbcjkinalghokat
