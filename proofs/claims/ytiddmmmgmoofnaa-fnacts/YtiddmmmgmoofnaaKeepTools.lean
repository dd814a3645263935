/- What the laws on disks ask by: the same disk, a beginning, what is left. -/
import Derived.Test.YtiddmmmgmoofnaaDrawTurn
import Derived.Test.YtiddmmmgmoofnaaInts
import Derived.Test.YtiddmmmgmoofnaaDiskPlainJ
import Derived.Test.YtiddmmmgmoofnaaBoxes
import Derived.Test.YtiddmmmgmoofnaaFilesLaw
namespace Go.Proofs.Ytiddmmmgmoofnaa
open Go.RowKit Go.Sort

set_option maxHeartbeats 1000000 in
theorem lefts_any (w : World) (a : Option Addr) (cap : Nat) (l : List Int) (hL : IAt w a l w.heap.size) (h12 : l.length = 12) (hb : ∀ z ∈ l, 0 ≤ z ∧ z < 10000) :
    Calls Try.prog 7 #[.slice a 12 cap] w fun e w' => ∃ (v : Value) (r : List Int), e = .returned v ∧ r.length = 6 ∧ OwnV w' w.heap.size 3 v (ints r) ∧ Below w.heap.size w w' := by
  go_enter Try.func7, Try.ntmps7
  go_wp2
  go_loopw [3, 4] (fun v i wr => Box (∃ (k : Nat) (r : List Int), k ≤ 6 ∧ i = .int .i64 k ∧ r.length ≤ k ∧ k ≤ r.length ∧ OwnV wr w.heap.size 3 v (ints r) ∧ Below w.heap.size w wr))
    (fun _ i _ => 6 - (intOf i).toNat)
  case atStart => exact ⟨⟨0, [], by omega, rfl, by simp, by simp, World.ownsRow_made w #[] 0 (Nat.le_refl _) (by simp [maxLen]) (by simp), (Below.refl _ _).alloc (Nat.le_refl _) _⟩⟩
  case round =>
    obtain ⟨k, r, hk, rfl, hl1, hl2, hown, hbel⟩ := hrel.out
    clear hrel
    by_cases hlt : k < 6
    · obtain ⟨g, off, rfl, hg, hc⟩ := (hL.below hbel (Nat.le_refl _)) k (by omega)
      obtain ⟨z, hz⟩ : ∃ z, l[k]'(by omega) = z := ⟨_, rfl⟩
      have hzb := hb z (by rw [← hz]; exact List.getElem_mem _)
      rw [hz] at hc
      obtain ⟨q, hq⟩ : ∃ q : Int, z.tmod 300 = q := ⟨_, rfl⟩
      have hil := ints_length r
      have hsz := hbel.size
      have hi1 : (0 : Int) ≤ (k : Int) := by omega
      have hi2 : (k : Int) < 12 := by omega
      clear hL hb hz h12
      go_wp2_with (at_builtin; refine wpList_snocV rfl (.tmp 10) (.tmp 16) 28 rfl w.heap.size 3 Try.underlying28 (.int .i64 0) 8 Try.info3 rfl _ (ints r) rfl hown (.int .i64 q) rfl rfl (by omega) (by omega) (by omega) ?_; intro v' w4 hown' hne' hbel' hsz')
      go_roundw
      case rel =>
        try ((repeat apply Exists.intro); refine ⟨?_, rfl⟩)
        exact ⟨⟨k + 1, r ++ [q], by omega, by go_num, by simp; omega, by simp; omega, by simpa [ints] using hown', hbel' _ hbel⟩⟩
      case measure => simp [intOf]; omega
    · go_wp2
      go_ret
      exact ⟨_, r, rfl, by omega, hown, hbel⟩

set_option maxHeartbeats 1000000 in
theorem begins_any (w : World) (a b : ByteArray) (h : Begins a b) :
    Calls Try.prog 13 #[.string a, .string b] w fun e w' => e = .returned (.bool true) ∧ Below w.heap.size w w' := by
  obtain ⟨n, hn⟩ : ∃ n, a.size = n := ⟨_, rfl⟩
  obtain ⟨m, hm⟩ : ∃ m, b.size = m := ⟨_, rfl⟩
  obtain ⟨h1, h2⟩ := h
  have hsl := fun w => run_slice_string_h (P := Try.prog) w 9 b Try.underlying9 .i64 (n : Int) (by omega) (by omega)
  have he : b.extract 0 (n : Int).toNat = a := by rw [← hn]; simpa using h2
  rw [he] at hsl
  have h3 : (n : Int) ≤ (m : Int) := by omega
  clear h2 he h1
  go_enter Try.func13, Try.ntmps13
  go_wp2
  go_ret
  exact ⟨rfl, Below.refl _ _⟩

set_option maxHeartbeats 1000000 in
theorem sameDisk_same (w : World) (a b : Option Addr) (c1 c2 : Nat) (L : List Fil) (hA : FAt w a L w.heap.size) (hB : FAt w b L w.heap.size) (hl : L.length ≤ 1048576) :
    Calls Try.prog 10 #[.agg #[.slice a L.length c1], .agg #[.slice b L.length c2]] w fun e w' => e = .returned (.bool true) ∧ Below w.heap.size w w' := by
  obtain ⟨wb, hwb⟩ : ∃ wb, (w.alloc (.cells #[.slice a L.length c1] 26)).alloc (.cells #[.slice b L.length c2] 26) = wb := ⟨_, rfl⟩
  have h1 : DBox wb w.heap.size (.slice a L.length c1) := by rw [← hwb]; exact (DBox.new _ _).on ((Below.refl _ _).alloc (Nat.le_refl _) _)
  have h2 : DBox wb (w.heap.size + 1) (.slice b L.length c2) := by
    rw [← hwb]
    have := DBox.new (w.alloc (.cells #[.slice a L.length c1] 26)) (.slice b L.length c2)
    simpa using this
  have hb : Below w.heap.size w wb := by rw [← hwb]; exact ((Below.refl _ _).alloc (Nat.le_refl _) _).alloc (by simp) _
  have HW : Hid ((w.alloc (.cells #[.slice a L.length c1] 26)).alloc (.cells #[.slice b L.length c2] 26) = wb) := hwb
  have q1 := h1.cell
  have q2 := h2.cell
  clear hwb
  go_enter Try.func10, Try.ntmps10
  go_wp2
  rw [HW.out]
  go_wp2
  go_loopw [5] (fun i wr => Box (∃ (k : Nat), k ≤ L.length ∧ i = .int .i64 k ∧ Below wb.heap.size wb wr))
    (fun i _ => L.length - (intOf i).toNat)
  case atStart => exact ⟨⟨0, by omega, rfl, Below.refl _ _⟩⟩
  case round =>
    obtain ⟨k, hk, rfl, hbel⟩ := hrel.out
    have q1 := (h1.on hbel).cell
    have q2 := (h2.on hbel).cell
    have hbw := bthen hb hbel
    clear hrel h1 h2
    by_cases hlt : k < L.length
    · obtain ⟨g, off, rfl, hg, hc0, hc1, hc2⟩ := (hA.below hbw (Nat.le_refl _)) k hlt
      obtain ⟨g', off', rfl, hg', hd0, hd1, hd2⟩ := (hB.below hbw (Nat.le_refl _)) k hlt
      obtain ⟨f, hf⟩ : ∃ f, L[k] = f := ⟨_, rfl⟩
      rw [hf] at hc0 hc1 hc2 hd0 hd1 hd2
      clear hA hB hf
      have hi1 : (0 : Int) ≤ (k : Int) := by omega
      have hi2 : (k : Int) < (L.length : Int) := by omega
      go_wp2
      go_quiet (fail)
      go_wp2
      go_roundw
      case rel =>
        try ((repeat apply Exists.intro); refine ⟨?_, rfl⟩)
        exact ⟨⟨k + 1, by omega, by go_num, hbel.trans ⟨rfl, rfl, rfl, Nat.le_refl _, fun _ _ => rfl⟩⟩⟩
      case measure => simp [intOf]; omega
    · go_wp2
      go_ret
      exact ⟨rfl, hbw⟩
end Go.Proofs.Ytiddmmmgmoofnaa
