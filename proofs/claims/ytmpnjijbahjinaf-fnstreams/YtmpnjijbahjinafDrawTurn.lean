/- The draws of the law on turned bytes. -/
import Derived.Test.YtmpnjijbahjinafDraws
namespace Go.Proofs.Ytmpnjijbahjinaf
open Go.RowKit


theorem Try.info3 : (Try.prog.info? 3).map (fun i => (i.zero, i.size, i.bytes)) = some (some (.int .i64 0), 1, 8) := by kernel_rfl

set_option maxHeartbeats 2000000 in
/-- Twelve numbers below ten thousand. -/
theorem drawPlaces_any (w : World) (ca : Option Addr) (n cap : Nat) (hcode : CodeAt w ca n w.heap.size) (hn : n ≤ 1048576) :
    Calls Try.prog 8 #[.slice ca n cap] w fun e w' => ∃ (v : Value) (l : List Int), e = .returned v ∧ l.length = 12 ∧ (∀ z ∈ l, 0 ≤ z ∧ z < 10000) ∧ OwnV w' w.heap.size 3 v (ints l) ∧ Below w.heap.size w w' := by
  have c1 := new_any w ca n cap hcode hn
  clear hcode
  go_enter Try.func8, Try.ntmps8
  go_wp2_with fail
  refine c1.mono ?_
  rintro e w1 ⟨p, rfl, hp1, hp2, hcur, hcd, hb1⟩
  have c2 := byte_left w1 p ca n cap hcur hcd hn
  clear hcur hcd
  go_wp2_with fail
  refine c2.mono ?_
  rintro e w2 ⟨x0, _, rfl, hl2⟩
  have hb2 := below_of_left hb1 hp2 hl2
  have hpz : p < w2.heap.size := Nat.lt_of_lt_of_le hp1 hl2.2.2.size
  have hcur2 := hl2.1
  have hcd2 := hl2.2.1
  clear hb1 hl2 c1 c2
  go_wp2
  go_loopw [4, 5] (fun v i wr => Box (∃ (k : Nat) (l : List Int), k ≤ 12 ∧ i = .int .i64 k ∧ l.length ≤ k ∧ k ≤ l.length ∧ Hid (∀ z ∈ l, 0 ≤ z ∧ z < 10000) ∧ OwnV wr w2.heap.size 3 v (ints l) ∧ Left w2 wr p ca n cap))
    (fun _ i _ => 12 - (intOf i).toNat)
  case atStart => exact ⟨⟨0, [], by omega, rfl, by simp, by simp, by simp [Hid], World.ownsRow_made w2 #[] 0 (Nat.le_refl _) (by simp [maxLen]) (by simp), Cur.alloc hcur2 hpz _, CodeAt.alloc hcd2 _, World.grownBy_alloc _ _ _⟩⟩
  case round =>
    obtain ⟨k, l, hk, rfl, hl1, hl2, HL, hown, hleft⟩ := hrel.out
    by_cases hlt : k < 12
    · have c1 := below_any wr p ca n cap 10000 hleft.1 hleft.2.1 hn (by omega) (by omega)
      have hgs := hleft.2.2.size
      go_wp2_with fail
      refine c1.mono ?_
      rintro e w3 ⟨x, hx, _, rfl, hl3⟩
      have hx2 := hx (by omega)
      have hown1 : OwnV w3 w2.heap.size 3 u4 (ints l) := hown.grown hl3.2.2 fun q hq e => by
        have := (hown.lt q hq).1
        simp at e
        omega
      have hgs1 := hl3.2.2.size
      have hl4 := hleft.trans hl3
      have hil := ints_length l
      have HL2 : Hid (∀ z ∈ l ++ [(x : Int)], 0 ≤ z ∧ z < 10000) := by
        intro z hz
        rcases List.mem_append.1 hz with h | h
        · exact HL.out z h
        · simp at h
          omega
      clear hown hleft hl3 c1 hx
      go_wp2_with (at_builtin; refine wpList_snocV rfl (.tmp 15) (.tmp 18) 28 rfl w2.heap.size 3 Try.underlying28 (.int .i64 0) 8 Try.info3 rfl _ (ints l) rfl hown1 (.int .i64 (x : Int)) rfl rfl (by omega) (by omega) (by omega) ?_; intro v' w4 hown' hne' hbel' hsz')
      go_roundw
      case rel =>
        try ((repeat apply Exists.intro); refine ⟨?_, rfl⟩)
        exact ⟨⟨k + 1, l ++ [(x : Int)], by omega, by go_num, by simp; omega, by simp; omega, HL2, by simpa [ints] using hown', hl4.below (hbel' _ (Below.refl _ _)) hpz⟩⟩
      case measure => simp [intOf]; omega
    · go_wp2
      go_ret
      exact ⟨_, l, rfl, by omega, HL.out, hown.mono hb2.size, below_of_left hb2 hp2 hleft⟩
end Go.Proofs.Ytmpnjijbahjinaf
