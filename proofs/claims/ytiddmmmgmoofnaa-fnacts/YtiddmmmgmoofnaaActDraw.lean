/- Places, what is left, and acts are drawn. -/
import Derived.Test.YtiddmmmgmoofnaaKeepDraw
import Derived.Test.YtiddmmmgmoofnaaDrawTurn
namespace Go.Proofs.Ytiddmmmgmoofnaa
open Go.RowKit Go.Sort

def leftL : List Int := [0, 1, 2, 3, 5, 9, 40, 200, -1, 9223372036854775807]

set_option maxHeartbeats 2000000 in
theorem l03Left_any (w : World) (p : Nat) (ca : Option Addr) (n cap : Nat) (hc : Cur w p ca n cap) (hcode : CodeAt w ca n p) (hn : n ≤ 1048576) :
    Calls Try.prog 33 #[.pointer (some ⟨p, 0, none⟩)] w fun e w' => ∃ (v : Value) (l : List Int), e = .returned v ∧ l.length ≤ 5 ∧ OwnV w' w.heap.size 3 v (ints l) ∧ Left w w' p ca n cap := by
  have hp := hc.lt
  go_enter Try.func33, Try.ntmps33
  go_wp2
  go_loopw [3, 4] (fun v i wr => Box (∃ (k : Nat) (l : List Int), k ≤ 5 ∧ i = .int .i64 k ∧ l.length ≤ k ∧ OwnV wr w.heap.size 3 v (ints l) ∧ Left w wr p ca n cap))
    (fun _ i _ => 5 - (intOf i).toNat)
  case atStart => exact ⟨⟨0, [], by omega, rfl, by simp, World.ownsRow_made w #[] 0 (Nat.le_refl _) (by simp [maxLen]) (by simp), Cur.alloc hc hp _, CodeAt.alloc hcode _, World.grownBy_alloc _ _ _⟩⟩
  case round =>
    obtain ⟨k, l, hk, rfl, hl1, hown, hleft⟩ := hrel.out
    clear hrel hc hcode
    have c1 := below_any wr p ca n cap 6 hleft.1 hleft.2.1 hn (by omega) (by omega)
    go_wp2_with fail
    refine c1.mono ?_
    rintro e w1 ⟨x, hx, _, rfl, hl3⟩
    have hx2 := hx (by omega)
    have hown1 : OwnV w1 w.heap.size 3 u3 (ints l) := hown.grown hl3.2.2 fun q hq e => by
      have := (hown.lt q hq).1
      simp at e
      omega
    have hl4 := hleft.trans hl3
    have hs1 := hl4.2.2.size
    clear c1 hx hown hleft hl3
    by_cases hlt : (k : Int) < (x : Int)
    · have hp1 : p < w1.heap.size := by omega
      have c2 := pickInt_any (w1.alloc (.cells (ints leftL).toArray 3)) p ca n cap w1.heap.size (.slice (some ⟨w1.heap.size, 0, none⟩) 10 10) leftL (hl4.1.alloc hp1 _) (hl4.2.1.alloc _) hn
        (World.ownsRow_lit (base := w1.heap.size) (e := 3) (size := 1) w1 (ints leftL).toArray 10 (Nat.le_refl _) (by simp [maxLen]) (by rfl)) hp1 (by decide) (by decide)
      have hown2 := hown1.alloc (.cells (ints leftL).toArray 3)
      have hl5 := hl4.plus hp (.cells (ints leftL).toArray 3)
      clear hown1 hl4
      go_wp2_with fail
      refine c2.mono ?_
      rintro e w2 ⟨z, _, rfl, hl6⟩
      have hown3 : OwnV w2 w.heap.size 3 u3 (ints l) := hown2.grown hl6.2.2 fun q hq e => by
        have := (hown2.lt q hq).1
        simp at e
        omega
      have hl7 := hl5.trans hl6
      have hs2 := hl7.2.2.size
      have hil := ints_length l
      clear c2 hown2 hl5 hl6
      go_wp2_with (at_builtin; refine wpList_snocV rfl (.tmp 12) (.tmp 16) 28 rfl w.heap.size 3 Try.underlying28 (.int .i64 0) 8 Try.info3 rfl _ (ints l) rfl hown3 (.int .i64 z) rfl rfl (by omega) (by omega) (by omega) ?_; intro v' w4 hown' hne' hbel' hsz')
      go_roundw
      case rel =>
        try ((repeat apply Exists.intro); refine ⟨?_, rfl⟩)
        exact ⟨⟨k + 1, l ++ [z], by omega, by go_num, by simp; omega, by simpa [ints] using hown', hl7.below (hbel' _ (Below.refl _ _)) hp⟩⟩
      case measure => simp [intOf]; omega
    · go_wp2
      go_ret
      exact ⟨_, l, rfl, by omega, hown1, hl4⟩

end Go.Proofs.Ytiddmmmgmoofnaa
