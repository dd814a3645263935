/- Cells are drawn. -/
import Derived.Test.YtogfkbkfcelgcabDraws
import Derived.Test.YtogfkbkfcelgcabDrawTurn
import Derived.Test.YtogfkbkfcelgcabInts
import Derived.Test.YtogfkbkfcelgcabCellPlain
import Derived.Deep.RegionLaw
namespace Go.Proofs.Ytogfkbkfcelgcab
open Go.RowKit Go.Sort

def cellL : List Int := [0, 1, 2, 7, 100, 1000000000]
theorem cellL_ok : ∀ z ∈ cellL, nOkC z = true := by decide
def oddL : List Int := [-1, 1000000001, 9223372036854775807, -9223372036854775808]

theorem OwnV.past {w w1 : World} {p base : Nat} {e : TypeId} {v : Value} {xs : List Value} {ca : Option Addr} {n cap : Nat} (h : OwnV w base e v xs) (hl : Left w w1 p ca n cap) (hp : p < base) : OwnV w1 base e v xs :=
  h.grown hl.2.2 fun q hq e => by
    have := (h.lt q hq).1
    simp at e
    omega

set_option maxHeartbeats 2000000 in
theorem l05Cells_any (w : World) (p : Nat) (ca : Option Addr) (n cap : Nat) (hc : Cur w p ca n cap) (hcode : CodeAt w ca n p) (hn : n ≤ 1048576) :
    Calls Try.prog 46 #[.pointer (some ⟨p, 0, none⟩)] w fun e w' => ∃ (v : Value) (l : List Int), e = .returned v ∧ 1 ≤ l.length ∧ l.length ≤ 6 ∧ l.all nOkC = true ∧ OwnV w' w.heap.size 3 v (ints l) ∧ Left w w' p ca n cap := by
  have hp := hc.lt
  go_enter Try.func46, Try.ntmps46
  go_wp2
  go_loopw [3, 4] (fun v i wr => Box (∃ (k : Nat) (l : List Int), k ≤ 6 ∧ i = .int .i64 k ∧ l.length ≤ k ∧ k ≤ l.length ∧ Hid (l.all nOkC = true) ∧ OwnV wr w.heap.size 3 v (ints l) ∧ Left w wr p ca n cap))
    (fun _ i _ => 6 - (intOf i).toNat)
  case atStart => exact ⟨⟨0, [], by omega, rfl, by simp, by simp, by simp [Hid], World.ownsRow_made w #[] 0 (Nat.le_refl _) (by simp [maxLen]) (by simp), Cur.alloc hc hp _, CodeAt.alloc hcode _, World.grownBy_alloc _ _ _⟩⟩
  case round =>
    obtain ⟨k, l, hk, rfl, hl1, hl2, HL, hown, hleft⟩ := hrel.out
    clear hrel hc hcode
    have c1 := below_any wr p ca n cap 6 hleft.1 hleft.2.1 hn (by omega) (by omega)
    go_wp2_with fail
    refine c1.mono ?_
    rintro e w1 ⟨x, hx, _, rfl, hl3⟩
    have hx2 := hx (by omega)
    have hown1 := hown.past hl3 hp
    have hl4 := hleft.trans hl3
    have hs1 := hl4.2.2.size
    clear c1 hx hown hleft hl3
    by_cases hlt : (k : Int) < 1 + (x : Int)
    · have hp1 : p < w1.heap.size := by omega
      have c2 := pickInt_any (w1.alloc (.cells (ints cellL).toArray 3)) p ca n cap w1.heap.size (.slice (some ⟨w1.heap.size, 0, none⟩) 6 6) cellL (hl4.1.alloc hp1 _) (hl4.2.1.alloc _) hn
        (World.ownsRow_lit (base := w1.heap.size) (e := 3) (size := 1) w1 (ints cellL).toArray 6 (Nat.le_refl _) (by simp [maxLen]) (by rfl)) hp1 (by decide) (by decide)
      have hown2 := hown1.alloc (.cells (ints cellL).toArray 3)
      have hl5 := hl4.plus hp (.cells (ints cellL).toArray 3)
      clear hown1 hl4
      go_wp2_with fail
      refine c2.mono ?_
      rintro e w2 ⟨z, hz, rfl, hl6⟩
      have hown3 := hown2.past hl6 hp
      have hl7 := hl5.trans hl6
      have hs2 := hl7.2.2.size
      have hil := ints_length l
      have HL2 : Hid ((l ++ [z]).all nOkC = true) := by
        show _ = true
        rw [List.all_append, HL.out]
        simpa using cellL_ok z hz
      clear c2 hown2 hl5 hl6 hz
      go_wp2_with (at_builtin; refine wpList_snocV rfl (.tmp 13) (.tmp 17) 24 rfl w.heap.size 3 Try.underlying24 (.int .i64 0) 8 Try.info3 rfl _ (ints l) rfl hown3 (.int .i64 z) rfl rfl (by omega) (by omega) (by omega) ?_; intro v' w4 hown' hne' hbel' hsz')
      go_roundw
      case rel =>
        try ((repeat apply Exists.intro); refine ⟨?_, rfl⟩)
        exact ⟨⟨k + 1, l ++ [z], by omega, by go_num, by simp; omega, by simp; omega, HL2, by simpa [ints] using hown', hl7.below (hbel' _ (Below.refl _ _)) hp⟩⟩
      case measure => simp [intOf]; omega
    · go_wp2
      go_ret
      exact ⟨_, l, rfl, by omega, by omega, HL.out, hown1, hl4⟩
/-- How long a slice is. -/
def lenV : Value → Nat
  | .slice _ n _ => n
  | _ => 0
theorem OwnV.lenV {w : World} {base : Nat} {e : TypeId} {v : Value} {xs : List Value} (h : OwnV w base e v xs) : Go.Proofs.Ytogfkbkfcelgcab.lenV v = xs.length := by
  obtain ⟨a, cap, rfl, _⟩ := h.shape
  rfl

theorem own_set0 {w : World} {base : Nat} {e : TypeId} {v : Value} {l : List Int} (h : OwnV w base e v (ints l)) (hk : 0 < l.length) (z : Int) :
    ∃ g cap x, v = .slice (some ⟨g, 0, none⟩) l.length cap ∧ w.cell? ⟨g, 0, none⟩ = some x ∧ w.frozen? ⟨g, 0, none⟩ = false ∧ base ≤ g ∧
      OwnV (w.setCell ⟨g, 0, none⟩ (.int .i64 z)) base e v (ints (l.set 0 z)) := by
  obtain ⟨a, cap, hv, hc⟩ := h.shape
  rw [ints_length] at hv
  obtain ⟨g, ha, hcell, hfr, hb, _⟩ := hc 0 (by rw [ints_length]; exact hk)
  subst ha
  subst hv
  refine ⟨g, cap, _, rfl, hcell, hfr, hb, ?_⟩
  have hs := (h.stored (by rw [ints_length]) 0 (.int .i64 z)).1
  have e2 : (ints l).set 0 (.int .i64 z) = ints (l.set 0 z) := by simp [ints, List.map_set]
  rw [e2] at hs
  exact hs

set_option maxHeartbeats 2000000 in
theorem l05Any_any (w : World) (p : Nat) (ca : Option Addr) (n cap : Nat) (hc : Cur w p ca n cap) (hcode : CodeAt w ca n p) (hn : n ≤ 1048576) :
    Calls Try.prog 58 #[.pointer (some ⟨p, 0, none⟩)] w fun e w' => ∃ (v : Value) (l : List Int), e = .returned v ∧ l.length ≤ 81 ∧ OwnV w' w.heap.size 3 v (ints l) ∧ Left w w' p ca n cap := by
  have hp := hc.lt
  have c1 := l05Cells_any w p ca n cap hc hcode hn
  clear hc hcode
  go_enter Try.func58, Try.ntmps58
  go_wp2_with fail
  refine c1.mono ?_
  rintro e w1 ⟨v1, l, rfl, h1, h6, _, hown1, hl1⟩
  have c2 := below_any w1 p ca n cap 10 hl1.1 hl1.2.1 hn (by omega) (by omega)
  clear c1
  go_wp2_with fail
  refine c2.mono ?_
  rintro e w2 ⟨x, hx, _, rfl, hl2⟩
  have hx2 := hx (by omega)
  have hown2 := hown1.past hl2 hp
  have hl3 := hl1.trans hl2
  have hs2 := hl3.2.2.size
  clear c2 hx hown1 hl1 hl2
  by_cases h0 : x = 0
  · subst h0
    have hp1 : p < w2.heap.size := by omega
    have c3 := pickInt_any (w2.alloc (.cells (ints oddL).toArray 3)) p ca n cap w2.heap.size (.slice (some ⟨w2.heap.size, 0, none⟩) 4 4) oddL (hl3.1.alloc hp1 _) (hl3.2.1.alloc _) hn
      (World.ownsRow_lit (base := w2.heap.size) (e := 3) (size := 1) w2 (ints oddL).toArray 4 (Nat.le_refl _) (by simp [maxLen]) (by rfl)) hp1 (by decide) (by decide)
    have hown3 := hown2.alloc (.cells (ints oddL).toArray 3)
    have hl4 := hl3.plus hp (.cells (ints oddL).toArray 3)
    clear hown2 hl3
    go_wp2_with fail
    refine c3.mono ?_
    rintro e w3 ⟨z, _, rfl, hl5⟩
    have hown4 := hown3.past hl5 hp
    have hl6 := hl4.trans hl5
    obtain ⟨g, cp, u, hv, hcell, hfr, hgb, hset⟩ := own_set0 hown4 (by omega) z
    have hl7 := hl6.set hp (A := ⟨g, 0, none⟩) hgb (.int .i64 z)
    rw [hv] at hset
    have HS : Hid (OwnV (w3.setCell ⟨g, 0, none⟩ (.int .i64 z)) w.heap.size 3 (.slice (some ⟨g, 0, none⟩) l.length cp) (ints (l.set 0 z)) ∧ Left w (w3.setCell ⟨g, 0, none⟩ (.int .i64 z)) p ca n cap) := ⟨hset, hl7⟩
    have hi2 : (0 : Int) < (l.length : Int) := by omega
    subst hv
    clear hset hl7 hown4 hown3 hl4 hl5 hl6 c3 hgb
    go_wp2
    go_ret
    exact ⟨_, l.set 0 z, rfl, by simp; omega, HS.out.1, HS.out.2⟩
  by_cases hx1 : x = 1
  · subst hx1
    have hl4 := hl3.plus hp (.cells #[] 3)
    have hmade : OwnV (w2.alloc (.cells #[] 3)) w.heap.size 3 (.slice (some ⟨w2.heap.size, 0, none⟩) 0 0) (ints []) := World.ownsRow_made w2 #[] 0 hs2 (by simp [maxLen]) (by simp)
    go_wp2
    go_ret
    exact ⟨_, [], rfl, by simp, hmade, hl4⟩
  by_cases hx3 : x = 2
  · subst hx3
    clear h0 hx1
    have HL6 : Hid (l.length ≤ 81) := by show _ ≤ _; omega
    go_wp2
    go_loopw [3] (fun v wr => Box (∃ (l : List Int), l.length ≤ 81 ∧ OwnV wr w.heap.size 3 v (ints l) ∧ Left w wr p ca n cap))
      (fun v _ => 81 - lenV v)
    case atStart => exact ⟨⟨l, HL6.out, hown2, hl3⟩⟩
    case round =>
      obtain ⟨m, hm, hown, hleft⟩ := hrel.out
      clear hrel hown2 hl3 h1 h6
      obtain ⟨am, cm, rfl, _⟩ := hown.shape
      have hil := ints_length m
      rw [hil] at hown ⊢
      have c4 := below_any wr p ca n cap 2 hleft.1 hleft.2.1 hn (by omega) (by omega)
      go_wp2_with fail
      refine c4.mono ?_
      rintro e w3 ⟨y, hy, _, rfl, hl4⟩
      have hy2 := hy (by omega)
      have hown3 := hown.past hl4 hp
      have hl5 := hleft.trans hl4
      have hs3 := hl5.2.2.size
      clear c4 hy hown hleft hl4
      by_cases hlt : (m.length : Int) < 80 + (y : Int)
      · go_wp2_with (at_builtin; refine wpList_snocV rfl (.tmp 26) (.tmp 27) 24 rfl w.heap.size 3 Try.underlying24 (.int .i64 0) 8 Try.info3 rfl _ (ints m) rfl hown3 (.int .i64 5) rfl rfl (by omega) (by omega) (by omega) ?_; intro v' w4 hown' hne' hbel' hsz')
        have hlv := hown'.lenV
        go_roundw
        case rel =>
          try ((repeat apply Exists.intro); refine ⟨?_, rfl⟩)
          exact ⟨⟨m ++ [5], by simp; omega, by simpa [ints] using hown', hl5.below (hbel' _ (Below.refl _ _)) hp⟩⟩
        case measure =>
          rw [List.length_append, hil] at hlv
          simp only [List.length_cons, List.length_nil] at hlv
          have e1 : Go.Proofs.Ytogfkbkfcelgcab.lenV (Value.slice am m.length cm) = m.length := rfl
          rw [hlv, e1]
          omega
      · go_wp2
        go_ret
        exact ⟨_, m, rfl, hm, hown3, hl5⟩
  · have d0 : decide ((x : Int) = 0) = false := decide_eq_false (by omega)
    have d1 : decide ((x : Int) = 1) = false := decide_eq_false (by omega)
    have d2 : decide ((x : Int) = 2) = false := decide_eq_false (by omega)
    go_wp2
    go_ret
    exact ⟨_, l, rfl, by omega, hown2, hl3⟩
end Go.Proofs.Ytogfkbkfcelgcab
