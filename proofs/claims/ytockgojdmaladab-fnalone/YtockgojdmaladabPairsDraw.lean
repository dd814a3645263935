/- Pairs whose keys go up: drawn. -/
import Derived.Test.YtockgojdmaladabDraws
import Derived.Test.YtockgojdmaladabDrawTurn
import Derived.Test.YtockgojdmaladabTaskLaw
import Derived.Test.YtockgojdmaladabPairsPlain
namespace Go.Proofs.Ytockgojdmaladab
open Go.RowKit Go.Sort

/-- What stands while pairs are drawn. -/
structure Lp (w0 : World) (p : Nat) (ca : Option Addr) (n cap : Nat) (v : Value) (L : List (Int × Int)) (wi : World) : Prop where
  left : Left w0 wi p ca n cap
  hp : p < w0.heap.size
  own : OwnP wi w0.heap.size 46 v L
  nice : NiceP L
theorem Lp.go {w0 : World} {p : Nat} {ca : Option Addr} {n cap : Nat} {v : Value} {L : List (Int × Int)} {wi wj : World} (h : Lp w0 p ca n cap v L wi) (hl : Left wi wj p ca n cap) : Lp w0 p ca n cap v L wj :=
  have hp := h.hp
  ⟨h.left.trans hl, hp, h.own.grown hl.2.2 (fun q hq e => by have := (h.own.lt q hq).1; simp at e; omega), h.nice⟩
theorem Lp.next {w0 : World} {p : Nat} {ca : Option Addr} {n cap : Nat} {v : Value} {L : List (Int × Int)} {wi wj : World} (h : Lp w0 p ca n cap v L wi) (hb : Below wi.heap.size wi wj) : Lp w0 p ca n cap v L wj :=
  ⟨h.left.below (hb.mono h.left.2.2.size) h.hp, h.hp, h.own.below hb (Nat.le_refl _), h.nice⟩

set_option maxRecDepth 100000 in
set_option maxHeartbeats 4000000 in
theorem l07Pairs_any (w : World) (p : Nat) (ca : Option Addr) (n cap : Nat) (hc : Cur w p ca n cap) (hcode : CodeAt w ca n p) (hn : n ≤ 1048576) :
    Calls Try.prog 64 #[.pointer (some ⟨p, 0, none⟩)] w fun e w' => ∃ (v : Value) (L : List (Int × Int)), e = .returned v ∧ L.length ≤ 4 ∧ NiceP L ∧ OwnP w' w.heap.size 46 v L ∧ Left w w' p ca n cap := by
  have hp := hc.lt
  have H0 : Lp w p ca n cap (.slice (some ⟨w.heap.size, 0, none⟩) 0 0) [] (w.alloc (.cells #[] 46)) := ⟨(Left.refl hc hcode).plus hp _, hp, ownP_empty w, NiceP.nil⟩
  clear hc hcode
  go_enter Try.func64, Try.ntmps64
  go_wp2
  go_loopw [3, 4] (fun u i wr => Box (∃ (k : Nat) (L : List (Int × Int)), k ≤ 4 ∧ i = .int .i64 k ∧ L.length ≤ k ∧ Lp w p ca n cap u L wr))
    (fun _ i _ => 4 - (intOf i).toNat)
  case atStart => exact ⟨⟨0, [], by omega, rfl, by simp, H0⟩⟩
  case round =>
    obtain ⟨k, L, hk, rfl, hk1, H⟩ := hrel.out
    clear hrel H0
    have c1 := below_any wr p ca n cap 5 H.left.1 H.left.2.1 hn (by omega) (by omega)
    go_wp2_with fail
    refine c1.mono ?_
    rintro e w2 ⟨x, hx, _, rfl, hl2⟩
    have hx2 := hx (by omega)
    have H2 := H.go hl2
    clear c1 H hx hl2
    by_cases hlt : (k : Int) < (x : Int)
    · have c3 := below_any w2 p ca n cap 6 H2.left.1 H2.left.2.1 hn (by omega) (by omega)
      go_wp2_with fail
      refine c3.mono ?_
      rintro e w4 ⟨y, hy, _, rfl, hl4⟩
      have hy2 := hy (by omega)
      have H4 := H2.go hl4
      clear c3 H2 hy hl4
      have c5 := below_any w4 p ca n cap 9 H4.left.1 H4.left.2.1 hn (by omega) (by omega)
      go_wp2_with fail
      refine c5.mono ?_
      rintro e w6 ⟨z, hz, _, rfl, hl6⟩
      have hz2 := hz (by omega)
      have H6 := H4.go hl6
      clear c5 H4 hz hl6
      have c7 := specTaskNew_any 2 (1 + (y : Int)) z 1 w6
      unfold tcs at c7
      go_wp2_with fail
      refine c7.mono ?_
      rintro e w8 ⟨rfl, hb8⟩
      have H8 := H6.next hb8
      clear c7 H6 hb8
      obtain ⟨s, hs⟩ : ∃ s, Tk.new 2 (1 + (y : Int)) z 1 = s := ⟨_, rfl⟩
      have hs1 : s.key = 1 + (y : Int) := by rw [← hs]; rfl
      have hs2 : s.val = (z : Int) := by rw [← hs]; rfl
      rw [hs]
      obtain ⟨av, cv, hv, hI⟩ := H8.own.at
      have c9 := specDoTask_any w8 av cv L s hI (by omega)
      rw [doT_nice H8.nice] at c9
      have hnn := doP_nice H8.nice s.kind s.key s.val (by omega) (by omega)
      have hln := doP_length L s.kind s.key s.val
      obtain ⟨M, an, hM⟩ : ∃ M an, doP L s.kind s.key s.val = (M, an) := ⟨_, _, rfl⟩
      rw [hM] at c9 hnn hln
      dsimp only at c9 hnn hln
      subst hv
      unfold tcs at c9
      have HH : Hid (Lp w p ca n cap (.slice av L.length cv) L w8 ∧ NiceP M ∧ M.length ≤ L.length + 1) := ⟨H8, hnn, hln⟩
      clear hs hs1 hs2 hI hM H8 hnn hln
      go_wp2_with fail
      refine c9.mono ?_
      rintro e w10 ⟨v10, rfl, ho10, hb10⟩
      clear c9
      obtain ⟨H8, hnn, hln⟩ := HH.out
      have H9 := H8.next hb10
      have H10 : Lp w p ca n cap v10 M w10 := ⟨H9.left, H9.hp, ho10.mono H8.left.2.2.size, hnn⟩
      clear H9 H8 hb10 ho10 hnn HH
      go_wp2
      go_roundw
      case rel =>
        try ((repeat apply Exists.intro); refine ⟨?_, rfl⟩)
        exact ⟨⟨k + 1, M, by omega, by go_num, by omega, H10⟩⟩
      case measure => simp [intOf]; omega
    · have HX : Hid (L.length ≤ 4) := by show _ ≤ _; omega
      go_wp2
      go_ret
      exact ⟨_, L, rfl, HX.out, H2.nice, H2.own, H2.left⟩
set_option maxHeartbeats 2000000 in
theorem drawPairs_any (w : World) (ca : Option Addr) (n cap : Nat) (hcode : CodeAt w ca n w.heap.size) (hn : n ≤ 1048576) :
    Calls Try.prog 24 #[.slice ca n cap] w fun e w' => ∃ (v : Value) (L : List (Int × Int)), e = .returned v ∧ L.length ≤ 4 ∧ NiceP L ∧ OwnP w' w.heap.size 46 v L ∧ Below w.heap.size w w' := by
  have c1 := new_any w ca n cap hcode hn
  clear hcode
  go_enter Try.func24, Try.ntmps24
  go_wp2_with fail
  refine c1.mono ?_
  rintro e w2 ⟨p, rfl, hp1, hp2, hcur, hcd, hb2⟩
  have c2 := l07Pairs_any w2 p ca n cap hcur hcd hn
  clear c1 hcur hcd
  go_wp2_with fail
  refine c2.mono ?_
  rintro e w3 ⟨v, L, rfl, hL, hnice, hown, hl3⟩
  have HO : Hid (L.length ≤ 4 ∧ NiceP L ∧ OwnP w3 w.heap.size 46 v L ∧ Below w.heap.size w w3) := ⟨hL, hnice, hown.mono hb2.size, below_of_left hb2 (by omega) hl3⟩
  clear c2 hL hnice hown hl3
  go_wp2
  go_ret
  exact ⟨_, L, rfl, HO.out⟩
end Go.Proofs.Ytockgojdmaladab
