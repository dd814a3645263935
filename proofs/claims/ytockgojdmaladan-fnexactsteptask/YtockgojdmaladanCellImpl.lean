/- The walks over cells: the program's. -/
import Derived.Test.YtockgojdmaladanCellRows
import Derived.Test.YtockgojdmaladanCellPlain
namespace Go.Proofs.Ytockgojdmaladan
open Go.RowKit Go.Sort

theorem numberOk_any (n : Int) (w : World) :
    Calls Try.prog 48 #[.int .i64 n] w fun e w' => e = .returned (.bool (nOkC n)) ∧ w' = w := by
  unfold nOkC
  by_cases h1 : 0 ≤ n
  · have d1 : decide ((0 : Int) ≤ n) = true := decide_eq_true h1
    by_cases h2 : n ≤ 1000000000
    · rw [decide_eq_true (show 0 ≤ n ∧ n ≤ 1000000000 from ⟨h1, h2⟩)]
      have d2 : decide (n ≤ 1000000000) = true := decide_eq_true h2
      go_enter Try.func48, Try.ntmps48
      go_wp2
      go_ret
      exact ⟨rfl, rfl⟩
    · rw [decide_eq_false (show ¬ (0 ≤ n ∧ n ≤ 1000000000) by omega)]
      have d2 : decide (n ≤ 1000000000) = false := decide_eq_false h2
      go_enter Try.func48, Try.ntmps48
      go_wp2
      go_ret
      exact ⟨rfl, rfl⟩
  · rw [decide_eq_false (show ¬ (0 ≤ n ∧ n ≤ 1000000000) by omega)]
    have d1 : decide ((0 : Int) ≤ n) = false := decide_eq_false h1
    go_enter Try.func48, Try.ntmps48
    go_wp2
    go_ret
    exact ⟨rfl, rfl⟩

/-- What a call has of the cells: their rows, and the variable that holds them. -/
structure Cl (w0 : World) (C g m : Nat) (s : Nat) (f : Nat → Int) (wi : World) : Prop where
  at_ : CAt wi g m f
  box : CBox wi C (.slice (some ⟨g, 0, none⟩) m m) (.int .i64 s)
  gge : w0.heap.size ≤ g
  hs : s ≤ m * 80
  hm : m ≤ 1048576
  bel : Below w0.heap.size w0 wi
theorem Cl.next {w0 wi wj : World} {C g m s : Nat} {f : Nat → Int} (h : Cl w0 C g m s f wi) (hb : Below wi.heap.size wi wj) : Cl w0 C g m s f wj :=
  ⟨h.at_.on hb, h.box.on hb, h.gge, h.hs, h.hm, h.bel.trans (hb.mono h.bel.size)⟩
theorem Cl.set {w0 wi : World} {C g m s : Nat} {f : Nat → Int} (h : Cl w0 C g m s f wi) (j : Nat) (z : Int) : Cl w0 C g m s (fun i => if i = j then z else f i) (wi.setCell ⟨g, j, none⟩ (.int .i64 z)) :=
  ⟨h.at_.set j z, h.box.other (A := ⟨g, j, none⟩) (h.box.ne h.at_) _, h.gge, h.hs, h.hm, h.bel.setCell (p := ⟨g, j, none⟩) h.gge _⟩
theorem Cl.new {w0 w1 : World} {g m s : Nat} {f : Nat → Int} (h : CAt w1 g m f) (hg : w0.heap.size ≤ g) (hs : s ≤ m * 80) (hm : m ≤ 1048576) (hb : Below w0.heap.size w0 w1) :
    Cl w0 w1.heap.size g m s f (w1.alloc (.cells #[.slice (some ⟨g, 0, none⟩) m m, .int .i64 s] 48)) :=
  ⟨h.on ((Below.refl _ _).alloc (Nat.le_refl _) _), CBox.new _ _ _, hg, hs, hm, hb.alloc hb.size _⟩
theorem Cl.list {w0 wi : World} {C g m s : Nat} {f : Nat → Int} (h : Cl w0 C g m s f wi) (hs2 : s ≤ 1048576) (r : List Int) (hr : (List.range s).map f = r) :
    Calls Try.prog 35 #[.agg #[.slice (some ⟨g, 0, none⟩) m m, .int .i64 s]] wi fun e w' => ∃ v, e = .returned v ∧ OwnV w' w0.heap.size 3 v (ints r) ∧ Below w0.heap.size w0 w' :=
  (cellsList_any wi g m f s h.at_ h.hs h.hm hs2).mono (by
    rintro e w' ⟨v, rfl, ho, hb⟩
    rw [hr] at ho
    exact ⟨v, rfl, ho.mono h.bel.size, h.bel.trans (hb.mono h.bel.size)⟩)

set_option maxHeartbeats 1000000 in
theorem implOk_any (w : World) (a : Option Addr) (cap : Nat) (l : List Int) (hL : IAt w a l w.heap.size) (hm : l.length ≤ 1048576) :
    Calls Try.prog 33 #[.slice a l.length cap] w fun e w' => e = .returned (.bool (okC l)) ∧ w' = w := by
  by_cases h1 : l.length < 1
  · rw [okC_short h1]
    have d1 : decide ((l.length : Int) < 1) = true := decide_eq_true (by omega)
    go_enter Try.func33, Try.ntmps33
    go_wp2
    go_ret
    exact ⟨rfl, rfl⟩
  · by_cases h2 : 80 < l.length
    · rw [okC_long h2]
      have d1 : decide ((l.length : Int) < 1) = false := decide_eq_false (by omega)
      have d2 : decide (80 < (l.length : Int)) = true := decide_eq_true (by omega)
      go_enter Try.func33, Try.ntmps33
      go_wp2
      go_ret
      exact ⟨rfl, rfl⟩
    · have d1 : decide ((l.length : Int) < 1) = false := decide_eq_false (by omega)
      have d2 : decide (80 < (l.length : Int)) = false := decide_eq_false (by omega)
      go_enter Try.func33, Try.ntmps33
      go_wp2
      go_loopw [15] (fun i wr => Box (∃ (k : Nat), k ≤ l.length ∧ i = .int .i64 k ∧ (l.take k).all nOkC = true ∧ w = wr))
        (fun i _ => l.length - (intOf i).toNat)
      case atStart => exact ⟨⟨0, by omega, rfl, rfl, rfl⟩⟩
      case round =>
        obtain ⟨k, hk, rfl, hall, rfl⟩ := hrel.out
        have HA : Hid ((l.take k).all nOkC = true) := hall
        clear hrel hall d1 d2
        by_cases hlt : k < l.length
        · obtain ⟨g, off, rfl, _, hc⟩ := hL k hlt
          obtain ⟨x, hx⟩ : ∃ x, l[k] = x := ⟨_, rfl⟩
          have HX : Hid (l[k] = x) := hx
          rw [hx] at hc
          have cN := numberOk_any x w
          have hi1 : (0 : Int) ≤ (k : Int) := by omega
          have hi2 : (k : Int) < (l.length : Int) := by omega
          clear hx
          cases hn : nOkC x with
          | false =>
            rw [hn] at cN
            go_wp2_with fail
            refine cN.mono ?_
            rintro e w1 ⟨rfl, rfl⟩
            go_wp2
            go_ret
            exact ⟨by rw [okC_bad hlt (by rw [HX.out]; exact hn)]; rfl, rfl⟩
          | true =>
            rw [hn] at cN
            go_wp2_with fail
            refine cN.mono ?_
            rintro e w1 ⟨rfl, rfl⟩
            go_wp2
            go_roundw
            case rel =>
              try ((repeat apply Exists.intro); refine ⟨?_, rfl⟩)
              exact ⟨⟨k + 1, by omega, by go_num, all_step hlt HA.out (by rw [HX.out]; exact hn), by first | rfl | trivial⟩⟩
            case measure => simp [intOf]; omega
        · go_wp2
          go_ret
          have hke : k = l.length := by omega
          subst hke
          exact ⟨by rw [okC_true (by omega) (by omega) (by simpa using HA.out)]; rfl, rfl⟩
end Go.Proofs.Ytockgojdmaladan
