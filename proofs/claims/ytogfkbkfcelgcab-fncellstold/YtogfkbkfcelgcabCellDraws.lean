/- The draws of the laws on cells. -/
import Derived.Test.YtogfkbkfcelgcabCellDraw
namespace Go.Proofs.Ytogfkbkfcelgcab
open Go.RowKit Go.Sort

theorem drawCells_any (w : World) (ca : Option Addr) (n cap : Nat) (hcode : CodeAt w ca n w.heap.size) (hn : n ≤ 1048576) :
    Calls Try.prog 10 #[.slice ca n cap] w fun e w' => ∃ (v : Value) (l : List Int), e = .returned v ∧ 1 ≤ l.length ∧ l.length ≤ 6 ∧ l.all nOkC = true ∧ OwnV w' w.heap.size 3 v (ints l) ∧ Below w.heap.size w w' := by
  have c1 := new_any w ca n cap hcode hn
  clear hcode
  go_enter Try.func10, Try.ntmps10
  go_wp2_with fail
  refine c1.mono ?_
  rintro e w1 ⟨p, rfl, hp1, hp2, hcur, hcd, hb1⟩
  have c2 := l05Cells_any w1 p ca n cap hcur hcd hn
  go_wp2_with fail
  refine c2.mono ?_
  rintro e w2 ⟨v, l, rfl, h1, h6, hall, ho, hl⟩
  have HA : Hid (l.all nOkC = true) := hall
  clear hall
  go_wp2
  go_ret
  exact ⟨v, l, rfl, h1, h6, HA.out, ho.mono hb1.size, below_of_left hb1 hp2 hl⟩

theorem drawCellsOk_any (w : World) (ca : Option Addr) (n cap : Nat) (hcode : CodeAt w ca n w.heap.size) (hn : n ≤ 1048576) :
    Calls Try.prog 22 #[.slice ca n cap] w fun e w' => ∃ (v : Value) (l : List Int), e = .returned v ∧ l.length ≤ 81 ∧ OwnV w' w.heap.size 3 v (ints l) ∧ Below w.heap.size w w' := by
  have c1 := new_any w ca n cap hcode hn
  clear hcode
  go_enter Try.func22, Try.ntmps22
  go_wp2_with fail
  refine c1.mono ?_
  rintro e w1 ⟨p, rfl, hp1, hp2, hcur, hcd, hb1⟩
  have c2 := l05Any_any w1 p ca n cap hcur hcd hn
  go_wp2_with fail
  refine c2.mono ?_
  rintro e w2 ⟨v, l, rfl, h1, ho, hl⟩
  go_wp2
  go_ret
  exact ⟨v, l, rfl, h1, ho.mono hb1.size, below_of_left hb1 hp2 hl⟩

def addL : List Int := [0, 5, -1, -2000000000, 2000000003, 9223372036854775807, -9223372036854775808]
set_option maxHeartbeats 1000000 in
theorem drawAddCell_any (w : World) (ca : Option Addr) (n cap : Nat) (hcode : CodeAt w ca n w.heap.size) (hn : n ≤ 1048576) :
    Calls Try.prog 17 #[.slice ca n cap] w fun e w' => ∃ (v : Value) (l : List Int) (p z : Int), e = .returned (.tuple #[v, .int .i64 p, .int .i64 z]) ∧ l.length ≤ 81 ∧ OwnV w' w.heap.size 3 v (ints l) ∧ Below w.heap.size w w' := by
  have c1 := new_any w ca n cap hcode hn
  clear hcode
  go_enter Try.func17, Try.ntmps17
  go_wp2_with fail
  refine c1.mono ?_
  rintro e w1 ⟨p, rfl, hp1, hp2, hcur, hcd, hb1⟩
  have c2 := l01Place_any w1 p ca n cap 5 hcur hcd hn (by omega) (by omega)
  clear hcur hcd c1
  go_wp2_with fail
  refine c2.mono ?_
  rintro e w2 ⟨q, hq1, hq2, rfl, hl2⟩
  have hs2 := hl2.2.2.size
  have hp3 : p < w2.heap.size := by omega
  have hb2 := below_of_left hb1 hp2 hl2
  have c3 := pickInt_any (w2.alloc (.cells (ints addL).toArray 3)) p ca n cap w2.heap.size (.slice (some ⟨w2.heap.size, 0, none⟩) 7 7) addL (hl2.1.alloc hp3 _) (hl2.2.1.alloc _) hn
    (World.ownsRow_lit (base := w2.heap.size) (e := 3) (size := 1) w2 (ints addL).toArray 7 (Nat.le_refl _) (by simp [maxLen]) (by rfl)) hp3 (by decide) (by decide)
  have hb3 : Below w.heap.size w (w2.alloc (.cells (ints addL).toArray 3)) := hb2.alloc hb2.size _
  clear hl2 c2 hb1
  go_wp2_with fail
  refine c3.mono ?_
  rintro e w3 ⟨z, _, rfl, hl3⟩
  have hb4 := below_of_left hb3 hp2 hl3
  have c4 := l05Any_any w3 p ca n cap hl3.1 hl3.2.1 hn
  clear hl3 c3 hb3 hb2
  go_wp2_with fail
  refine c4.mono ?_
  rintro e w4 ⟨v, l, rfl, h1, ho, hl4⟩
  go_wp2
  go_ret3
  exact ⟨v, l, q, z, rfl, h1, ho.mono hb4.size, below_of_left hb4 hp2 hl4⟩

def swapL : List Int := [0, 5, -1, 1000000000]
set_option maxHeartbeats 1000000 in
theorem drawSwapCell_any (w : World) (ca : Option Addr) (n cap : Nat) (hcode : CodeAt w ca n w.heap.size) (hn : n ≤ 1048576) :
    Calls Try.prog 20 #[.slice ca n cap] w fun e w' => ∃ (v : Value) (l : List Int) (p o z : Int), e = .returned (.tuple #[v, .int .i64 p, .int .i64 o, .int .i64 z]) ∧ l.length ≤ 81 ∧ OwnV w' w.heap.size 3 v (ints l) ∧ Below w.heap.size w w' := by
  have c1 := new_any w ca n cap hcode hn
  clear hcode
  go_enter Try.func20, Try.ntmps20
  go_wp2_with fail
  refine c1.mono ?_
  rintro e w1 ⟨p, rfl, hp1, hp2, hcur, hcd, hb1⟩
  have c2 := below_any w1 p ca n cap 4 hcur hcd hn (by omega) (by omega)
  clear hcur hcd c1
  go_wp2_with fail
  refine c2.mono ?_
  rintro e w2 ⟨q, hq1, _, rfl, hl2⟩
  have hs2 := hl2.2.2.size
  have hp3 : p < w2.heap.size := by omega
  have hb2 := below_of_left hb1 hp2 hl2
  have c3 := pickInt_any (w2.alloc (.cells (ints swapL).toArray 3)) p ca n cap w2.heap.size (.slice (some ⟨w2.heap.size, 0, none⟩) 4 4) swapL (hl2.1.alloc hp3 _) (hl2.2.1.alloc _) hn
    (World.ownsRow_lit (base := w2.heap.size) (e := 3) (size := 1) w2 (ints swapL).toArray 4 (Nat.le_refl _) (by simp [maxLen]) (by rfl)) hp3 (by decide) (by decide)
  have hb3 : Below w.heap.size w (w2.alloc (.cells (ints swapL).toArray 3)) := hb2.alloc hb2.size _
  have hq2 := hq1 (by omega)
  clear hl2 c2 hb1 hq1
  go_wp2_with fail
  refine c3.mono ?_
  rintro e w3 ⟨z, _, rfl, hl3⟩
  have hb4 := below_of_left hb3 hp2 hl3
  have c4 := below_any w3 p ca n cap 3 hl3.1 hl3.2.1 hn (by omega) (by omega)
  clear hl3 c3 hb3 hb2
  go_wp2_with fail
  refine c4.mono ?_
  rintro e w4 ⟨k, hk1, _, rfl, hl4⟩
  have hb5 := below_of_left hb4 hp2 hl4
  have hk2 := hk1 (by omega)
  have c5 := l05Any_any w4 p ca n cap hl4.1 hl4.2.1 hn
  clear hl4 c4 hb4 hk1
  go_wp2_with fail
  refine c5.mono ?_
  rintro e w5 ⟨v, l, rfl, h1, ho, hl5⟩
  have hb6 := below_of_left hb5 hp2 hl5
  have ho6 := ho.mono hb5.size
  obtain ⟨av, cv, rfl, hI⟩ := ho6.ints
  clear c5 ho hl5 hb5
  by_cases hk0 : 0 < k
  · have d0 : decide ((0 : Int) < (k : Int)) = true := decide_eq_true (by omega)
    by_cases hql : q < l.length
    · have d1 : decide ((q : Int) < (l.length : Int)) = true := decide_eq_true (by omega)
      obtain ⟨g, off, rfl, _, hc⟩ := hI q hql
      obtain ⟨x, hx⟩ : ∃ x, l[q] = x := ⟨_, rfl⟩
      rw [hx] at hc
      have hi1 : (0 : Int) ≤ (q : Int) := by omega
      have hi2 : (q : Int) < (l.length : Int) := by omega
      clear hx hI
      go_wp2
      go_quiet (fail)
      go_wp2
      refine bodyPost_ret (v := .tuple #[.slice (some ⟨g, off, none⟩) l.length cv, .int .i64 q, .int .i64 x, .int .i64 z]) (by simp [results, Try.results20, go_sem]) rfl ⟨_, l, q, x, z, rfl, h1, ho6.kept (fun _ _ => rfl), hb6.trans ⟨rfl, rfl, rfl, Nat.le_refl _, fun _ _ => rfl⟩⟩
    · have d1 : decide ((q : Int) < (l.length : Int)) = false := decide_eq_false (by omega)
      go_wp2
      refine bodyPost_ret (v := .tuple #[.slice av l.length cv, .int .i64 q, .int .i64 7, .int .i64 z]) (by simp [results, Try.results20, go_sem]) rfl ⟨_, l, q, 7, z, rfl, h1, ho6, hb6⟩
  · have d0 : decide ((0 : Int) < (k : Int)) = false := decide_eq_false (by omega)
    go_wp2
    refine bodyPost_ret (v := .tuple #[.slice av l.length cv, .int .i64 q, .int .i64 7, .int .i64 z]) (by simp [results, Try.results20, go_sem]) rfl ⟨_, l, q, 7, z, rfl, h1, ho6, hb6⟩
end Go.Proofs.Ytogfkbkfcelgcab
