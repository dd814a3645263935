/- The law on lines, walked. -/
import Derived.Test.YtlefccgdeafinadHeadDraws
import Derived.Test.YtlefccgdeafinadLinesPlain
import Derived.Test.YtlefccgdeafinadTargetSpec
import Derived.Test.YtlefccgdeafinadTargetImpl
import Derived.Test.YtlefccgdeafinadStatusSpec
import Derived.Test.YtlefccgdeafinadStatusImpl
import Derived.Test.YtlefccgdeafinadDecimal
import Derived.Test.YtlefccgdeafinadDrawTurn
import Derived.Test.YtlefccgdeafinadBig
namespace Go.Proofs.Ytlefccgdeafinad
open Go.RowKit Go.Sort
theorem nil_DAt (w : World) : DAt w none [] w.heap.size := fun j hj => by simp at hj
set_option maxRecDepth 100000 in
set_option maxHeartbeats 8000000 in
theorem lines_walk (ca : Option Addr) (n cap : Nat) (w : World) (hcode : CodeAt w ca n w.heap.size) (hlen : n ≤ maxLen) :
    Calls Try.prog 3 #[.slice ca n cap] w fun e w' => e = .returned (.bool true) ∧ Below w.heap.size w w' := by
  unfold maxLen at hlen
  have cb := big_any ca n cap w hlen
  by_cases hn : n ≤ 1048576
  case neg =>
    rw [show decide (1048576 < n) = true by simp; omega] at cb
    go_enter Try.func3, Try.ntmps3
    go_wp2_with fail
    refine cb.mono ?_
    rintro e w' ⟨rfl, rfl⟩
    go_wp2_with fail
    go_ret
    exact ⟨rfl, Below.refl _ _⟩
  rw [show decide (1048576 < n) = false by simp; omega] at cb
  have c1 := drawTargetOf_any w ca n cap hcode hn
  have C2 : Hid (∀ w', Below w.heap.size w w' → Calls Try.prog 10 #[.slice ca n cap] w' fun e w'' => ∃ (v : Value) (l : List Int), e = .returned v ∧ l.length = 12 ∧ (∀ z ∈ l, 0 ≤ z ∧ z < 10000) ∧ OwnV w'' w'.heap.size 3 v (ints l) ∧ Below w'.heap.size w' w'') := by
    intro w' hb
    refine drawPlaces_any w' ca n cap (fun j hj => ?_) hn
    obtain ⟨b, off, z, h1, h2, h3, h4⟩ := hcode j hj
    exact ⟨b, off, z, h1, Nat.lt_of_lt_of_le h2 hb.size, (hb.cell (p := ⟨b, off + j, none⟩) h2).trans h3, h4⟩
  clear hcode
  go_enter Try.func3, Try.ntmps3
  go_wp2_with fail
  refine cb.mono ?_
  rintro e w' ⟨rfl, rfl⟩
  clear cb
  go_wp2_with fail
  refine c1.mono ?_
  rintro e w1 ⟨line, v, L, rfl, hsm, ho1, hb1⟩
  clear c1
  have hz := hsm.sz
  obtain ⟨a, c, rfl, hA1⟩ := ho1.at
  obtain ⟨w2, hw2⟩ : ∃ x, w1.alloc (.cells #[.string line, .slice a L.length c] 26) = x := ⟨_, rfl⟩
  have hb2 : Below w1.heap.size w1 w2 := by rw [← hw2]; exact (Below.refl _ _).alloc (Nat.le_refl _) _
  have hK2 : HBx w2 w1.heap.size 26 (.string line) (.slice a L.length c) := by rw [← hw2]; exact HBx.new _ _ _ _
  have hA2 := hA1.on hb2
  have HB : Hid (∀ wi, Below w2.heap.size w2 wi → (wi.cell? ⟨w1.heap.size, 0, none⟩ = some (.string line) ∧ wi.cell? ⟨w1.heap.size, 1, none⟩ = some (.slice a L.length c)) ∧ DAt wi a L wi.heap.size ∧ Below w.heap.size w wi) := fun wi hi => ⟨(hK2.on hi).cells, hA2.on hi, hb1.trans ((hb2.trans (hi.mono hb2.size)).mono hb1.size)⟩
  have HW2 : Hid (w1.alloc (.cells #[.string line, .slice a L.length c] 26) = w2) := hw2
  obtain ⟨TS, hTS⟩ : ∃ T, (targetS line).1 = T := ⟨_, rfl⟩
  obtain ⟨TB, hTB⟩ : ∃ T, (targetS line).2 = T := ⟨_, rfl⟩
  obtain ⟨SN, hSN⟩ : ∃ T, (statusS line).1 = T := ⟨_, rfl⟩
  obtain ⟨SB, hSB⟩ : ∃ T, (statusS line).2 = T := ⟨_, rfl⟩
  have CTI : Hid (∀ wi, DAt wi a L wi.heap.size → Calls Try.prog 6 #[.agg #[.string line, .slice a L.length c]] wi fun e w' => e = .returned (.tuple #[.string TS, .bool TB]) ∧ Below wi.heap.size wi w') := by intro wi h; rw [← hTS, ← hTB]; exact implTargetOf_any wi a c line L h hz
  have CTS : Hid (∀ wi, DAt wi a L wi.heap.size → Calls Try.prog 7 #[.agg #[.string line, .slice a L.length c]] wi fun e w' => e = .returned (.tuple #[.string TS, .bool TB]) ∧ Below wi.heap.size wi w') := by intro wi h; rw [← hTS, ← hTB]; exact specTargetOf_any wi a c line L h hz
  have CSI : Hid (∀ wi, DAt wi a L wi.heap.size → Calls Try.prog 8 #[.agg #[.string line, .slice a L.length c]] wi fun e w' => e = .returned (.tuple #[.int .i64 SN, .bool SB]) ∧ Below wi.heap.size wi w') := by intro wi h; rw [← hSN, ← hSB]; exact implStatusOf_any wi a c line L h hz
  have CSS : Hid (∀ wi, DAt wi a L wi.heap.size → Calls Try.prog 9 #[.agg #[.string line, .slice a L.length c]] wi fun e w' => e = .returned (.tuple #[.int .i64 SN, .bool SB]) ∧ Below wi.heap.size wi w') := by intro wi h; rw [← hSN, ← hSB]; exact specStatusOf_any wi a c line L h hz
  obtain ⟨⟨x0, x1⟩, hA, _⟩ := HB.out w2 (Below.refl _ _)
  have cc := CTI.out w2 hA
  rw [← hw2] at x0 x1
  clear hTS hTB hSN hSB hw2 hK2 hA1 hA2 ho1 hsm hA hb2 hb1 hz
  go_wp2_with fail
  rw [HW2.out] at x0 x1 ⊢
  refine cc.mono ?_
  rintro e w3 ⟨rfl, hb3⟩
  clear cc x0 x1
  obtain ⟨⟨x0, x1⟩, hA, _⟩ := HB.out w3 hb3
  have cc := CTS.out w3 hA
  go_wp2_with fail
  refine cc.mono ?_
  rintro e w4 ⟨rfl, hb4⟩
  have hb24 := hb3.trans (hb4.mono hb3.size)
  clear cc x0 x1 hA hb3 hb4
  obtain ⟨⟨x0, x1⟩, hA, _⟩ := HB.out w4 hb24
  have cc := CSI.out w4 hA
  go_wp2_with fail
  refine cc.mono ?_
  rintro e w5 ⟨rfl, hb5⟩
  have hb25 := hb24.trans (hb5.mono hb24.size)
  clear cc x0 x1 hA hb5 hb24
  obtain ⟨⟨x0, x1⟩, hA, _⟩ := HB.out w5 hb25
  have cc := CSS.out w5 hA
  go_wp2_with fail
  refine cc.mono ?_
  rintro e w6 ⟨rfl, hb6⟩
  have hb26 := hb25.trans (hb6.mono hb25.size)
  clear cc x0 x1 hA hb6 hb25 CTI CTS CSI CSS
  obtain ⟨_, _, hbw6⟩ := HB.out w6 hb26
  go_wp2_with fail
  refine (C2.out w6 hbw6).mono ?_
  rintro e w7 ⟨v7, l, rfl, hl, hlz, hown, hb7⟩
  have hbw7 := hbw6.trans (hb7.mono hbw6.size)
  obtain ⟨pa, pc, rfl, hcells⟩ := hown.shape
  obtain ⟨g, rfl, hz0, _, _, hg⟩ := hcells 0 (by rw [ints_length]; omega)
  obtain ⟨g', hgg, hz1, _, _, _⟩ := hcells 1 (by rw [ints_length]; omega)
  simp only [Option.some.injEq, Addr.mk.injEq, and_true] at hgg
  subst hgg
  rw [ints_at (by omega)] at hz0 hz1
  obtain ⟨q0, hq0⟩ : ∃ x, l[0] = x := ⟨_, rfl⟩
  obtain ⟨q1, hq1⟩ : ∃ x, l[1] = x := ⟨_, rfl⟩
  rw [hq0] at hz0
  rw [hq1] at hz1
  have hr0 := hlz q0 (by rw [← hq0]; exact List.getElem_mem _)
  have hr1 := hlz q1 (by rw [← hq1]; exact List.getElem_mem _)
  have hln : (ints l).length = 12 := by rw [ints_length]; exact hl
  rw [hln]
  obtain ⟨k, hk⟩ : ∃ k : Nat, (k : Int) = 100 + q0 % 500 := ⟨(100 + q0 % 500).toNat, by omega⟩
  have hk1 : 100 ≤ k ∧ k ≤ 599 := by omega
  have hmod : q0.tmod 500 = (k : Int) - 100 := by rw [Int.tmod_eq_emod_of_nonneg hr0.1]; omega
  have hadd : IntKind.i64.wrap (100 + ((k : Int) - 100)) = (k : Int) := by rw [IntKind.wrap_i64]; omega
  have hadd' : 100 + ((k : Int) - 100) = (k : Int) := by omega
  obtain ⟨D, hD⟩ : ∃ D : ByteArray, (⟨(decOf q1).toArray⟩ : ByteArray) = D := ⟨_, rfl⟩
  have hDl : D.data.toList = decOf q1 := by rw [← hD]
  obtain ⟨hD4, hDd⟩ := decOf_small q1 hr1.1 hr1.2
  rw [← hDl] at hD4 hDd
  have hDz : D.size ≤ 4 := by rw [Lib.size_eq]; exact hD4
  have CD : Hid (∀ wi, Calls Try.prog 11 #[.int .i64 q1] wi fun e w' => e = .returned (.string D) ∧ Below wi.heap.size wi w') := by intro wi; rw [← hD]; exact specDecimal_any q1 wi (by omega) (by omega)
  have HZ : Hid (∀ wi, Below w7.heap.size w7 wi → wi.cell? ⟨g, 1, none⟩ = some (.int .i64 q1)) := fun wi hi => (hi.cell (World.block_lt_of_cell? w7 _ hz1)).trans hz1
  -- the two lines
  have s1 := fun w => run_string_add_sum (P := Try.prog) (w := w) ⟨#[71, 69, 84, 32, 47, 120]⟩ D (by show 6 + _ ≤ _; omega)
  have s2 := fun w => run_string_add_sum (P := Try.prog) (w := w) (⟨#[71, 69, 84, 32, 47, 120]⟩ ++ D) ⟨#[32, 72, 84, 84, 80, 47, 49, 46, 49]⟩ (by rw [ByteArray.size_append]; show 6 + _ + 9 ≤ _; omega)
  have s3 := fun w => run_string_add_sum (P := Try.prog) (w := w) ⟨#[47, 120]⟩ D (by show 2 + _ ≤ _; omega)
  have hTt := targetS_of (line := (⟨#[71, 69, 84, 32, 47, 120]⟩ ++ D) ++ ⟨#[32, 72, 84, 84, 80, 47, 49, 46, 49]⟩) (t := ⟨#[47, 120]⟩ ++ D) (by simp [getL, httpL]) (tgtOk_of (D := D.data.toList) (by simp) hD4 hDd)
  have hz1l : HdSz ((⟨#[71, 69, 84, 32, 47, 120]⟩ ++ D) ++ ⟨#[32, 72, 84, 84, 80, 47, 49, 46, 49]⟩) [] := by
    unfold HdSz
    rw [ByteArray.size_append, ByteArray.size_append]
    show 6 + D.size + 9 + 0 + 0 ≤ _
    omega
  have CT2 : Hid (∀ wi, Calls Try.prog 6 #[.agg #[.string ((⟨#[71, 69, 84, 32, 47, 120]⟩ ++ D) ++ ⟨#[32, 72, 84, 84, 80, 47, 49, 46, 49]⟩), .slice none 0 0]] wi fun e w' => e = .returned (.tuple #[.string (⟨#[47, 120]⟩ ++ D), .bool true]) ∧ Below wi.heap.size wi w') := by
    intro wi
    have h := implTargetOf_any wi none 0 _ [] (nil_DAt wi) hz1l
    rw [hTt] at h
    exact h
  generalize (⟨#[71, 69, 84, 32, 47, 120]⟩ ++ D) ++ ⟨#[32, 72, 84, 84, 80, 47, 49, 46, 49]⟩ = lt at s2 CT2
  generalize (⟨#[71, 69, 84, 32, 47, 120]⟩ : ByteArray) ++ D = lu at s1 s2
  generalize (⟨#[47, 120]⟩ : ByteArray) ++ D = tx at s3 CT2
  obtain ⟨E, hE⟩ : ∃ E : ByteArray, (⟨(decOf (k : Int)).toArray⟩ : ByteArray) = E := ⟨_, rfl⟩
  have hEl : E.data.toList = [fig (k / 100), fig (k / 10 % 10), fig (k % 10)] := by rw [← hE]; exact decOf_three k hk1.1 hk1.2
  have hEz : E.size = 3 := by rw [Lib.size_eq, hEl]; rfl
  have CE : Hid (∀ wi, Calls Try.prog 11 #[.int .i64 (k : Int)] wi fun e w' => e = .returned (.string E) ∧ Below wi.heap.size wi w') := by intro wi; rw [← hE]; exact specDecimal_any (k : Int) wi (by omega) (by omega)
  have u1 := fun w => run_string_add_sum (P := Try.prog) (w := w) ⟨#[72, 84, 84, 80, 47, 49, 46, 49, 32]⟩ E (by show 9 + _ ≤ _; omega)
  have u2 := fun w => run_string_add_sum (P := Try.prog) (w := w) (⟨#[72, 84, 84, 80, 47, 49, 46, 49, 32]⟩ ++ E) ⟨#[32, 115, 97, 105, 100]⟩ (by rw [ByteArray.size_append]; show 9 + _ + 5 ≤ _; omega)
  have f1 := fig_lo (show k / 100 < 10 by omega)
  have f2 := fig_lo (show k / 10 % 10 < 10 by omega)
  have f3 := fig_lo (show k % 10 < 10 by omega)
  have hSt := statusS_of (line := (⟨#[72, 84, 84, 80, 47, 49, 46, 49, 32]⟩ ++ E) ++ ⟨#[32, 115, 97, 105, 100]⟩) (x := fig (k / 100)) (y := fig (k / 10 % 10)) (z := fig (k % 10)) (r := [115, 97, 105, 100]) (by simp [stL, hEl]) (by omega) (by omega) (by omega) k (by omega) hk1.1 hk1.2
  have hz2l : HdSz ((⟨#[72, 84, 84, 80, 47, 49, 46, 49, 32]⟩ ++ E) ++ ⟨#[32, 115, 97, 105, 100]⟩) [] := by
    unfold HdSz
    rw [ByteArray.size_append, ByteArray.size_append]
    show 9 + E.size + 5 + 0 + 0 ≤ _
    omega
  have CS2 : Hid (∀ wi, Calls Try.prog 8 #[.agg #[.string ((⟨#[72, 84, 84, 80, 47, 49, 46, 49, 32]⟩ ++ E) ++ ⟨#[32, 115, 97, 105, 100]⟩), .slice none 0 0]] wi fun e w' => e = .returned (.tuple #[.int .i64 (k : Int), .bool true]) ∧ Below wi.heap.size wi w') := by
    intro wi
    have h := implStatusOf_any wi none 0 _ [] (nil_DAt wi) hz2l
    rw [hSt] at h
    exact h
  generalize (⟨#[72, 84, 84, 80, 47, 49, 46, 49, 32]⟩ ++ E) ++ ⟨#[32, 115, 97, 105, 100]⟩ = ls at u2 CS2
  generalize (⟨#[72, 84, 84, 80, 47, 49, 46, 49, 32]⟩ : ByteArray) ++ E = lv at u1 u2
  have cd := CD.out w7
  clear hD hDl hD4 hDd hDz hE hEl hEz hSt hTt hz1l hz2l f1 f2 f3 hown hcells hlz hl hln hq0 hq1 hk hr0 hr1 hb7 hb26 HB C2 HW2
  go_wp2_with fail
  refine cd.mono ?_
  rintro e w8 ⟨rfl, hb8⟩
  clear cd hz0 hz1
  have cd := CT2.out w8
  have hz1 := HZ.out w8 hb8
  go_wp2_with fail
  refine cd.mono ?_
  rintro e w9 ⟨rfl, hb9⟩
  have hb79 := hb8.trans (hb9.mono hb8.size)
  clear cd hb8 hb9 hz1
  have cd := CE.out w9
  go_wp2_with fail
  refine cd.mono ?_
  rintro e w10 ⟨rfl, hb10⟩
  have hb710 := hb79.trans (hb10.mono hb79.size)
  clear cd hb10 hb79
  have cd := CS2.out w10
  go_wp2_with fail
  refine cd.mono ?_
  rintro e w11 ⟨rfl, hb11⟩
  have hb711 := hb710.trans (hb11.mono hb710.size)
  clear cd hb11 hb710
  have cd := CD.out w11
  have hz1 := HZ.out w11 hb711
  clear s1 s2 u1 u2
  go_wp2_with fail
  refine cd.mono ?_
  rintro e w12 ⟨rfl, hb12⟩
  have hb712 := hb711.trans (hb12.mono hb711.size)
  clear cd hz1
  go_wp2_with fail
  go_ret
  exact ⟨by rfl, hbw7.trans (hb712.mono hbw7.size)⟩
end Go.Proofs.Ytlefccgdeafinad
