/- The law on heads, walked. -/
import Derived.Test.YtlefccgdeafinacDoorHeadDrawn
import Derived.Test.YtlefccgdeafinacDoorHeadsRead
import Derived.Test.YtlefccgdeafinacDoorHeadOkImpl
import Derived.Test.YtlefccgdeafinacDoorSameHead
import Derived.Test.YtlefccgdeafinacDoorDrawTurn
import Derived.Test.YtlefccgdeafinacDoorBig
namespace Go.Proofs.YtlefccgdeafinacDoor
open Go.RowKit Go.Sort
set_option maxRecDepth 100000 in
set_option maxHeartbeats 8000000 in
theorem heads_walk (ca : Option Addr) (n cap : Nat) (w : World) (hcode : CodeAt w ca n w.heap.size) (hlen : n ≤ maxLen) :
    Calls Tryd.prog 3 #[.slice ca n cap] w fun e w' => e = .returned (.bool true) ∧ Below w.heap.size w w' := by
  unfold maxLen at hlen
  have cb := big_any ca n cap w hlen
  by_cases hn : n ≤ 1048576
  case neg =>
    rw [show decide (1048576 < n) = true by simp; omega] at cb
    go_enter Tryd.func3, Tryd.ntmps3
    go_wp2_with fail
    refine cb.mono ?_
    rintro e w' ⟨rfl, rfl⟩
    go_wp2_with fail
    go_ret
    exact ⟨rfl, Below.refl _ _⟩
  rw [show decide (1048576 < n) = false by simp; omega] at cb
  have c1 := drawHead_any w ca n cap hcode hn
  have C2 : Hid (∀ w', Below w.heap.size w w' → Calls Tryd.prog 9 #[.slice ca n cap] w' fun e w'' => ∃ (v : Value) (l : List Int), e = .returned v ∧ l.length = 12 ∧ (∀ z ∈ l, 0 ≤ z ∧ z < 10000) ∧ OwnV w'' w'.heap.size 3 v (ints l) ∧ Below w'.heap.size w' w'') := by
    intro w' hb
    refine drawPlaces_any w' ca n cap (fun j hj => ?_) hn
    obtain ⟨b, off, z, h1, h2, h3, h4⟩ := hcode j hj
    exact ⟨b, off, z, h1, Nat.lt_of_lt_of_le h2 hb.size, (hb.cell (p := ⟨b, off + j, none⟩) h2).trans h3, h4⟩
  clear hcode
  go_enter Tryd.func3, Tryd.ntmps3
  go_wp2_with fail
  refine cb.mono ?_
  rintro e w' ⟨rfl, rfl⟩
  clear cb
  go_wp2_with fail
  refine c1.mono ?_
  rintro e w1 ⟨line, v, L, rfl, ⟨hh1, hh2, hh3⟩, ho1, hb1⟩
  clear c1
  obtain ⟨hok, hsz⟩ := drawn_ok hh1 hh2 hh3
  have hz := (headOk_sz hok).1
  have hL8 : L.length ≤ 1048576 := by omega
  obtain ⟨a, c, rfl, hA1⟩ := ho1.at
  obtain ⟨w2, hw2⟩ : ∃ x, w1.alloc (.cells #[.string line, .slice a L.length c] 26) = x := ⟨_, rfl⟩
  have hb2 : Below w1.heap.size w1 w2 := by rw [← hw2]; exact (Below.refl _ _).alloc (Nat.le_refl _) _
  have hK2 : HBx w2 w1.heap.size 26 (.string line) (.slice a L.length c) := by rw [← hw2]; exact HBx.new _ _ _ _
  have hA2 := hA1.on hb2
  have hbw2 := hb1.trans (hb2.mono hb1.size)
  have HB : Hid (∀ wi, Below w2.heap.size w2 wi → (wi.cell? ⟨w1.heap.size, 0, none⟩ = some (.string line) ∧ wi.cell? ⟨w1.heap.size, 1, none⟩ = some (.slice a L.length c)) ∧ DAt wi a L wi.heap.size ∧ Below w.heap.size w wi) := fun wi hi => ⟨(hK2.on hi).cells, hA2.on hi, hbw2.trans (hi.mono hbw2.size)⟩
  have HW2 : Hid (w1.alloc (.cells #[.string line, .slice a L.length c] 26) = w2) := hw2
  -- its text
  have hTz : (headT line L).size ≤ 200 := hsz
  have hTp : 0 < (headT line L).size := by rw [headT_size]; omega
  have CT : Hid (∀ wi, DAt wi a L wi.heap.size → Calls Tryd.prog 6 #[.agg #[.string line, .slice a L.length c]] wi fun e w' => e = .returned (.tuple #[.string (headT line L), .bool true]) ∧ Below wi.heap.size wi w') := by
    intro wi h
    have h := implHeadText_any wi a c line L h hz
    unfold headTextS at h
    rw [hok, if_pos rfl] at h
    exact h
  have CO : Hid (∀ wi, DAt wi a L wi.heap.size → Calls Tryd.prog 10 #[.agg #[.string line, .slice a L.length c]] wi fun e w' => e = .returned (.bool true) ∧ Below wi.heap.size wi w') := by
    intro wi h
    have h := implHeadOk_any wi a c line L h hz
    rw [hok] at h
    exact h
  have CR1 : Hid (∀ wi, Calls Tryd.prog 7 #[.string (headT line L)] wi fun e w' => ∃ v, e = .returned (.tuple #[.agg #[.string line, v], .int .i64 ((headT line L).size : Int), .int .i64 0]) ∧ OwnD w' wi.heap.size 50 v L ∧ Below wi.heap.size wi w') := fun wi => readHead_drawn wi (headT line L) line L [] hh1 hh2 hh3 (by simp) (by simp) (by simp)
  have CR2 : Hid (∀ wi, Calls Tryd.prog 7 #[.string (headT line L ++ ⟨#[98, 101, 104, 105, 110, 100, 10]⟩)] wi fun e w' => ∃ v, e = .returned (.tuple #[.agg #[.string line, v], .int .i64 ((headT line L).size : Int), .int .i64 0]) ∧ OwnD w' wi.heap.size 50 v L ∧ Below wi.heap.size wi w') := fun wi => readHead_drawn wi _ line L [98, 101, 104, 105, 110, 100, 10] hh1 hh2 hh3 (by simp) (by decide) (by decide)
  have CR3 : Hid (∀ (m : Nat), m < (headT line L).size → ∀ wi, Calls Tryd.prog 7 #[.string ((headT line L).extract 0 m)] wi fun e w' => e = .returned (.tuple #[.agg #[.string ⟨#[]⟩, .slice none 0 0], .int .i64 0, .int .i64 1]) ∧ Below wi.heap.size wi w') := by
    intro m hm wi
    exact readHead_cut wi _ line L m hh1 hh2 hh3 hm (by rw [Lib.extract_data, List.drop_zero, Nat.sub_zero])
  have hcat := fun w => run_string_add_sum (P := Tryd.prog) (w := w) (headT line L) ⟨#[98, 101, 104, 105, 110, 100, 10]⟩ (by show _ + 7 ≤ _; omega)
  have HSL : Hid (∀ (m : Nat), m < (headT line L).size → ∀ w : World, (Instr.slice 9 (.string (headT line L)) none (some (.int .i64 (m : Int))) none).run Tryd.prog w = .ok (.string ((headT line L).extract 0 m)) w) := by
    intro m hm w
    have h := run_slice_string_h (P := Tryd.prog) w 9 (headT line L) Tryd.underlying9 .i64 (m : Int) (by omega) (by omega)
    rw [Int.toNat_natCast] at h
    exact h
  have HSM : Hid (∀ (wi : World) (b : Option Addr) (d : Nat), DAt wi b L wi.heap.size → DAt wi a L wi.heap.size → Calls Tryd.prog 8 #[.agg #[.string line, .slice b L.length d], .agg #[.string line, .slice a L.length c]] wi fun e w' => e = .returned (.bool true) ∧ Below wi.heap.size wi w') := fun wi b d h1 h2 => sameHead_same wi b a d c line L h1 h2 hL8
  generalize headT line L ++ ⟨#[98, 101, 104, 105, 110, 100, 10]⟩ = t2 at CR2 hcat
  generalize headT line L = t1 at CT CR1 CR2 CR3 hcat HSL hTz hTp
  obtain ⟨⟨x0, x1⟩, hA, _⟩ := HB.out w2 (Below.refl _ _)
  have cc := CT.out w2 hA
  rw [← hw2] at x0 x1
  have hnn : ((t1.size : Int) != (t1.size : Int)) = false := by simp
  clear hw2 hK2 hA1 hA2 ho1 hh1 hh2 hh3 hA hb2 hb1 hz hok hsz CT
  go_wp2_with fail
  rw [HW2.out] at x0 x1 ⊢
  refine cc.mono ?_
  rintro e w3 ⟨rfl, hb3⟩
  clear cc x0 x1
  have cc := CR1.out w3
  go_wp2_with fail
  refine cc.mono ?_
  rintro e w4 ⟨v4, rfl, ho4, hb4⟩
  obtain ⟨a4, c4, rfl, hA4⟩ := ho4.at
  have hb24 := hb3.trans (hb4.mono hb3.size)
  clear cc hb3 hb4 ho4 CR1
  obtain ⟨w5, hw5⟩ : ∃ x, w4.alloc (.cells #[.string line, .slice a4 L.length c4] 26) = x := ⟨_, rfl⟩
  have hb5 : Below w4.heap.size w4 w5 := by rw [← hw5]; exact (Below.refl _ _).alloc (Nat.le_refl _) _
  have hK5 : HBx w5 w4.heap.size 26 (.string line) (.slice a4 L.length c4) := by rw [← hw5]; exact HBx.new _ _ _ _
  have hA5 := hA4.on hb5
  have hb25 := hb24.trans (hb5.mono hb24.size)
  have HW5 : Hid (w4.alloc (.cells #[.string line, .slice a4 L.length c4] 26) = w5) := hw5
  have cc := CR2.out w5
  clear hw5 hb5 hA4 hb24
  go_wp2_with fail
  rw [HW5.out]
  refine cc.mono ?_
  rintro e w6 ⟨v6, rfl, ho6, hb6⟩
  obtain ⟨a6, c6, rfl, hA6⟩ := ho6.at
  have hK6 := hK5.on hb6
  have hA56 := hA5.on hb6
  have hb26 := hb25.trans (hb6.mono hb25.size)
  clear cc hb6 ho6 CR2 hcat hb25 hK5 hA5
  obtain ⟨w7, hw7⟩ : ∃ x, w6.alloc (.cells #[.string line, .slice a6 L.length c6] 26) = x := ⟨_, rfl⟩
  have hb7 : Below w6.heap.size w6 w7 := by rw [← hw7]; exact (Below.refl _ _).alloc (Nat.le_refl _) _
  have hL7 : HBx w7 w6.heap.size 26 (.string line) (.slice a6 L.length c6) := by rw [← hw7]; exact HBx.new _ _ _ _
  have hA67 := hA6.on hb7
  have hK7 := hK6.on hb7
  have hA57 := hA56.on hb7
  have hb27 := hb26.trans (hb7.mono hb26.size)
  have HW7 : Hid (w6.alloc (.cells #[.string line, .slice a6 L.length c6] 26) = w7) := hw7
  obtain ⟨⟨x0, x1⟩, hA, _⟩ := HB.out w7 hb27
  obtain ⟨k0, k1⟩ := hK7.cells
  obtain ⟨l0, l1⟩ := hL7.cells
  have cc := HSM.out w7 a4 c4 hA57 hA
  rw [← hw7] at x0 x1 k0 k1 l0 l1
  clear hw7 hb7 hA6 hK6 hA56 hb26 hA
  go_wp2_with fail
  rw [HW7.out] at x0 x1 k0 k1 l0 l1 ⊢
  refine cc.mono ?_
  rintro e w8 ⟨rfl, hb8⟩
  clear cc x0 x1 k0 k1 l0 l1
  have hb28 := hb27.trans (hb8.mono hb27.size)
  obtain ⟨⟨x0, x1⟩, hA, _⟩ := HB.out w8 hb28
  obtain ⟨l0, l1⟩ := (hL7.on hb8).cells
  have cc := HSM.out w8 a6 c6 (hA67.on hb8) hA
  clear hb27 hK7 hL7 hA67 hA57 hA hb8
  go_wp2_with fail
  refine cc.mono ?_
  rintro e w9 ⟨rfl, hb9⟩
  have hb29 := hb28.trans (hb9.mono hb28.size)
  clear cc x0 x1 l0 l1 hb28 hb9
  obtain ⟨_, _, hbw9⟩ := HB.out w9 hb29
  go_wp2_with fail
  refine (C2.out w9 hbw9).mono ?_
  rintro e w10 ⟨v10, l, rfl, hl, hlz, hown, hb10⟩
  obtain ⟨pa, pc, rfl, hcells⟩ := hown.shape
  obtain ⟨g, rfl, hz0, _, _, hg⟩ := hcells 0 (by rw [ints_length]; omega)
  rw [ints_at (by omega)] at hz0
  obtain ⟨q0, hq0⟩ : ∃ x, l[0] = x := ⟨_, rfl⟩
  rw [hq0] at hz0
  have hr0 := hlz q0 (by rw [← hq0]; exact List.getElem_mem _)
  have hln : (ints l).length = 12 := by rw [ints_length]; exact hl
  rw [hln]
  have hb210 := hb29.trans (hb10.mono hb29.size)
  obtain ⟨m, hm⟩ : ∃ m : Nat, (m : Int) = q0 % (t1.size : Int) := ⟨(q0 % (t1.size : Int)).toNat, by have := Int.emod_nonneg q0 (show (t1.size : Int) ≠ 0 by omega); omega⟩
  have hmz : m < t1.size := by have := Int.emod_lt_of_pos q0 (show (0 : Int) < (t1.size : Int) by omega); omega
  have hmod : q0.tmod (t1.size : Int) = (m : Int) := by rw [Int.tmod_eq_emod_of_nonneg hr0.1]; omega
  have hnz : ¬ (t1.size : Int) = 0 := by omega
  have hne0 : ¬ t1.size = 0 := by omega
  have hsl := HSL.out m hmz
  have cc := CR3.out m hmz w10
  generalize t1.extract 0 m = t3 at hsl cc
  have HTZ : Hid (t1.size ≤ 200) := hTz
  clear hm hr0 hln hl hlz hown hcells hq0 hb29 hb10 C2 CR3 HSL hTz hTp hmz hbw9
  go_wp2_with fail
  refine cc.mono ?_
  rintro e w11 ⟨rfl, hb11⟩
  have hb211 := hb210.trans (hb11.mono hb210.size)
  clear cc hb210 hb11 hz0 hsl
  obtain ⟨w12, hw12⟩ : ∃ x, w11.alloc (.cells #[.string ⟨#[]⟩, .slice none 0 0] 26) = x := ⟨_, rfl⟩
  have hb12 : Below w11.heap.size w11 w12 := by rw [← hw12]; exact (Below.refl _ _).alloc (Nat.le_refl _) _
  have hb212 := hb211.trans (hb12.mono hb211.size)
  have HW12 : Hid (w11.alloc (.cells #[.string ⟨#[]⟩, .slice none 0 0] 26) = w12) := hw12
  obtain ⟨⟨x0, x1⟩, hA, _⟩ := HB.out w12 hb212
  have cc := CO.out w12 hA
  rw [← hw12] at x0 x1
  clear hw12 hb12 hb211 hA
  go_wp2_with fail
  rw [HW12.out] at x0 x1 ⊢
  refine cc.mono ?_
  rintro e w13 ⟨rfl, hb13⟩
  have hb213 := hb212.trans (hb13.mono hb212.size)
  obtain ⟨_, _, hbw13⟩ := HB.out w13 hb213
  go_wp2_with fail
  go_ret
  exact ⟨rfl, hbw13⟩
end Go.Proofs.YtlefccgdeafinacDoor
