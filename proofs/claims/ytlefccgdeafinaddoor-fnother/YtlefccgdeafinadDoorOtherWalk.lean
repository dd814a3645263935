/- The law on letters and blanks, walked. -/
import Derived.Test.YtlefccgdeafinadDoorOtherPlain
import Derived.Test.YtlefccgdeafinadDoorOtherImpl
import Derived.Test.YtlefccgdeafinadDoorFieldOfImpl
import Derived.Test.YtlefccgdeafinadDoorDrawTurn
import Derived.Test.YtlefccgdeafinadDoorBig
import Derived.Lib.QuietBelow
import Derived.BigQuiet
namespace Go.Proofs.YtlefccgdeafinadDoor
open Go.RowKit Go.Sort
theorem litAtO (w : World) (l : List ByteArray) (j : Nat) (hj : j < l.length) : (w.alloc (.cells (strs l).toArray 9)).cell? ⟨w.heap.size, j, none⟩ = some (.string l[j]) := by
  have h := heap_alloc_new w (Obj.cells (strs l).toArray 9)
  simp only [World.cell?, h]
  simp [strs, hj]
theorem lit3 (w : World) (j : Nat) (hj : j < 3) : ∃ z ∈ keyL, (w.alloc (.cells #[.string ⟨#[88, 45, 75, 101, 121]⟩, .string ⟨#[120, 45, 107, 101, 121]⟩, .string ⟨#[88, 45, 75, 69, 89]⟩] 9)).cell? ⟨w.heap.size, j, none⟩ = some (.string z) :=
  ⟨keyL[j]'hj, List.getElem_mem _, litAtO w keyL j hj⟩
set_option maxRecDepth 100000 in
set_option maxHeartbeats 8000000 in
theorem other_walk (ca : Option Addr) (n cap : Nat) (w : World) (hcode : CodeAt w ca n w.heap.size) (hlen : n ≤ maxLen) :
    Calls Tryd.prog 4 #[.slice ca n cap] w fun e w' => e = .returned (.bool true) ∧ Below w.heap.size w w' := by
  unfold maxLen at hlen
  have cb := big_any ca n cap w hlen
  by_cases hn : n ≤ 1048576
  case neg =>
    rw [show decide (1048576 < n) = true by simp; omega] at cb
    go_enter Tryd.func4, Tryd.ntmps4
    go_wp2_with fail
    refine cb.mono ?_
    rintro e w' ⟨rfl, rfl⟩
    go_wp2_with fail
    go_ret
    exact ⟨rfl, Below.refl _ _⟩
  rw [show decide (1048576 < n) = false by simp; omega] at cb
  have c1 := drawPlaces_any w ca n cap hcode hn
  clear hcode
  go_enter Tryd.func4, Tryd.ntmps4
  go_wp2_with fail
  refine cb.mono ?_
  rintro e w' ⟨rfl, rfl⟩
  clear cb
  go_wp2_with fail
  refine c1.mono ?_
  rintro e w1 ⟨v1, l, rfl, hl, hlz, hown, hb1⟩
  clear c1
  obtain ⟨pa, pc, rfl, hcells⟩ := hown.shape
  obtain ⟨g, rfl, hz0, _, _, hg⟩ := hcells 0 (by rw [ints_length]; omega)
  obtain ⟨g', hgg, hz1, _, _, _⟩ := hcells 1 (by rw [ints_length]; omega)
  simp only [Option.some.injEq, Addr.mk.injEq, and_true] at hgg
  subst hgg
  obtain ⟨g', hgg, hz2, _, _, _⟩ := hcells 2 (by rw [ints_length]; omega)
  simp only [Option.some.injEq, Addr.mk.injEq, and_true] at hgg
  subst hgg
  rw [ints_at (by omega)] at hz0 hz1 hz2
  obtain ⟨q0, hq0⟩ : ∃ x, l[0] = x := ⟨_, rfl⟩
  obtain ⟨q1, hq1⟩ : ∃ x, l[1] = x := ⟨_, rfl⟩
  obtain ⟨q2, hq2⟩ : ∃ x, l[2] = x := ⟨_, rfl⟩
  rw [hq0] at hz0
  rw [hq1] at hz1
  rw [hq2] at hz2
  have hr0 := hlz q0 (by rw [← hq0]; exact List.getElem_mem _)
  have hr1 := hlz q1 (by rw [← hq1]; exact List.getElem_mem _)
  have hr2 := hlz q2 (by rw [← hq2]; exact List.getElem_mem _)
  have hln : (ints l).length = 12 := by rw [ints_length]; exact hl
  rw [hln]
  obtain ⟨j, hj⟩ : ∃ j : Nat, (j : Int) = q0 % 3 := ⟨(q0 % 3).toNat, by omega⟩
  obtain ⟨a, ha⟩ : ∃ a : Nat, (a : Int) = q1 % 4 := ⟨(q1 % 4).toNat, by omega⟩
  obtain ⟨b, hb⟩ : ∃ b : Nat, (b : Int) = q2 % 4 := ⟨(q2 % 4).toNat, by omega⟩
  have hj3 : j < 3 := by omega
  have ha4 : a < 4 := by omega
  have hb4 : b < 4 := by omega
  have hm0 : q0.tmod 3 = (j : Int) := by rw [Int.tmod_eq_emod_of_nonneg hr0.1]; omega
  have hm1 : q1.tmod 4 = (a : Int) := by rw [Int.tmod_eq_emod_of_nonneg hr1.1]; omega
  have hm2 : q2.tmod 4 = (b : Int) := by rw [Int.tmod_eq_emod_of_nonneg hr2.1]; omega
  obtain ⟨z, hz, lit⟩ := lit3 w1 j hj3
  obtain ⟨w2, hw2⟩ : ∃ x, w1.alloc (.cells #[.string ⟨#[88, 45, 75, 101, 121]⟩, .string ⟨#[120, 45, 107, 101, 121]⟩, .string ⟨#[88, 45, 75, 69, 89]⟩] 9) = x := ⟨_, rfl⟩
  have hb2 : Below w1.heap.size w1 w2 := by rw [← hw2]; exact (Below.refl _ _).alloc (Nat.le_refl _) _
  have hbw2 := hb1.trans (hb2.mono hb1.size)
  have d0 := (hb2.cell (World.block_lt_of_cell? w1 _ hz0)).trans hz0
  have d1 := (hb2.cell (World.block_lt_of_cell? w1 _ hz1)).trans hz1
  have d2 := (hb2.cell (World.block_lt_of_cell? w1 _ hz2)).trans hz2
  have k1 := cell_regrown d1
  have k2 := cell_regrown d2
  have HW2 : Hid (w1.alloc (.cells #[.string ⟨#[88, 45, 75, 101, 121]⟩, .string ⟨#[120, 45, 107, 101, 121]⟩, .string ⟨#[88, 45, 75, 69, 89]⟩] 9) = w2) := hw2
  rw [← hw2] at d0 d1 d2
  have hj0 : (0 : Int) ≤ (j : Int) := by omega
  have hj3i : (j : Int) < 3 := by omega
  -- the text
  obtain ⟨A, hA⟩ : ∃ A : ByteArray, (⟨(List.replicate a 32).toArray⟩ : ByteArray) = A := ⟨_, rfl⟩
  obtain ⟨B, hB⟩ : ∃ B : ByteArray, (⟨(List.replicate b 32).toArray⟩ : ByteArray) = B := ⟨_, rfl⟩
  have hAl : A.data.toList = List.replicate a 32 := by rw [← hA]
  have hBl : B.data.toList = List.replicate b 32 := by rw [← hB]
  have hAz : A.size ≤ 3 := by rw [Lib.size_eq, hAl, List.length_replicate]; omega
  have hBz : B.size ≤ 3 := by rw [Lib.size_eq, hBl, List.length_replicate]; omega
  have hzz := (key_ok z hz).2.2
  have cA : ∀ d os, Calls Tryd.prog 22 #[.int .i64 (a : Int), .string ⟨#[32]⟩] (grow (redrawn w2 d) os) fun e w'' => e = .returned (.string A) ∧ ∃ p : Regrown, w'' = grow (redrawn w2 p.d) p.os := fun d os => Calls.regrown_of ((row_any _ a 32 (by omega)).mono (by rintro e w1 ⟨rfl, rfl⟩; exact ⟨by rw [hA], Below.refl _ _⟩))
  have cB : ∀ d os, Calls Tryd.prog 22 #[.int .i64 (b : Int), .string ⟨#[32]⟩] (grow (redrawn w2 d) os) fun e w'' => e = .returned (.string B) ∧ ∃ p : Regrown, w'' = grow (redrawn w2 p.d) p.os := fun d os => Calls.regrown_of ((row_any _ b 32 (by omega)).mono (by rintro e w1 ⟨rfl, rfl⟩; exact ⟨by rw [hB], Below.refl _ _⟩))
  have s1 := fun w => run_string_add_sum (P := Tryd.prog) (w := w) ⟨#[71, 69, 84, 32, 47, 97, 32, 72, 84, 84, 80, 47, 49, 46, 49, 13, 10]⟩ z (by show 17 + _ ≤ _; omega)
  have s2 := fun w => run_string_add_sum (P := Tryd.prog) (w := w) (⟨#[71, 69, 84, 32, 47, 97, 32, 72, 84, 84, 80, 47, 49, 46, 49, 13, 10]⟩ ++ z) ⟨#[58]⟩ (by rw [ByteArray.size_append]; show 17 + _ + 1 ≤ _; omega)
  have s3 := fun w => run_string_add_sum (P := Tryd.prog) (w := w) ((⟨#[71, 69, 84, 32, 47, 97, 32, 72, 84, 84, 80, 47, 49, 46, 49, 13, 10]⟩ ++ z) ++ ⟨#[58]⟩) A (by rw [ByteArray.size_append, ByteArray.size_append]; show 17 + _ + 1 + _ ≤ _; omega)
  have s4 := fun w => run_string_add_sum (P := Tryd.prog) (w := w) (((⟨#[71, 69, 84, 32, 47, 97, 32, 72, 84, 84, 80, 47, 49, 46, 49, 13, 10]⟩ ++ z) ++ ⟨#[58]⟩) ++ A) ⟨#[118, 32, 119]⟩ (by rw [ByteArray.size_append, ByteArray.size_append, ByteArray.size_append]; show 17 + _ + 1 + _ + 3 ≤ _; omega)
  have s5 := fun w => run_string_add_sum (P := Tryd.prog) (w := w) ((((⟨#[71, 69, 84, 32, 47, 97, 32, 72, 84, 84, 80, 47, 49, 46, 49, 13, 10]⟩ ++ z) ++ ⟨#[58]⟩) ++ A) ++ ⟨#[118, 32, 119]⟩) B (by rw [ByteArray.size_append, ByteArray.size_append, ByteArray.size_append, ByteArray.size_append]; show 17 + _ + 1 + _ + 3 + _ ≤ _; omega)
  have s6 := fun w => run_string_add_sum (P := Tryd.prog) (w := w) (((((⟨#[71, 69, 84, 32, 47, 97, 32, 72, 84, 84, 80, 47, 49, 46, 49, 13, 10]⟩ ++ z) ++ ⟨#[58]⟩) ++ A) ++ ⟨#[118, 32, 119]⟩) ++ B) ⟨#[13, 10, 13, 10]⟩ (by rw [ByteArray.size_append, ByteArray.size_append, ByteArray.size_append, ByteArray.size_append, ByteArray.size_append]; show 17 + _ + 1 + _ + 3 + _ + 4 ≤ _; omega)
  obtain ⟨S, hS⟩ : ∃ S : ByteArray, (((((⟨#[71, 69, 84, 32, 47, 97, 32, 72, 84, 84, 80, 47, 49, 46, 49, 13, 10]⟩ ++ z) ++ ⟨#[58]⟩) ++ A) ++ ⟨#[118, 32, 119]⟩) ++ B) ++ ⟨#[13, 10, 13, 10]⟩ = S := ⟨_, rfl⟩
  have hSl : S.data.toList = getA ++ 13 :: 10 :: (flatL [z.data.toList ++ 58 :: valL a b, []] ++ []) := by
    rw [← hS]
    simp [flatL, valL, getA, hAl, hBl]
  have hSz : S.size ≤ 1000 := by
    rw [← hS, ByteArray.size_append, ByteArray.size_append, ByteArray.size_append, ByteArray.size_append, ByteArray.size_append, ByteArray.size_append]
    show 17 + _ + 1 + _ + 3 + _ + 4 ≤ _
    omega
  have hSa : ∀ x ∈ S.data.toList, x.toNat < 128 := by
    rw [hSl]
    intro x hx
    simp only [flatL, List.flatMap_cons, List.flatMap_nil, List.append_nil, List.mem_append, List.mem_cons, List.not_mem_nil, or_false] at hx
    rcases hx with hx | rfl | rfl | ((hx | rfl | hx) | rfl | rfl) | hx | rfl | rfl
    · revert x; unfold getA; decide
    · decide
    · decide
    · exact ((key_ok z hz).2.1 x hx).2.2.2
    · decide
    · exact (valL_no a b x hx).2.2
    · decide
    · decide
    · exact absurd hx (by simp)
    · decide
    · decide
  have hLx := line_xkey hz ha4 hb4
  have CR : Hid (∀ wi, Calls Tryd.prog 7 #[.string S] wi fun e w' => ∃ v, e = .returned (.tuple #[.agg #[.string ⟨getA.toArray⟩, v], .int .i64 (S.size : Int), .int .i64 0]) ∧ OwnD w' wi.heap.size 34 v [(xkey, vw)] ∧ Below wi.heap.size wi w') := by
    intro wi
    refine readHead_all wi S (by omega) hSa getA [z.data.toList ++ 58 :: valL a b, []] [] [(xkey, vw)] 1 hSl getA_no getA_ok ?_ rfl (by omega) rfl ?_ (fun _ => rfl) head_xkey S.size ?_
    · intro i hi
      rcases (show i = 0 ∨ i = 1 by simp at hi; omega) with rfl | rfl
      · exact hLx.2
      · intro x hx; simp at hx
    · intro i hi _ _
      obtain rfl : i = 0 := by omega
      exact hLx.1
    · rw [Lib.size_eq, hSl]
      unfold posL
      simp [flatL, getA]
      omega
  have hzF : HdSz ⟨getA.toArray⟩ [(xkey, vw)] := (headOk_sz head_xkey).1
  have CF : Hid (∀ (wi : World) (aa : Option Addr) (cc : Nat), DAt wi aa [(xkey, vw)] wi.heap.size → Calls Tryd.prog 14 #[.agg #[.string ⟨getA.toArray⟩, .slice aa 1 cc], .string ⟨#[120, 45, 107, 101, 121]⟩] wi fun e w' => e = .returned (.tuple #[.string ⟨#[118, 32, 119]⟩, .bool true]) ∧ Below wi.heap.size wi w') := by
    intro wi aa cc h
    have h := implFieldOf_any wi aa cc ⟨getA.toArray⟩ [(xkey, vw)] ⟨#[120, 45, 107, 101, 121]⟩ h hzF (by decide)
    have e : fieldOfS [(xkey, vw)] ⟨#[120, 45, 107, 101, 121]⟩ = (⟨#[118, 32, 119]⟩, true) := fieldOf_some (k := 0) (fun q hq h => by omega) (by simp) rfl (by unfold eqT; exact beq_self_eq_true _)
    rw [e] at h
    exact h
  have C1 : Hid (∀ wi, Calls Tryd.prog 7 #[.string ⟨#[71, 69, 84, 32, 47, 97, 32, 72, 84, 84, 80, 47, 49, 46, 49, 10, 120, 58, 32, 121, 13, 10, 13, 10]⟩] wi fun e w' => e = .returned (.tuple #[.agg #[.string ⟨#[]⟩, .slice none 0 0], .int .i64 0, .int .i64 2]) ∧ Below wi.heap.size wi w') := fun wi => readHead_firstBad wi _ (by decide) (by decide) getA [120, 58, 32, 121, 13, 10, 13, 10] rfl getA_no
  have C2 : Hid (∀ wi, Calls Tryd.prog 7 #[.string ⟨#[71, 69, 84, 32, 47, 97, 32, 72, 84, 84, 80, 47, 49, 46, 49, 13, 10, 120, 32, 121, 13, 10, 13, 10]⟩] wi fun e w' => e = .returned (.tuple #[.agg #[.string ⟨#[]⟩, .slice none 0 0], .int .i64 0, .int .i64 2]) ∧ Below wi.heap.size wi w') := fun wi => readHead_none wi _ (by decide) (by decide) getA [120, 32, 121] [13, 10] rfl getA_no getA_ok (by unfold NoEnd; decide) (by decide) (by decide)
  obtain ⟨R, hR⟩ : ∃ R : ByteArray, (⟨(List.replicate 300 98).toArray⟩ : ByteArray) = R := ⟨_, rfl⟩
  have hRl : R.data.toList = List.replicate 300 98 := by rw [← hR]
  have hRz : R.size = 300 := by rw [Lib.size_eq, hRl, List.length_replicate]
  have CW : Hid (∀ wi, Calls Tryd.prog 22 #[.int .i64 300, .string ⟨#[98]⟩] wi fun e w' => e = .returned (.string R) ∧ w' = wi) := by
    intro wi
    have h := row_any wi 300 98 (by omega)
    rw [hR] at h
    exact h
  have t1 := fun w => run_string_add_sum (P := Tryd.prog) (w := w) ⟨#[97, 13, 10]⟩ R (by show 3 + _ ≤ _; omega)
  have C3 : Hid (∀ wi, Calls Tryd.prog 7 #[.string (⟨#[97, 13, 10]⟩ ++ R)] wi fun e w' => e = .returned (.tuple #[.agg #[.string ⟨#[]⟩, .slice none 0 0], .int .i64 0, .int .i64 2]) ∧ Below wi.heap.size wi w') := by
    intro wi
    have hz3 : ((⟨#[97, 13, 10]⟩ : ByteArray) ++ R).size = 303 := by rw [ByteArray.size_append, hRz]; rfl
    refine readHead_long wi _ (by omega) (by omega) ?_ [97] (List.replicate 300 98) (by simp [hRl]) (by unfold NoEnd; decide) (by decide +kernel) ?_
    · intro x hx
      simp only [ByteArray.data_append, Array.toList_append, List.mem_append, hRl] at hx
      rcases hx with hx | hx
      · simp at hx
        rcases hx with rfl | rfl | rfl <;> decide
      · rw [(List.mem_replicate.1 hx).2]; decide
    · intro x hx
      rw [(List.mem_replicate.1 hx).2]
      decide
  rw [hS] at s6
  generalize ((((⟨#[71, 69, 84, 32, 47, 97, 32, 72, 84, 84, 80, 47, 49, 46, 49, 13, 10]⟩ ++ z) ++ ⟨#[58]⟩) ++ A) ++ ⟨#[118, 32, 119]⟩) ++ B = S5 at s5 s6
  generalize (((⟨#[71, 69, 84, 32, 47, 97, 32, 72, 84, 84, 80, 47, 49, 46, 49, 13, 10]⟩ ++ z) ++ ⟨#[58]⟩) ++ A) ++ ⟨#[118, 32, 119]⟩ = S4 at s4 s5
  generalize ((⟨#[71, 69, 84, 32, 47, 97, 32, 72, 84, 84, 80, 47, 49, 46, 49, 13, 10]⟩ ++ z) ++ ⟨#[58]⟩) ++ A = S3 at s3 s4
  generalize (⟨#[71, 69, 84, 32, 47, 97, 32, 72, 84, 84, 80, 47, 49, 46, 49, 13, 10]⟩ ++ z) ++ ⟨#[58]⟩ = S2 at s2 s3
  generalize (⟨#[71, 69, 84, 32, 47, 97, 32, 72, 84, 84, 80, 47, 49, 46, 49, 13, 10]⟩ : ByteArray) ++ z = S1 at s1 s2
  generalize (⟨#[97, 13, 10]⟩ : ByteArray) ++ R = S9 at t1 C3
  generalize (⟨getA.toArray⟩ : ByteArray) = LN at CR CF
  have hdr := below_regrown w2
  clear hz hzz hA hB hAl hBl hAz hBz hS hSl hSz hSa hLx hzF hR hRl hRz hln hl hlz hown hcells hq0 hq1 hq2 hr0 hr1 hr2 hj ha hb hw2 hb2 hb1 hz0 hz1 hz2 hj3 ha4 hb4
  go_wp2_with fail
  rw [HW2.out] at d0 d1 d2 lit ⊢
  clear d0 d1 d2 lit
  refine wp_region_quiet_below (by kernel_rfl) (by kernel_rfl) ?_
  repeat (first | go_big_quiet_step (first | with_reducible exact cA _ _ | with_reducible exact cB _ _) | quiet_step (first | with_reducible exact cA _ _ | with_reducible exact cB _ _))
  refine wpQuiet_nil ?_
  intro _ hw'
  obtain ⟨⟨dq, osq⟩, hw''⟩ := hw'
  subst hw''
  have hb3 := hdr dq osq
  obtain ⟨w3, hw3⟩ : ∃ x, grow (redrawn w2 dq) osq = x := ⟨_, rfl⟩
  rw [hw3] at hb3 ⊢
  have hbw3 := hbw2.trans (hb3.mono hbw2.size)
  have cr := CR.out w3
  clear hw3 hdr k1 k2 cA cB s1 s2 s3 s4 s5 s6 hb3 hbw2 CR HW2
  go_wp2_with fail
  refine cr.mono ?_
  rintro e w4 ⟨v4, rfl, ho4, hb4⟩
  obtain ⟨a4, c4, hv4, hA4⟩ := ho4.at
  have hv4' : v4 = .slice a4 1 c4 := hv4
  subst hv4'
  have hbw4 := hbw3.trans (hb4.mono hbw3.size)
  clear cr hb4 hbw3 ho4 hv4
  obtain ⟨w5, hw5⟩ : ∃ x, w4.alloc (.cells #[.string LN, .slice a4 1 c4] 27) = x := ⟨_, rfl⟩
  have hb5 : Below w4.heap.size w4 w5 := by rw [← hw5]; exact (Below.refl _ _).alloc (Nat.le_refl _) _
  have hK5 : HBx w5 w4.heap.size 27 (.string LN) (.slice a4 1 c4) := by rw [← hw5]; exact HBx.new _ _ _ _
  have hbw5 := hbw4.trans (hb5.mono hbw4.size)
  have HW5 : Hid (w4.alloc (.cells #[.string LN, .slice a4 1 c4] 27) = w5) := hw5
  obtain ⟨x0, x1⟩ := hK5.cells
  have cf := CF.out w5 a4 c4 (hA4.on hb5)
  rw [← hw5] at x0 x1
  clear hw5 hb5 hA4 hbw4 hK5 CF
  go_wp2_with fail
  rw [HW5.out] at x0 x1 ⊢
  refine cf.mono ?_
  rintro e w6 ⟨rfl, hb6⟩
  have hbw6 := hbw5.trans (hb6.mono hbw5.size)
  have c1 := C1.out w6
  clear cf x0 x1 hb6 hbw5 C1
  go_wp2_with fail
  refine c1.mono ?_
  rintro e w7 ⟨rfl, hb7⟩
  have hbw7 := hbw6.trans (hb7.mono hbw6.size)
  clear c1 hb7 hbw6
  obtain ⟨w8, hw8⟩ : ∃ x, w7.alloc (.cells #[.string ⟨#[]⟩, .slice none 0 0] 27) = x := ⟨_, rfl⟩
  have hbw8 : Below w.heap.size w w8 := by rw [← hw8]; exact hbw7.alloc hbw7.size _
  have HW8 : Hid (w7.alloc (.cells #[.string ⟨#[]⟩, .slice none 0 0] 27) = w8) := hw8
  have c2 := C2.out w8
  clear hw8 hbw7 C2
  go_wp2_with fail
  rw [HW8.out]
  refine c2.mono ?_
  rintro e w9 ⟨rfl, hb9⟩
  have hbw9 := hbw8.trans (hb9.mono hbw8.size)
  clear c2 hb9 hbw8
  obtain ⟨w10, hw10⟩ : ∃ x, w9.alloc (.cells #[.string ⟨#[]⟩, .slice none 0 0] 27) = x := ⟨_, rfl⟩
  have hbw10 : Below w.heap.size w w10 := by rw [← hw10]; exact hbw9.alloc hbw9.size _
  have HW10 : Hid (w9.alloc (.cells #[.string ⟨#[]⟩, .slice none 0 0] 27) = w10) := hw10
  have cw := CW.out w10
  have c3 := C3.out w10
  clear hw10 hbw9 C3 CW
  go_wp2_with fail
  rw [HW10.out]
  refine cw.mono ?_
  rintro e w11 ⟨rfl, hw11⟩
  rw [hw11]
  clear cw hw11
  go_wp2_with fail
  refine c3.mono ?_
  rintro e w12 ⟨rfl, hb12⟩
  have hbw12 := hbw10.trans (hb12.mono hbw10.size)
  clear c3 hb12 hbw10
  obtain ⟨w13, hw13⟩ : ∃ x, w12.alloc (.cells #[.string ⟨#[]⟩, .slice none 0 0] 27) = x := ⟨_, rfl⟩
  have hbw13 : Below w.heap.size w w13 := by rw [← hw13]; exact hbw12.alloc hbw12.size _
  have HW13 : Hid (w12.alloc (.cells #[.string ⟨#[]⟩, .slice none 0 0] 27) = w13) := hw13
  clear hw13 hbw12
  go_wp2_with fail
  rw [HW13.out]
  go_ret
  exact ⟨by rfl, hbw13⟩
end Go.Proofs.YtlefccgdeafinadDoor
