/- A text of what is told, and what is told with odd numbers, are drawn. -/
import Derived.Test.YtnnaphfeeobeladDoorControlDraw
import Derived.Test.YtnnaphfeeobeladDoorControlTextSpec
namespace Go.Proofs.YtnnaphfeeobeladDoor
open Go.RowKit Go.Sort
def moreL : List ByteArray := [⟨#[]⟩, ⟨#[32, 77, 97, 120, 45, 65, 103, 101, 61, 49, 50, 32, 44, 32, 32]⟩, ⟨#[44, 44, 112, 114, 105, 118, 97, 116, 101]⟩, ⟨#[109, 97, 120, 45, 97, 103, 101, 61, 120, 44, 32, 115, 45, 109, 97, 120, 97, 103, 101, 61, 51]⟩, ⟨#[109, 97, 120, 45, 97, 103, 101, 61, 49, 50, 51, 52, 53, 54, 55]⟩, ⟨#[78, 79, 45, 67, 65, 67, 72, 69]⟩, ⟨#[109, 97, 120, 45, 97, 103, 101, 61, 49, 44, 32, 109, 97, 120, 45, 97, 103, 101, 61, 50]⟩]
theorem moreL_size : ∀ z ∈ moreL, z.size ≤ 30 := by decide
theorem wordsC_size (c : Ct) : ∀ p ∈ wordsC c, p.size ≤ 48 := by
  intro p hp
  unfold wordsC at hp
  rcases List.mem_append.1 hp with hp | hp
  · rcases List.mem_append.1 hp with hp | hp
    · rcases List.mem_append.1 hp with hp | hp
      · split at hp
        · rw [List.mem_singleton.1 hp]; decide
        · cases hp
      · split at hp
        · rw [List.mem_singleton.1 hp]; decide
        · cases hp
    · split at hp
      · next h =>
        rw [List.mem_singleton.1 hp, ByteArray.size_append, show (⟨maxAgeL.toArray⟩ : ByteArray).size = 8 from rfl]
        have := decOf_short (of_decide_eq_true h)
        omega
      · cases hp
  · split at hp
    · next h =>
      rw [List.mem_singleton.1 hp, ByteArray.size_append, show (⟨sMaxL.toArray⟩ : ByteArray).size = 9 from rfl]
      have := decOf_short (of_decide_eq_true h)
      omega
    · cases hp
theorem wordsC_len (c : Ct) : (wordsC c).length ≤ 4 := by
  unfold wordsC
  cases c.ns <;> cases c.nc <;> cases inN c.ma 0 999999 <;> cases inN c.sh 0 999999 <;> simp
theorem textC_size (c : Ct) : (textC c).size ≤ 200 := by
  have h := joinK_size (wordsC_size c) (wordsC c).length
  have h2 := wordsC_len c
  unfold textC
  omega
set_option maxRecDepth 100000 in
set_option maxHeartbeats 4000000 in
theorem drawControlOf_any (w : World) (ca : Option Addr) (n cap : Nat) (hcode : CodeAt w ca n w.heap.size) (hn : n ≤ 1048576) :
    Calls Tryd.prog 29 #[.slice ca n cap] w fun e w' => ∃ s : ByteArray, s.size ≤ 1048576 ∧ e = .returned (.string s) ∧ Below w.heap.size w w' := by
  have c1 := new_any w ca n cap hcode hn
  clear hcode
  go_enter Tryd.func29, Tryd.ntmps29
  go_wp2_with fail
  refine c1.mono ?_
  rintro e w1 ⟨p, rfl, hp1, hp2, hcur, hcd, hb1⟩
  have c2 := below_any w1 p ca n cap 4 hcur hcd hn (by omega) (by omega)
  clear c1 hcur hcd
  go_wp2_with fail
  refine c2.mono ?_
  rintro e w2 ⟨k, hk, _, rfl, hl2⟩
  have hk4 := hk (by omega)
  have HB : Hid (Below w.heap.size w w2) := below_of_left hb1 hp2 hl2
  have hp3 : p < w2.heap.size := hl2.1.lt
  have c3 := pick_any (w2.alloc (.cells (strs moreL).toArray 9)) p ca n cap w2.heap.size (.slice (some ⟨w2.heap.size, 0, none⟩) 7 7) moreL (hl2.1.alloc hp3 _) (hl2.2.1.alloc _) hn
    (World.ownsRow_lit (base := w2.heap.size) (e := 9) (size := 1) w2 (strs moreL).toArray 7 (Nat.le_refl _) (by simp [maxLen]) (by rfl)) hp3 (by decide) (by decide)
  have HB : Hid (Below w.heap.size w (w2.alloc (.cells (strs moreL).toArray 9))) := HB.out.alloc HB.out.size _
  clear c2 hb1 hl2 hk
  go_wp2_with fail
  refine c3.mono ?_
  rintro e w3 ⟨z, hz, rfl, hl3⟩
  have HZ : Hid (z.size ≤ 30) := moreL_size z hz
  have HB : Hid (Below w.heap.size w w3) := below_of_left HB.out hp2 hl3
  have c4 := l10Control_any w3 p ca n cap hl3.1 hl3.2.1 hn
  clear c3 hz hl3 hp3
  go_wp2_with fail
  refine c4.mono ?_
  rintro e w4 ⟨c, _, _, rfl, hl4⟩
  have HB : Hid (Below w.heap.size w w4) := below_of_left HB.out hp2 hl4
  have c5 := specControlText_any w4 c
  have HT : Hid ((textC c).size ≤ 200) := textC_size c
  generalize textC c = t at c5 HT
  clear c4 hl4
  go_wp2_with fail
  refine c5.mono ?_
  rintro e w5 ⟨rfl, hb5⟩
  have HB : Hid (Below w.heap.size w w5) := HB.out.trans (hb5.mono HB.out.size)
  clear c5 hb5
  rcases (show k = 0 ∨ k = 1 ∨ 2 ≤ k by omega) with rfl | rfl | h2
  · go_wp2_with fail
    go_ret
    exact ⟨z, by have := HZ.out; omega, rfl, HB.out⟩
  · have s1 := fun w => run_string_add_sum (P := Tryd.prog) (w := w) t ⟨#[44]⟩ (by have := HT.out; show _ + 1 ≤ _; omega)
    have s2 := fun w => run_string_add_sum (P := Tryd.prog) (w := w) (t ++ ⟨#[44]⟩) z (by have := HT.out; have := HZ.out; rw [ByteArray.size_append]; show _ + 1 + _ ≤ _; omega)
    have HS : Hid (((t ++ ⟨#[44]⟩) ++ z).size ≤ 1048576) := by show _ ≤ _; have := HT.out; have := HZ.out; rw [ByteArray.size_append, ByteArray.size_append]; show _ + 1 + _ ≤ _; omega
    generalize (t ++ ⟨#[44]⟩) ++ z = u at s2 HS
    generalize t ++ ⟨#[44]⟩ = v at s1 s2
    go_wp2_with fail
    go_ret
    exact ⟨u, HS.out, rfl, HB.out⟩
  · have h0i : ((k : Int) == 0) = false := by rw [beq_eq_false_iff_ne]; omega
    have h1i : ((k : Int) == 1) = false := by rw [beq_eq_false_iff_ne]; omega
    go_wp2_with fail
    go_ret
    exact ⟨t, by have := HT.out; omega, rfl, HB.out⟩
set_option maxRecDepth 100000 in
set_option maxHeartbeats 4000000 in
theorem drawControlText_any (w : World) (ca : Option Addr) (n cap : Nat) (hcode : CodeAt w ca n w.heap.size) (hn : n ≤ 1048576) :
    Calls Tryd.prog 30 #[.slice ca n cap] w fun e w' => ∃ c : Ct, e = .returned (.agg #[.bool c.ns, .bool c.nc, .int .i64 c.ma, .int .i64 c.sh]) ∧ Below w.heap.size w w' := by
  obtain ⟨wa, hwa⟩ : ∃ wa, w.alloc (.cells #[.bool false, .bool false, .int .i64 0, .int .i64 0] 47) = wa := ⟨_, rfl⟩
  obtain ⟨R, hR⟩ : ∃ R, w.heap.size = R := ⟨_, rfl⟩
  have hk0 : CtB wa R ⟨false, false, 0, 0⟩ := by rw [← hwa, ← hR]; exact heap_alloc_new w _
  have hba : Below w.heap.size w wa := by rw [← hwa]; exact (Below.refl _ _).alloc (Nat.le_refl _) _
  have hcd : CodeAt wa ca n wa.heap.size := by
    intro j hj
    obtain ⟨b, off, z, h1, h2, h3, h4⟩ := hcode j hj
    exact ⟨b, off, z, h1, Nat.lt_of_lt_of_le h2 hba.size, (hba.cell (p := ⟨b, off + j, none⟩) h2).trans h3, h4⟩
  have c1 := new_any wa ca n cap hcd hn
  have HK : Hid (CtB wa R ⟨false, false, 0, 0⟩ ∧ Below w.heap.size w wa ∧ w.heap.size ≤ R) := ⟨hk0, hba, by omega⟩
  clear hcode hcd hk0 hba
  go_enter Tryd.func30, Tryd.ntmps30
  go_wp2_with fail
  clear hwa hR
  refine c1.mono ?_
  rintro e w1 ⟨p, rfl, hp1, hp2, hcur, hcd, hb1⟩
  have c2 := l10Control_any w1 p ca n cap hcur hcd hn
  have HK : Hid (CtB w1 R ⟨false, false, 0, 0⟩ ∧ Below w.heap.size w w1 ∧ w.heap.size ≤ R ∧ R ≠ p ∧ w.heap.size ≤ p) := by
    have := HK.out.1.lt
    have h3 := HK.out.2.1.size
    exact ⟨HK.out.1.on hb1, HK.out.2.1.trans (hb1.mono HK.out.2.1.size), HK.out.2.2, by omega, by omega⟩
  clear c1 hcur hcd hb1
  go_wp2_with fail
  refine c2.mono ?_
  rintro e w2 ⟨c, _, _, rfl, hl⟩
  obtain ⟨w3, hw3⟩ : ∃ x, w2.alloc (.cells #[.bool c.ns, .bool c.nc, .int .i64 c.ma, .int .i64 c.sh] 47) = x := ⟨_, rfl⟩
  obtain ⟨X, hX⟩ : ∃ x, w2.heap.size = x := ⟨_, rfl⟩
  have HL : Hid (CtB w3 R ⟨false, false, 0, 0⟩ ∧ CtB w3 X c ∧ Below w.heap.size w w3 ∧ Cur w3 p ca n cap ∧ CodeAt w3 ca n p) := by
    obtain ⟨a1, a2, a3, a4, a5⟩ := HK.out
    have b2 := below_of_left a2 a5 hl
    have b3 : Below w2.heap.size w2 w3 := by rw [← hw3]; exact (Below.refl _ _).alloc (Nat.le_refl _) _
    have hp := hl.1.lt
    refine ⟨(a1.past hl a4).on b3, by rw [← hw3, ← hX]; exact heap_alloc_new w2 _, b2.trans (b3.mono b2.size), ?_, ?_⟩
    · rw [← hw3]; exact hl.1.alloc hp _
    · rw [← hw3]; exact hl.2.1.alloc _
  have HN : Hid (R ≠ p ∧ w.heap.size ≤ p ∧ w.heap.size ≤ R ∧ X ≠ p ∧ w.heap.size ≤ X ∧ X ≠ R) := by
    obtain ⟨a1, a2, a3, a4, a5⟩ := HK.out
    have h1 := a1.lt
    have h2 := hl.1.lt
    have h3 := hl.2.2.size
    exact ⟨a4, a5, a3, by omega, by omega, by omega⟩
  have c3 := once_any w3 p ca n cap 6 HL.out.2.2.2.1 HL.out.2.2.2.2 hn (by omega) (by omega)
  clear c2 hl HK
  go_wp2_with fail
  clear hw3 hX
  refine c3.mono ?_
  rintro e w4 ⟨b, rfl, hl⟩
  have HL : Hid (CtB w4 R ⟨false, false, 0, 0⟩ ∧ CtB w4 X c ∧ Below w.heap.size w w4 ∧ Cur w4 p ca n cap ∧ CodeAt w4 ca n p) := by
    obtain ⟨a1, a2, a3, a4, a5⟩ := HL.out
    obtain ⟨n1, n2, n3, n4, n5, n6⟩ := HN.out
    exact ⟨a1.past hl n1, a2.past hl n4, below_of_left a3 n2 hl, hl.1, hl.2.1⟩
  clear c3 hl
  have FIN : Hid (∀ (w9 : World) (d : Ct), CtB w9 R ⟨false, false, 0, 0⟩ → Below w.heap.size w w9 → CtB ((((w9.setCell ⟨R, 0, none⟩ (.bool d.ns)).setCell ⟨R, 1, none⟩ (.bool d.nc)).setCell ⟨R, 2, none⟩ (.int .i64 d.ma)).setCell ⟨R, 3, none⟩ (.int .i64 d.sh)) R d ∧ Below w.heap.size w ((((w9.setCell ⟨R, 0, none⟩ (.bool d.ns)).setCell ⟨R, 1, none⟩ (.bool d.nc)).setCell ⟨R, 2, none⟩ (.int .i64 d.ma)).setCell ⟨R, 3, none⟩ (.int .i64 d.sh))) :=
    fun w9 d h1 h2 => ⟨h1.put d, put_below h2 HN.out.2.2.1 d⟩
  cases b with
  | false =>
    have z0 := HL.out.1.thaw 0
    have z1 := HL.out.1.thaw 1
    have z2 := HL.out.1.thaw 2
    have z3 := HL.out.1.thaw 3
    obtain ⟨r0, r1, r2, r3⟩ := HL.out.1.cells
    obtain ⟨x0, x1, x2, x3⟩ := HL.out.2.1.cells
    go_wp2_with fail
    have HX : Hid (CtB ((((w4.setCell ⟨R, 0, none⟩ (.bool c.ns)).setCell ⟨R, 1, none⟩ (.bool c.nc)).setCell ⟨R, 2, none⟩ (.int .i64 c.ma)).setCell ⟨R, 3, none⟩ (.int .i64 c.sh)) R c ∧ Below w.heap.size w ((((w4.setCell ⟨R, 0, none⟩ (.bool c.ns)).setCell ⟨R, 1, none⟩ (.bool c.nc)).setCell ⟨R, 2, none⟩ (.int .i64 c.ma)).setCell ⟨R, 3, none⟩ (.int .i64 c.sh))) := FIN.out w4 c HL.out.1 HL.out.2.2.1
    generalize (((w4.setCell ⟨R, 0, none⟩ (.bool c.ns)).setCell ⟨R, 1, none⟩ (.bool c.nc)).setCell ⟨R, 2, none⟩ (.int .i64 c.ma)).setCell ⟨R, 3, none⟩ (.int .i64 c.sh) = w9 at HX ⊢
    obtain ⟨q0, q1, q2, q3⟩ := HX.out.1.cells
    exact bodyPost_ret (v := .agg #[.bool c.ns, .bool c.nc, .int .i64 c.ma, .int .i64 c.sh]) (by simp [results, Tryd.results30, go_sem, q0, q1, q2, q3]) rfl ⟨c, rfl, HX.out.2⟩
  | true =>
    have hp4 : p < w4.heap.size := HL.out.2.2.2.1.lt
    have c4 := pickInt_any (w4.alloc (.cells (ints twoL).toArray 3)) p ca n cap w4.heap.size (.slice (some ⟨w4.heap.size, 0, none⟩) 2 2) twoL (HL.out.2.2.2.1.alloc hp4 _) (HL.out.2.2.2.2.alloc _) hn
      (World.ownsRow_lit (base := w4.heap.size) (e := 3) (size := 1) w4 (ints twoL).toArray 2 (Nat.le_refl _) (by simp [maxLen]) (by rfl)) hp4 (by decide) (by decide)
    have HL : Hid (CtB (w4.alloc (.cells (ints twoL).toArray 3)) R ⟨false, false, 0, 0⟩ ∧ CtB (w4.alloc (.cells (ints twoL).toArray 3)) X c ∧ Below w.heap.size w (w4.alloc (.cells (ints twoL).toArray 3))) := ⟨HL.out.1.plus _, HL.out.2.1.plus _, HL.out.2.2.1.alloc HL.out.2.2.1.size _⟩
    clear hp4
    go_wp2_with fail
    refine c4.mono ?_
    rintro e w5 ⟨y, _, rfl, hl⟩
    have HL : Hid (CtB w5 R ⟨false, false, 0, 0⟩ ∧ CtB w5 X c ∧ Below w.heap.size w w5) := by
      obtain ⟨a1, a2, a3⟩ := HL.out
      obtain ⟨n1, n2, n3, n4, n5, n6⟩ := HN.out
      exact ⟨a1.past hl n1, a2.past hl n4, below_of_left a3 n2 hl⟩
    clear c4 hl
    have z0 := HL.out.1.thaw 0
    have z1 := HL.out.1.thaw 1
    have z2 := HL.out.1.thaw 2
    have z3 := HL.out.1.thaw 3
    have v2 := HL.out.2.1.thaw 2
    obtain ⟨r0, r1, r2, r3⟩ := HL.out.1.cells
    obtain ⟨x0, x1, x2, x3⟩ := HL.out.2.1.cells
    have n1 : ¬ X = R := HN.out.2.2.2.2.2
    have n2 : ¬ R = X := fun e => n1 e.symm
    go_wp2_with fail
    have HX : Hid (CtB (((((w5.setCell ⟨X, 2, none⟩ (.int .i64 y)).setCell ⟨R, 0, none⟩ (.bool c.ns)).setCell ⟨R, 1, none⟩ (.bool c.nc)).setCell ⟨R, 2, none⟩ (.int .i64 y)).setCell ⟨R, 3, none⟩ (.int .i64 c.sh)) R { c with ma := y } ∧ Below w.heap.size w (((((w5.setCell ⟨X, 2, none⟩ (.int .i64 y)).setCell ⟨R, 0, none⟩ (.bool c.ns)).setCell ⟨R, 1, none⟩ (.bool c.nc)).setCell ⟨R, 2, none⟩ (.int .i64 y)).setCell ⟨R, 3, none⟩ (.int .i64 c.sh))) := FIN.out (w5.setCell ⟨X, 2, none⟩ (.int .i64 y)) { c with ma := y } (HL.out.1.other n2 2 _) (HL.out.2.2.setCell (p := ⟨X, 2, none⟩) HN.out.2.2.2.2.1 _)
    generalize ((((w5.setCell ⟨X, 2, none⟩ (.int .i64 y)).setCell ⟨R, 0, none⟩ (.bool c.ns)).setCell ⟨R, 1, none⟩ (.bool c.nc)).setCell ⟨R, 2, none⟩ (.int .i64 y)).setCell ⟨R, 3, none⟩ (.int .i64 c.sh) = w9 at HX ⊢
    obtain ⟨q0, q1, q2, q3⟩ := HX.out.1.cells
    dsimp only at q0 q1 q2 q3
    exact bodyPost_ret (v := .agg #[.bool c.ns, .bool c.nc, .int .i64 y, .int .i64 c.sh]) (by simp [results, Tryd.results30, go_sem, q0, q1, q2, q3]) rfl ⟨{ c with ma := y }, rfl, HX.out.2⟩
end Go.Proofs.YtnnaphfeeobeladDoor
