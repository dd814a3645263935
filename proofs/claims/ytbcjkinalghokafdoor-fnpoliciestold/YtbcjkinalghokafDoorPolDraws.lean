/- What the law on policies that are told draws. Written by mkpdraws.py. -/
import Derived.Test.YtbcjkinalghokafDoorPolAny
namespace Go.Proofs.YtbcjkinalghokafDoor
open Go.RowKit Go.Sort

set_option maxRecDepth 100000 in
set_option maxHeartbeats 4000000 in
theorem drawPolicyHas_any (w : World) (ca : Option Addr) (n cap : Nat) (hcode : CodeAt w ca n w.heap.size) (hn : n ≤ 1048576) :
    Calls Tryd.prog 46 #[.slice ca n cap] w fun e w' => ∃ (a1 a2 a3 : Option Addr) (c1 c2 c3 : Nat) (P : Pol) (key : ByteArray), e = .returned (.tuple #[.agg #[.slice a1 P.win.length c1, .slice a2 P.main.length c2, .slice a3 P.sk.rows.length c3, .int .i64 P.sk.added], .string key]) ∧ key.size ≤ 40 ∧ PolSz P ∧ PolS w' w.heap.size a1 a2 a3 P ∧ Below w.heap.size w w' := by
  obtain ⟨w0, hw0⟩ : ∃ x, w.alloc (.cells #[.slice none 0 0, .slice none 0 0, .slice none 0 0, .int .i64 0] 29) = x := ⟨_, rfl⟩
  have hb0 : Below w.heap.size w w0 := by rw [← hw0]; exact (Below.refl _ _).alloc (Nat.le_refl _) _
  have s0 : w0.heap.size = w.heap.size + 1 := by rw [← hw0]; simp
  have hR0 : PBox w0 w.heap.size (.slice none 0 0) (.slice none 0 0) (.slice none 0 0) (.int .i64 0) := by rw [← hw0]; exact PBox.new _ _ _ _ _
  have hcd : CodeAt w0 ca n w0.heap.size := by
    intro j hj
    obtain ⟨b, off, z, h1, h2, h3, h4⟩ := hcode j hj
    exact ⟨b, off, z, h1, by omega, (hb0.cell h2).trans h3, h4⟩
  have c1 := new_any w0 ca n cap hcd hn
  have HW : Hid (w.alloc (.cells #[.slice none 0 0, .slice none 0 0, .slice none 0 0, .int .i64 0] 29) = w0) := hw0
  clear hw0 hcode hcd
  go_enter Tryd.func46, Tryd.ntmps46
  go_wp2_with fail
  rw [HW.out]
  refine c1.mono ?_
  rintro e w1 ⟨p, rfl, hp1, hp2, hcur, hcd, hb1⟩
  have c2 := l12Key2_any w1 p ca n cap hcur hcd hn hp1
  clear c1
  go_wp2_with fail
  refine c2.mono ?_
  rintro e w2 ⟨key, hks, rfl, hl2⟩
  have hks' : key.size ≤ 40 := by unfold key2 at hks; omega
  clear c2 hks hcur hcd
  have hp2' : p < w2.heap.size := Nat.lt_of_lt_of_le hp1 hl2.2.2.size
  have c3 := l13Any_any w2 p ca n cap hl2.1 hl2.2.1 hn hp2'
  go_wp2_with fail
  refine c3.mono ?_
  rintro e w3 ⟨a1, a2, a3, c1, c2, c3', P, rfl, hsz, hss, hl3⟩
  have hbw1 : Below w.heap.size w w1 := hb0.trans (hb1.mono hb0.size)
  have hbw3 := below_of_left hbw1 (by omega) (hl2.trans hl3)
  have hR3 := ((hR0.on hb1).left hl2 (by omega)).left hl3 (by omega)
  obtain ⟨r0, r1, r2, r3⟩ := hR3.cells
  have f0 := hR3.thaw 0
  have f1 := hR3.thaw 1
  have f2 := hR3.thaw 2
  have f3 := hR3.thaw 3
  have HX : Hid (key.size ≤ 40 ∧ PolSz P ∧ PolS w3 w2.heap.size a1 a2 a3 P) := ⟨hks', hsz, hss⟩
  have hws : w.heap.size < w2.heap.size := by omega
  clear c3 hss hsz hks' hl2 hl3
  go_wp2_with fail
  obtain ⟨q0, q1, q2, q3⟩ := (hR3.put (.slice a1 P.win.length c1) (.slice a2 P.main.length c2) (.slice a3 P.sk.rows.length c3') (.int .i64 P.sk.added)).cells
  refine bodyPost_ret (v := .tuple #[.agg #[.slice a1 P.win.length c1, .slice a2 P.main.length c2, .slice a3 P.sk.rows.length c3', .int .i64 P.sk.added], .string key]) (by simp [results, Tryd.results46, go_sem, q0, q1, q2, q3]) rfl ⟨a1, a2, a3, c1, c2, c3', P, key, rfl, HX.out.1, HX.out.2.1, PolS.mono (HX.out.2.2.put4 (R := w.heap.size) hws _ _ _ _) (by omega), Below.put4 (T := w.heap.size) hbw3 (Nat.le_refl _) _ _ _ _⟩
set_option maxRecDepth 100000 in
set_option maxHeartbeats 4000000 in
theorem drawPolicyDrop_any (w : World) (ca : Option Addr) (n cap : Nat) (hcode : CodeAt w ca n w.heap.size) (hn : n ≤ 1048576) :
    Calls Tryd.prog 15 #[.slice ca n cap] w fun e w' => ∃ (a1 a2 a3 : Option Addr) (c1 c2 c3 : Nat) (P : Pol) (key : ByteArray), e = .returned (.tuple #[.agg #[.slice a1 P.win.length c1, .slice a2 P.main.length c2, .slice a3 P.sk.rows.length c3, .int .i64 P.sk.added], .string key]) ∧ key.size ≤ 40 ∧ PolSz P ∧ PolS w' w.heap.size a1 a2 a3 P ∧ Below w.heap.size w w' := by
  obtain ⟨w0, hw0⟩ : ∃ x, w.alloc (.cells #[.slice none 0 0, .slice none 0 0, .slice none 0 0, .int .i64 0] 29) = x := ⟨_, rfl⟩
  have hb0 : Below w.heap.size w w0 := by rw [← hw0]; exact (Below.refl _ _).alloc (Nat.le_refl _) _
  have s0 : w0.heap.size = w.heap.size + 1 := by rw [← hw0]; simp
  have hR0 : PBox w0 w.heap.size (.slice none 0 0) (.slice none 0 0) (.slice none 0 0) (.int .i64 0) := by rw [← hw0]; exact PBox.new _ _ _ _ _
  have hcd : CodeAt w0 ca n w0.heap.size := by
    intro j hj
    obtain ⟨b, off, z, h1, h2, h3, h4⟩ := hcode j hj
    exact ⟨b, off, z, h1, by omega, (hb0.cell h2).trans h3, h4⟩
  have c1 := drawPolicyHas_any w0 ca n cap hcd hn
  have HW : Hid (w.alloc (.cells #[.slice none 0 0, .slice none 0 0, .slice none 0 0, .int .i64 0] 29) = w0) := hw0
  clear hw0 hcode hcd
  go_enter Tryd.func15, Tryd.ntmps15
  go_wp2_with fail
  rw [HW.out]
  refine c1.mono ?_
  rintro e w3 ⟨a1, a2, a3, c1, c2, c3', P, key, rfl, hks, hsz, hss, hb3⟩
  have hbw3 : Below w.heap.size w w3 := hb0.trans (hb3.mono hb0.size)
  have hR3 := hR0.on hb3
  obtain ⟨r0, r1, r2, r3⟩ := hR3.cells
  have f0 := hR3.thaw 0
  have f1 := hR3.thaw 1
  have f2 := hR3.thaw 2
  have f3 := hR3.thaw 3
  have HX : Hid (key.size ≤ 40 ∧ PolSz P ∧ PolS w3 w0.heap.size a1 a2 a3 P) := ⟨hks, hsz, hss⟩
  have hws : w.heap.size < w0.heap.size := by omega
  clear hss hsz hks
  go_wp2_with fail
  obtain ⟨q0, q1, q2, q3⟩ := (hR3.put (.slice a1 P.win.length c1) (.slice a2 P.main.length c2) (.slice a3 P.sk.rows.length c3') (.int .i64 P.sk.added)).cells
  refine bodyPost_ret (v := .tuple #[.agg #[.slice a1 P.win.length c1, .slice a2 P.main.length c2, .slice a3 P.sk.rows.length c3', .int .i64 P.sk.added], .string key]) (by simp [results, Tryd.results15, go_sem, q0, q1, q2, q3]) rfl ⟨a1, a2, a3, c1, c2, c3', P, key, rfl, HX.out.1, HX.out.2.1, PolS.mono (HX.out.2.2.put4 (R := w.heap.size) hws _ _ _ _) (by omega), Below.put4 (T := w.heap.size) hbw3 (Nat.le_refl _) _ _ _ _⟩
set_option maxRecDepth 100000 in
set_option maxHeartbeats 4000000 in
theorem drawPolicyTouch_any (w : World) (ca : Option Addr) (n cap : Nat) (hcode : CodeAt w ca n w.heap.size) (hn : n ≤ 1048576) :
    Calls Tryd.prog 14 #[.slice ca n cap] w fun e w' => ∃ (a1 a2 a3 : Option Addr) (c1 c2 c3 : Nat) (P : Pol) (key : ByteArray), e = .returned (.tuple #[.agg #[.slice a1 P.win.length c1, .slice a2 P.main.length c2, .slice a3 P.sk.rows.length c3, .int .i64 P.sk.added], .string key]) ∧ key.size ≤ 40 ∧ PolSz P ∧ PolS w' w.heap.size a1 a2 a3 P ∧ Below w.heap.size w w' := by
  obtain ⟨w0, hw0⟩ : ∃ x, w.alloc (.cells #[.slice none 0 0, .slice none 0 0, .slice none 0 0, .int .i64 0] 29) = x := ⟨_, rfl⟩
  have hb0 : Below w.heap.size w w0 := by rw [← hw0]; exact (Below.refl _ _).alloc (Nat.le_refl _) _
  have s0 : w0.heap.size = w.heap.size + 1 := by rw [← hw0]; simp
  have hR0 : PBox w0 w.heap.size (.slice none 0 0) (.slice none 0 0) (.slice none 0 0) (.int .i64 0) := by rw [← hw0]; exact PBox.new _ _ _ _ _
  have hcd : CodeAt w0 ca n w0.heap.size := by
    intro j hj
    obtain ⟨b, off, z, h1, h2, h3, h4⟩ := hcode j hj
    exact ⟨b, off, z, h1, by omega, (hb0.cell h2).trans h3, h4⟩
  have c1 := new_any w0 ca n cap hcd hn
  have HW : Hid (w.alloc (.cells #[.slice none 0 0, .slice none 0 0, .slice none 0 0, .int .i64 0] 29) = w0) := hw0
  clear hw0 hcode hcd
  go_enter Tryd.func14, Tryd.ntmps14
  go_wp2_with fail
  rw [HW.out]
  refine c1.mono ?_
  rintro e w1 ⟨p, rfl, hp1, hp2, hcur, hcd, hb1⟩
  have c2 := l12Key2_any w1 p ca n cap hcur hcd hn hp1
  clear c1
  go_wp2_with fail
  refine c2.mono ?_
  rintro e w2 ⟨key, hks, rfl, hl2⟩
  have hks' : key.size ≤ 40 := by unfold key2 at hks; omega
  clear c2 hks hcur hcd
  have cO := once_any w2 p ca n cap 12 hl2.1 hl2.2.1 hn (by omega) (by omega)
  have hpw2 : p < w2.heap.size := Nat.lt_of_lt_of_le hp1 hl2.2.2.size
  go_wp2_with fail
  refine cO.mono ?_
  rintro e w2b ⟨b, rfl, hlb⟩
  clear cO
  cases b with
  | false =>
    have hl3 := hl2.trans hlb
    clear hl2 hlb hpw2
    obtain ⟨w2, hw2⟩ : ∃ x, w2b = x := ⟨_, rfl⟩
    rw [hw2] at hl3 ⊢
    clear hw2
    have hl2 := hl3
    clear hl3
    have hp2' : p < w2.heap.size := Nat.lt_of_lt_of_le hp1 hl2.2.2.size
    have c3 := l13Any_any w2 p ca n cap hl2.1 hl2.2.1 hn hp2'
    go_wp2_with fail
    refine c3.mono ?_
    rintro e w3 ⟨a1, a2, a3, c1, c2, c3', P, rfl, hsz, hss, hl3⟩
    have hbw1 : Below w.heap.size w w1 := hb0.trans (hb1.mono hb0.size)
    have hbw3 := below_of_left hbw1 (by omega) (hl2.trans hl3)
    have hR3 := ((hR0.on hb1).left hl2 (by omega)).left hl3 (by omega)
    obtain ⟨r0, r1, r2, r3⟩ := hR3.cells
    have f0 := hR3.thaw 0
    have f1 := hR3.thaw 1
    have f2 := hR3.thaw 2
    have f3 := hR3.thaw 3
    have HX : Hid (key.size ≤ 40 ∧ PolSz P ∧ PolS w3 w2.heap.size a1 a2 a3 P) := ⟨hks', hsz, hss⟩
    have hws : w.heap.size < w2.heap.size := by omega
    clear c3 hss hsz hks' hl2 hl3
    go_wp2_with fail
    obtain ⟨q0, q1, q2, q3⟩ := (hR3.put (.slice a1 P.win.length c1) (.slice a2 P.main.length c2) (.slice a3 P.sk.rows.length c3') (.int .i64 P.sk.added)).cells
    refine bodyPost_ret (v := .tuple #[.agg #[.slice a1 P.win.length c1, .slice a2 P.main.length c2, .slice a3 P.sk.rows.length c3', .int .i64 P.sk.added], .string key]) (by simp [results, Tryd.results14, go_sem, q0, q1, q2, q3]) rfl ⟨a1, a2, a3, c1, c2, c3', P, key, rfl, HX.out.1, HX.out.2.1, PolS.mono (HX.out.2.2.put4 (R := w.heap.size) hws _ _ _ _) (by omega), Below.put4 (T := w.heap.size) hbw3 (Nat.le_refl _) _ _ _ _⟩
  | true =>
    have hl3 := hl2.trans hlb
    have hp3 : p < w2b.heap.size := Nat.lt_of_lt_of_le hp1 hl3.2.2.size
    have cP := pick_any (w2b.alloc (.cells (strs [⟨#[]⟩, ⟨#[48, 49, 50, 51, 52, 53, 54, 55, 56, 57, 48, 49, 50, 51, 52, 53, 54, 55, 56, 57, 48, 49, 50, 51, 52, 53, 54, 55, 56, 57, 48]⟩]).toArray 9)) p ca n cap w2b.heap.size (.slice (some ⟨w2b.heap.size, 0, none⟩) 2 2) [⟨#[]⟩, ⟨#[48, 49, 50, 51, 52, 53, 54, 55, 56, 57, 48, 49, 50, 51, 52, 53, 54, 55, 56, 57, 48, 49, 50, 51, 52, 53, 54, 55, 56, 57, 48]⟩] (hl3.1.alloc hp3 _) (hl3.2.1.alloc _) hn
      (World.ownsRow_lit (base := w2b.heap.size) (e := 9) (size := 1) w2b (strs [⟨#[]⟩, ⟨#[48, 49, 50, 51, 52, 53, 54, 55, 56, 57, 48, 49, 50, 51, 52, 53, 54, 55, 56, 57, 48, 49, 50, 51, 52, 53, 54, 55, 56, 57, 48]⟩]).toArray 2 (Nat.le_refl _) (by simp [maxLen]) (by rfl)) hp3 (by decide) (by decide)
    clear hl2 hlb hpw2 hks'
    go_wp2_with fail
    refine cP.mono ?_
    rintro e w2c ⟨key, hz, rfl, hlc⟩
    have hks' : key.size ≤ 40 := by
      simp only [List.mem_cons, List.not_mem_nil, or_false] at hz
      rcases hz with rfl | rfl <;> decide
    have hl2 : Left w1 w2c p ca n cap := ⟨hlc.1, hlc.2.1, grownBy_trans hl3.2.2 (grownBy_trans (World.grownBy_alloc _ _ _) hlc.2.2)⟩
    clear cP hz hl3 hlc hp3
    obtain ⟨w2, hw2⟩ : ∃ x, w2c = x := ⟨_, rfl⟩
    rw [hw2] at hl2 ⊢
    clear hw2
    have hp2' : p < w2.heap.size := Nat.lt_of_lt_of_le hp1 hl2.2.2.size
    have c3 := l13Any_any w2 p ca n cap hl2.1 hl2.2.1 hn hp2'
    go_wp2_with fail
    refine c3.mono ?_
    rintro e w3 ⟨a1, a2, a3, c1, c2, c3', P, rfl, hsz, hss, hl3⟩
    have hbw1 : Below w.heap.size w w1 := hb0.trans (hb1.mono hb0.size)
    have hbw3 := below_of_left hbw1 (by omega) (hl2.trans hl3)
    have hR3 := ((hR0.on hb1).left hl2 (by omega)).left hl3 (by omega)
    obtain ⟨r0, r1, r2, r3⟩ := hR3.cells
    have f0 := hR3.thaw 0
    have f1 := hR3.thaw 1
    have f2 := hR3.thaw 2
    have f3 := hR3.thaw 3
    have HX : Hid (key.size ≤ 40 ∧ PolSz P ∧ PolS w3 w2.heap.size a1 a2 a3 P) := ⟨hks', hsz, hss⟩
    have hws : w.heap.size < w2.heap.size := by omega
    clear c3 hss hsz hks' hl2 hl3
    go_wp2_with fail
    obtain ⟨q0, q1, q2, q3⟩ := (hR3.put (.slice a1 P.win.length c1) (.slice a2 P.main.length c2) (.slice a3 P.sk.rows.length c3') (.int .i64 P.sk.added)).cells
    refine bodyPost_ret (v := .tuple #[.agg #[.slice a1 P.win.length c1, .slice a2 P.main.length c2, .slice a3 P.sk.rows.length c3', .int .i64 P.sk.added], .string key]) (by simp [results, Tryd.results14, go_sem, q0, q1, q2, q3]) rfl ⟨a1, a2, a3, c1, c2, c3', P, key, rfl, HX.out.1, HX.out.2.1, PolS.mono (HX.out.2.2.put4 (R := w.heap.size) hws _ _ _ _) (by omega), Below.put4 (T := w.heap.size) hbw3 (Nat.le_refl _) _ _ _ _⟩
end Go.Proofs.YtbcjkinalghokafDoor
