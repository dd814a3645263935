/- What is told is drawn. -/
import Derived.Test.YtnnaphfeeobeladDoorDraws
import Derived.Test.YtnnaphfeeobeladDoorInts
import Derived.Test.YtnnaphfeeobeladDoorPartImpl
import Derived.Test.YtnnaphfeeobeladDoorControlBack
namespace Go.Proofs.YtnnaphfeeobeladDoor
open Go.RowKit Go.Sort
def ageL : List Int := [-1, 0, 5, 60, 999999]
def shrL : List Int := [-1, -1, 0, 7, 999999]
def twoL : List Int := [-2, 1000000]
theorem ageL_ok : ∀ z ∈ ageL, okN z := by
  intro z hz
  simp only [ageL, List.mem_cons, List.not_mem_nil, or_false] at hz
  unfold okN
  omega
theorem shrL_ok : ∀ z ∈ shrL, okN z := by
  intro z hz
  simp only [shrL, List.mem_cons, List.not_mem_nil, or_false] at hz
  unfold okN
  omega
theorem CtB.past {w w1 : World} {p T : Nat} {ca : Option Addr} {n cap : Nat} {c : Ct} (h : CtB w T c) (hl : Left w w1 p ca n cap) (hp : T ≠ p) : CtB w1 T c :=
  (hl.2.2.block T h.lt (by simpa using hp)).trans h
theorem CtB.plus {w : World} {T : Nat} {c : Ct} (h : CtB w T c) (o : Obj) : CtB (w.alloc o) T c := h.on ((Below.refl _ _).alloc (Nat.le_refl _) _)
theorem Left.putC {w w1 : World} {p : Nat} {ca : Option Addr} {n cap : Nat} (h : Left w w1 p ca n cap) (hp : p < w.heap.size) {T : Nat} (hT : w.heap.size ≤ T) (d : Ct) :
    Left w ((((w1.setCell ⟨T, 0, none⟩ (.bool d.ns)).setCell ⟨T, 1, none⟩ (.bool d.nc)).setCell ⟨T, 2, none⟩ (.int .i64 d.ma)).setCell ⟨T, 3, none⟩ (.int .i64 d.sh)) p ca n cap :=
  (((h.set hp (A := ⟨T, 0, none⟩) hT _).set hp (A := ⟨T, 1, none⟩) hT _).set hp (A := ⟨T, 2, none⟩) hT _).set hp (A := ⟨T, 3, none⟩) hT _
set_option maxRecDepth 100000 in
set_option maxHeartbeats 4000000 in
theorem l10Control_any (w : World) (p : Nat) (ca : Option Addr) (n cap : Nat) (hc : Cur w p ca n cap) (hcode : CodeAt w ca n p) (hn : n ≤ 1048576) :
    Calls Tryd.prog 62 #[.pointer (some ⟨p, 0, none⟩)] w fun e w' => ∃ c : Ct, okN c.ma ∧ okN c.sh ∧ e = .returned (.agg #[.bool c.ns, .bool c.nc, .int .i64 c.ma, .int .i64 c.sh]) ∧ Left w w' p ca n cap := by
  have hp := hc.lt
  obtain ⟨wa, hwa⟩ : ∃ wa, w.alloc (.cells #[.bool false, .bool false, .int .i64 0, .int .i64 0] 47) = wa := ⟨_, rfl⟩
  obtain ⟨R, hR⟩ : ∃ R, w.heap.size = R := ⟨_, rfl⟩
  have hRp : R ≠ p := by omega
  have hk0 : CtB wa R ⟨false, false, 0, 0⟩ := by rw [← hwa, ← hR]; exact heap_alloc_new w _
  have hl0 : Left w wa p ca n cap := by rw [← hwa]; exact (Left.refl hc hcode).plus hp _
  have c1 := once_any wa p ca n cap 4 hl0.1 hl0.2.1 hn (by omega) (by omega)
  have HL : Hid (Left w wa p ca n cap ∧ CtB wa R ⟨false, false, 0, 0⟩) := ⟨hl0, hk0⟩
  have HP : Hid (p < w.heap.size ∧ R ≠ p ∧ w.heap.size ≤ R) := ⟨hp, hRp, by omega⟩
  clear hc hcode hp hRp hk0 hl0
  go_enter Tryd.func62, Tryd.ntmps62
  go_wp2_with fail
  clear hwa hR
  refine c1.mono ?_
  rintro e w1 ⟨x1, rfl, hl⟩
  have HL : Hid (Left w w1 p ca n cap ∧ CtB w1 R ⟨false, false, 0, 0⟩) := ⟨HL.out.1.trans hl, HL.out.2.past hl HP.out.2.1⟩
  clear c1 hl
  have c1 := once_any w1 p ca n cap 4 HL.out.1.1 HL.out.1.2.1 hn (by omega) (by omega)
  go_wp2_with fail
  refine c1.mono ?_
  rintro e w2 ⟨x2, rfl, hl⟩
  have HL : Hid (Left w w2 p ca n cap ∧ CtB w2 R ⟨false, false, 0, 0⟩) := ⟨HL.out.1.trans hl, HL.out.2.past hl HP.out.2.1⟩
  clear c1 hl
  have hp2 : p < w2.heap.size := HL.out.1.1.lt
  have c1 := pickInt_any (w2.alloc (.cells (ints ageL).toArray 3)) p ca n cap w2.heap.size (.slice (some ⟨w2.heap.size, 0, none⟩) 5 5) ageL (HL.out.1.1.alloc hp2 _) (HL.out.1.2.1.alloc _) hn
    (World.ownsRow_lit (base := w2.heap.size) (e := 3) (size := 1) w2 (ints ageL).toArray 5 (Nat.le_refl _) (by simp [maxLen]) (by rfl)) hp2 (by decide) (by decide)
  have HL : Hid (Left w (w2.alloc (.cells (ints ageL).toArray 3)) p ca n cap ∧ CtB (w2.alloc (.cells (ints ageL).toArray 3)) R ⟨false, false, 0, 0⟩) := ⟨HL.out.1.plus HP.out.1 _, HL.out.2.plus _⟩
  clear hp2
  go_wp2_with fail
  refine c1.mono ?_
  rintro e w3 ⟨x3, hx3, rfl, hl⟩
  have HL : Hid (Left w w3 p ca n cap ∧ CtB w3 R ⟨false, false, 0, 0⟩) := ⟨HL.out.1.trans hl, HL.out.2.past hl HP.out.2.1⟩
  have H3 : Hid (okN x3) := ageL_ok x3 hx3
  clear c1 hl hx3
  have hp3 : p < w3.heap.size := HL.out.1.1.lt
  have c1 := pickInt_any (w3.alloc (.cells (ints shrL).toArray 3)) p ca n cap w3.heap.size (.slice (some ⟨w3.heap.size, 0, none⟩) 5 5) shrL (HL.out.1.1.alloc hp3 _) (HL.out.1.2.1.alloc _) hn
    (World.ownsRow_lit (base := w3.heap.size) (e := 3) (size := 1) w3 (ints shrL).toArray 5 (Nat.le_refl _) (by simp [maxLen]) (by rfl)) hp3 (by decide) (by decide)
  have HL : Hid (Left w (w3.alloc (.cells (ints shrL).toArray 3)) p ca n cap ∧ CtB (w3.alloc (.cells (ints shrL).toArray 3)) R ⟨false, false, 0, 0⟩) := ⟨HL.out.1.plus HP.out.1 _, HL.out.2.plus _⟩
  clear hp3
  go_wp2_with fail
  refine c1.mono ?_
  rintro e w4 ⟨x4, hx4, rfl, hl⟩
  have HL : Hid (Left w w4 p ca n cap ∧ CtB w4 R ⟨false, false, 0, 0⟩) := ⟨HL.out.1.trans hl, HL.out.2.past hl HP.out.2.1⟩
  have H4 : Hid (okN x4) := shrL_ok x4 hx4
  clear c1 hl hx4
  have z0 := HL.out.2.thaw 0
  have z1 := HL.out.2.thaw 1
  have z2 := HL.out.2.thaw 2
  have z3 := HL.out.2.thaw 3
  obtain ⟨r0, r1, r2, r3⟩ := HL.out.2.cells
  go_wp2_with fail
  have HX : Hid (CtB ((((w4.setCell ⟨R, 0, none⟩ (.bool x1)).setCell ⟨R, 1, none⟩ (.bool x2)).setCell ⟨R, 2, none⟩ (.int .i64 x3)).setCell ⟨R, 3, none⟩ (.int .i64 x4)) R ⟨x1, x2, x3, x4⟩ ∧ Left w ((((w4.setCell ⟨R, 0, none⟩ (.bool x1)).setCell ⟨R, 1, none⟩ (.bool x2)).setCell ⟨R, 2, none⟩ (.int .i64 x3)).setCell ⟨R, 3, none⟩ (.int .i64 x4)) p ca n cap) :=
    ⟨HL.out.2.put ⟨x1, x2, x3, x4⟩, HL.out.1.putC HP.out.1 HP.out.2.2 ⟨x1, x2, x3, x4⟩⟩
  generalize (((w4.setCell ⟨R, 0, none⟩ (.bool x1)).setCell ⟨R, 1, none⟩ (.bool x2)).setCell ⟨R, 2, none⟩ (.int .i64 x3)).setCell ⟨R, 3, none⟩ (.int .i64 x4) = w9 at HX ⊢
  obtain ⟨q0, q1, q2, q3⟩ := HX.out.1.cells
  dsimp only at q0 q1 q2 q3
  exact bodyPost_ret (v := .agg #[.bool x1, .bool x2, .int .i64 x3, .int .i64 x4]) (by simp [results, Tryd.results62, go_sem, q0, q1, q2, q3]) rfl ⟨⟨x1, x2, x3, x4⟩, H3.out, H4.out, rfl, HX.out.2⟩
set_option maxRecDepth 100000 in
set_option maxHeartbeats 4000000 in
theorem drawControl_any (w : World) (ca : Option Addr) (n cap : Nat) (hcode : CodeAt w ca n w.heap.size) (hn : n ≤ 1048576) :
    Calls Tryd.prog 26 #[.slice ca n cap] w fun e w' => ∃ c : Ct, okN c.ma ∧ okN c.sh ∧ e = .returned (.agg #[.bool c.ns, .bool c.nc, .int .i64 c.ma, .int .i64 c.sh]) ∧ Below w.heap.size w w' := by
  obtain ⟨wa, hwa⟩ : ∃ wa, w.alloc (.cells #[.bool false, .bool false, .int .i64 0, .int .i64 0] 47) = wa := ⟨_, rfl⟩
  obtain ⟨R, hR⟩ : ∃ R, w.heap.size = R := ⟨_, rfl⟩
  have hk0 : CtB wa R ⟨false, false, 0, 0⟩ := by rw [← hwa, ← hR]; exact heap_alloc_new w _
  have hba : Below w.heap.size w wa := by rw [← hwa]; exact (Below.refl _ _).alloc (Nat.le_refl _) _
  have hcd : CodeAt wa ca n wa.heap.size := by
    intro j hj
    obtain ⟨b, off, z, h1, h2, h3, h4⟩ := hcode j hj
    exact ⟨b, off, z, h1, Nat.lt_of_lt_of_le h2 hba.size, (hba.cell (p := ⟨b, off + j, none⟩) h2).trans h3, h4⟩
  have c1 := new_any wa ca n cap hcd hn
  have HK : Hid (CtB wa R ⟨false, false, 0, 0⟩ ∧ Below w.heap.size w wa ∧ w.heap.size ≤ R) := ⟨hk0, hba, by omega⟩
  clear hcode hcd hk0 hba
  go_enter Tryd.func26, Tryd.ntmps26
  go_wp2_with fail
  clear hwa hR
  refine c1.mono ?_
  rintro e w1 ⟨p, rfl, hp1, hp2, hcur, hcd, hb1⟩
  have c2 := l10Control_any w1 p ca n cap hcur hcd hn
  have HK : Hid (CtB w1 R ⟨false, false, 0, 0⟩ ∧ Below w.heap.size w w1 ∧ w.heap.size ≤ R ∧ R ≠ p ∧ w.heap.size ≤ p) := by
    have := HK.out.1.lt
    have h3 := HK.out.2.1.size
    exact ⟨HK.out.1.on hb1, HK.out.2.1.trans (hb1.mono HK.out.2.1.size), HK.out.2.2, by omega, by omega⟩
  clear c1 hcur hcd hb1
  go_wp2_with fail
  refine c2.mono ?_
  rintro e w2 ⟨c, hc1, hc2, rfl, hl⟩
  have HL : Hid (CtB w2 R ⟨false, false, 0, 0⟩ ∧ Below w.heap.size w w2 ∧ w.heap.size ≤ R) := by
    obtain ⟨a1, a2, a3, a4, a5⟩ := HK.out
    exact ⟨a1.past hl a4, below_of_left a2 a5 hl, a3⟩
  have HC : Hid (okN c.ma ∧ okN c.sh) := ⟨hc1, hc2⟩
  clear c2 hl HK hc1 hc2
  have z0 := HL.out.1.thaw 0
  have z1 := HL.out.1.thaw 1
  have z2 := HL.out.1.thaw 2
  have z3 := HL.out.1.thaw 3
  obtain ⟨r0, r1, r2, r3⟩ := HL.out.1.cells
  go_wp2_with fail
  have HX : Hid (CtB ((((w2.setCell ⟨R, 0, none⟩ (.bool c.ns)).setCell ⟨R, 1, none⟩ (.bool c.nc)).setCell ⟨R, 2, none⟩ (.int .i64 c.ma)).setCell ⟨R, 3, none⟩ (.int .i64 c.sh)) R c ∧ Below w.heap.size w ((((w2.setCell ⟨R, 0, none⟩ (.bool c.ns)).setCell ⟨R, 1, none⟩ (.bool c.nc)).setCell ⟨R, 2, none⟩ (.int .i64 c.ma)).setCell ⟨R, 3, none⟩ (.int .i64 c.sh))) :=
    ⟨HL.out.1.put c, put_below HL.out.2.1 HL.out.2.2 c⟩
  generalize (((w2.setCell ⟨R, 0, none⟩ (.bool c.ns)).setCell ⟨R, 1, none⟩ (.bool c.nc)).setCell ⟨R, 2, none⟩ (.int .i64 c.ma)).setCell ⟨R, 3, none⟩ (.int .i64 c.sh) = w9 at HX ⊢
  obtain ⟨q0, q1, q2, q3⟩ := HX.out.1.cells
  exact bodyPost_ret (v := .agg #[.bool c.ns, .bool c.nc, .int .i64 c.ma, .int .i64 c.sh]) (by simp [results, Tryd.results26, go_sem, q0, q1, q2, q3]) rfl ⟨c, HC.out.1, HC.out.2, rfl, HX.out.2⟩
end Go.Proofs.YtnnaphfeeobeladDoor
