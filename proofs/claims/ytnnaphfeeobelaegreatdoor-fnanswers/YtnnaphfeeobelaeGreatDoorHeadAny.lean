/- A head, right or not, is drawn. -/
import Derived.Test.YtnnaphfeeobelaeGreatDoorHeadDraw2
import Derived.Test.YtnnaphfeeobelaeGreatDoorHeadPlainJ
namespace Go.Proofs.YtnnaphfeeobelaeGreatDoor
open Go.RowKit Go.Sort
/-- A small head. -/
def SmD (line : ByteArray) (L : List (ByteArray × ByteArray)) : Prop := line.size ≤ 90 ∧ L.length ≤ 9 ∧ ∀ f ∈ L, f.1.size ≤ 30 ∧ f.2.size ≤ 70
theorem SmD.drawn {line : ByteArray} {L : List (ByteArray × ByteArray)} (h1 : line ∈ hlL) (h2 : ∀ f ∈ L, FdD f) (h3 : L.length ≤ 3) : SmD line L := by
  refine ⟨Nat.le_trans (hlL_len _ h1) (by omega), by omega, fun f hf => ⟨Nat.le_trans (fnL_len _ (h2 f hf).1) (by omega), Nat.le_trans (fvL_len _ (h2 f hf).2) (by omega)⟩⟩
theorem wgtT_small : ∀ (L : List (ByteArray × ByteArray)), (∀ f ∈ L, f.1.size ≤ 30 ∧ f.2.size ≤ 70) → wgtT L ≤ 100 * L.length
  | [], _ => by simp [wgtT]
  | f :: L, h => by
    have h1 := wgtT_small L (fun g hg => h g (List.mem_cons_of_mem _ hg))
    have h2 := h f List.mem_cons_self
    unfold wgtT at *
    simp only [List.map_cons, List.sum_cons, List.length_cons]
    omega
theorem SmD.sz {line : ByteArray} {L : List (ByteArray × ByteArray)} (h : SmD line L) : HdSz line L := by
  obtain ⟨h1, h2, h3⟩ := h
  have := wgtT_small L h3
  unfold HdSz
  omega
theorem SmD.line {line z : ByteArray} {L : List (ByteArray × ByteArray)} (h : SmD line L) (hz : z.size ≤ 90) : SmD z L := ⟨hz, h.2⟩
theorem SmD.mod {line : ByteArray} {L : List (ByteArray × ByteArray)} (h : SmD line L) (F : ByteArray × ByteArray → ByteArray × ByteArray) (hF : ∀ f : ByteArray × ByteArray, f.1.size ≤ 30 ∧ f.2.size ≤ 70 → (F f).1.size ≤ 30 ∧ (F f).2.size ≤ 70) : SmD line (L.modify 0 F) := by
  refine ⟨h.1, by rw [List.length_modify]; exact h.2.1, fun f hf => ?_⟩
  cases L with
  | nil => simp at hf
  | cons g L =>
    simp only [List.modify_zero_cons, List.mem_cons] at hf
    rcases hf with rfl | hf
    · exact hF g (h.2.2 g List.mem_cons_self)
    · exact h.2.2 f (List.mem_cons_of_mem _ hf)
theorem fdl_mod0 : ∀ (L : List (ByteArray × ByteArray)) (j : Nat) (x : ByteArray), (fdl L).set (j * 2) (.string x) = fdl (L.modify j fun f => (x, f.2))
  | [], j, x => by simp [fdl]
  | g :: L, 0, x => by simp [fdl_cons, fdCells]
  | g :: L, j + 1, x => by
    have ih := fdl_mod0 L j x
    rw [show (j + 1) * 2 = j * 2 + 1 + 1 by omega, fdl_cons, List.modify_succ_cons, fdl_cons, ← ih]
    simp [fdCells]
theorem fdl_mod1 : ∀ (L : List (ByteArray × ByteArray)) (j : Nat) (x : ByteArray), (fdl L).set (j * 2 + 1) (.string x) = fdl (L.modify j fun f => (f.1, x))
  | [], j, x => by simp [fdl]
  | g :: L, 0, x => by simp [fdl_cons, fdCells]
  | g :: L, j + 1, x => by
    have ih := fdl_mod1 L j x
    rw [show (j + 1) * 2 + 1 = (j * 2 + 1) + 1 + 1 by omega, fdl_cons, List.modify_succ_cons, fdl_cons, ← ih]
    simp [fdCells]
theorem OwnD.mod0 {w : World} {base : Nat} {e : TypeId} {g n cap : Nat} {L : List (ByteArray × ByteArray)} (h : OwnD w base e (.slice (some ⟨g, 0, none⟩) n cap) L) (hn : n = L.length) (x : ByteArray) :
    OwnD (w.setCell ⟨g, 0, none⟩ (.string x)) base e (.slice (some ⟨g, 0, none⟩) n cap) (L.modify 0 fun f => (x, f.2)) ∧ w.grownBy (w.setCell ⟨g, 0, none⟩ (.string x)) (some g) := by
  subst hn
  have h0 := World.ownsRow.stored h 0 (.string x)
  rw [fdl_mod0 L 0] at h0
  refine ⟨?_, h0.2⟩
  unfold OwnD
  rw [List.length_modify]
  exact h0.1
theorem OwnD.mod1 {w : World} {base : Nat} {e : TypeId} {g n cap : Nat} {L : List (ByteArray × ByteArray)} (h : OwnD w base e (.slice (some ⟨g, 0, none⟩) n cap) L) (hn : n = L.length) (x : ByteArray) :
    OwnD (w.setCell ⟨g, 1, none⟩ (.string x)) base e (.slice (some ⟨g, 0, none⟩) n cap) (L.modify 0 fun f => (f.1, x)) ∧ w.grownBy (w.setCell ⟨g, 1, none⟩ (.string x)) (some g) := by
  subst hn
  have h0 := World.ownsRow.stored h 1 (.string x)
  rw [fdl_mod1 L 0] at h0
  refine ⟨?_, h0.2⟩
  unfold OwnD
  rw [List.length_modify]
  exact h0.1
theorem OwnD.cell0 {w : World} {base : Nat} {e : TypeId} {v : Value} {L : List (ByteArray × ByteArray)} (h : OwnD w base e v L) (hL : 0 < L.length) :
    ∃ g c, v = .slice (some ⟨g, 0, none⟩) L.length c ∧ w.cell? ⟨g, 0, none⟩ = some (.string (L[0]).1) ∧ w.cell? ⟨g, 1, none⟩ = some (.string (L[0]).2) ∧ w.frozen? ⟨g, 0, none⟩ = false ∧ w.frozen? ⟨g, 1, none⟩ = false ∧ g < w.heap.size := by
  obtain ⟨a, c, rfl, hA⟩ := h.at
  obtain ⟨g, rfl, hg, _⟩ := row2_addrD (show w.ownsRow base e 2 (.slice a L.length c) L.length (fdl L) from h) hL
  obtain ⟨g', off, ha, _, c0, c1⟩ := hA 0 hL
  simp only [Option.some.injEq, Addr.mk.injEq, and_true] at ha
  obtain ⟨rfl, rfl⟩ := ha
  exact ⟨g, c, rfl, by simpa using c0, by simpa using c1, h.there rfl 0, h.there rfl 1, hg⟩
theorem frozen_xD {w : World} {X i : Nat} (h : w.frozen? ⟨X, i, none⟩ = false) (hX : X < w.heap.size) (o : Obj) : (w.alloc o).frozen? ⟨X, i, none⟩ = false := by
  rw [(((Below.refl w.heap.size w).alloc (Nat.le_refl _) o).frozen (p := ⟨X, i, none⟩) hX)]
  exact h
theorem litAt (w : World) (l : List ByteArray) (j : Nat) (hj : j < l.length) : (w.alloc (.cells (strs l).toArray 9)).cell? ⟨w.heap.size, j, none⟩ = some (.string l[j]) := by
  have h := heap_alloc_new w (Obj.cells (strs l).toArray 9)
  simp only [World.cell?, h]
  simp [strs, hj]
theorem lit5a (w : World) (sA : ByteArray) (j : Nat) (hj : j < 5) (hA : (sA.size : Int) = 21) : ∃ z : ByteArray, z.size ≤ 30 ∧ (w.alloc (.cells #[.string ⟨#[]⟩, .string ⟨#[65]⟩, .string ⟨#[97, 32, 98]⟩, .string sA, .string ⟨#[45]⟩] 9)).cell? ⟨w.heap.size, j, none⟩ = some (.string z) := by
  refine ⟨([⟨#[]⟩, ⟨#[65]⟩, ⟨#[97, 32, 98]⟩, sA, ⟨#[45]⟩] : List ByteArray)[j]'hj, ?_, litAt w [⟨#[]⟩, ⟨#[65]⟩, ⟨#[97, 32, 98]⟩, sA, ⟨#[45]⟩] j hj⟩
  have hall : ∀ q ∈ ([⟨#[]⟩, ⟨#[65]⟩, ⟨#[97, 32, 98]⟩, sA, ⟨#[45]⟩] : List ByteArray), q.size ≤ 30 := by
    intro q hq
    simp only [List.mem_cons, List.not_mem_nil, or_false] at hq
    rcases hq with rfl | rfl | rfl | rfl | rfl <;> first | decide | omega
  exact hall _ (List.getElem_mem _)
theorem lit5b (w : World) (sA sB : ByteArray) (j : Nat) (hj : j < 5) (hA : (sA.size : Int) = 60) (hB : (sB.size : Int) = 61) : ∃ z : ByteArray, z.size ≤ 70 ∧ (w.alloc (.cells #[.string ⟨#[32, 97]⟩, .string ⟨#[97, 32]⟩, .string sA, .string sB, .string ⟨#[10]⟩] 9)).cell? ⟨w.heap.size, j, none⟩ = some (.string z) := by
  refine ⟨([⟨#[32, 97]⟩, ⟨#[97, 32]⟩, sA, sB, ⟨#[10]⟩] : List ByteArray)[j]'hj, ?_, litAt w [⟨#[32, 97]⟩, ⟨#[97, 32]⟩, sA, sB, ⟨#[10]⟩] j hj⟩
  have hall : ∀ q ∈ ([⟨#[32, 97]⟩, ⟨#[97, 32]⟩, sA, sB, ⟨#[10]⟩] : List ByteArray), q.size ≤ 70 := by
    intro q hq
    simp only [List.mem_cons, List.not_mem_nil, or_false] at hq
    rcases hq with rfl | rfl | rfl | rfl | rfl <;> first | decide | omega
  exact hall _ (List.getElem_mem _)
/-- How many fields lie in the variable. -/
def lenAt (w : World) (T : Nat) : Nat := match w.cell? ⟨T, 1, none⟩ with | some (.slice _ n _) => n | _ => 0
set_option maxRecDepth 100000 in
set_option maxHeartbeats 8000000 in
theorem l09Any_any (w : World) (p : Nat) (ca : Option Addr) (n cap : Nat) (hc : Cur w p ca n cap) (hcode : CodeAt w ca n p) (hn : n ≤ 1048576) :
    Calls Tryz.prog 27 #[.pointer (some ⟨p, 0, none⟩)] w fun e w' => ∃ (line : ByteArray) (v : Value) (L : List (ByteArray × ByteArray)), e = .returned (.agg #[.string line, v]) ∧ SmD line L ∧ OwnD w' w.heap.size 29 v L ∧ Left w w' p ca n cap := by
  have hp := hc.lt
  obtain ⟨w1, hw1⟩ : ∃ x, w.alloc (.cells #[.string ⟨#[]⟩, .slice none 0 0] 32) = x := ⟨_, rfl⟩
  have hL1 : Left w w1 p ca n cap := by rw [← hw1]; exact (Left.refl hc hcode).plus hp _
  have hR1 : HBx w1 w.heap.size 32 (.string ⟨#[]⟩) (.slice none 0 0) := by rw [← hw1]; exact HBx.new _ _ _ _
  have c1 := below_any w1 p ca n cap 12 hL1.1 hL1.2.1 hn (by omega) (by omega)
  have HW : Hid (w.alloc (.cells #[.string ⟨#[]⟩, .slice none 0 0] 32) = w1) := hw1
  clear hc hcode hw1
  go_enter Tryz.func27, Tryz.ntmps27
  go_wp2_with fail
  rw [HW.out]
  refine c1.mono ?_
  rintro e w2 ⟨kk, hkk, _, rfl, hl2⟩
  have hkk2 := hkk (by omega)
  have hL2 := hL1.trans hl2
  have hR2 := hR1.grownH hl2.2.2 (by omega)
  have c2 := below_any w2 p ca n cap 60 hL2.1 hL2.2.1 hn (by omega) (by omega)
  clear c1 hkk hl2 hL1 hR1 HW
  go_wp2_with fail
  refine c2.mono ?_
  rintro e w3 ⟨x, hx, _, rfl, hl3⟩
  have hx2 := hx (by omega)
  have hL3 := hL2.trans hl3
  have hR3 := hR2.grownH hl3.2.2 (by omega)
  have c3 := l09Head_any w3 p ca n cap hL3.1 hL3.2.1 hn
  clear c2 hx hl3 hL2 hR2
  go_wp2_with fail
  refine c3.mono ?_
  rintro e w4 ⟨line, v, L, rfl, hline, hF, hL3', ho4, hl4⟩
  have HSm : Hid (SmD line L) := SmD.drawn hline hF hL3'
  have hL4 := hL3.trans hl4
  have hR4 := hR3.grownH hl4.2.2 (by omega)
  have ho4' := ho4.mono (show w.heap.size ≤ w3.heap.size from hL3.2.2.size)
  obtain ⟨a, c, rfl, _⟩ := ho4.at
  obtain ⟨w5, hw5⟩ : ∃ x, w4.alloc (.cells #[.string line, .slice a L.length c] 32) = x := ⟨_, rfl⟩
  have hb5 : Below w4.heap.size w4 w5 := by rw [← hw5]; exact (Below.refl _ _).alloc (Nat.le_refl _) _
  have H5 : Lh w p ca n cap w.heap.size w4.heap.size line (.slice a L.length c) L w5 := by
    have hlt := hR4.lt
    refine ⟨hL4.below (hb5.mono hL4.2.2.size) hp, hp, Nat.le_refl _, by omega, by omega, hR4.on hb5, ?_, ho4'.below hb5 (Nat.le_refl _)⟩
    rw [← hw5]; exact HBx.new _ _ _ _
  have HW5 : Hid (w4.alloc (.cells #[.string line, .slice a L.length c] 32) = w5) := hw5
  clear c3 hw5 hb5 hL3 hL4 hR3 hR4 hline hF hL3' hl4 ho4 ho4'
  have HH5 : Hid (Lh w p ca n cap w.heap.size w4.heap.size line (.slice a L.length c) L w5) := H5
  clear H5
  rcases (show kk = 0 ∨ kk = 1 ∨ kk = 2 ∨ kk = 3 ∨ 3 < kk by omega) with rfl | rfl | rfl | rfl | h3
  · have H5 := HH5.out
    have c5 := long_any w5 80 65 (by omega) (by omega) (by omega) (by omega)
    obtain ⟨y0, y1⟩ := H5.box.cells
    clear HH5
    rw [← HW5.out] at y0 y1
    go_wp2_with fail
    rw [HW5.out]
    refine c5.mono ?_
    rintro e w6 ⟨sA, hsA, rfl, hb6⟩
    have H6 := H5.next hb6
    have c6 := long_any w6 81 65 (by omega) (by omega) (by omega) (by omega)
    clear c5 H5 y0 y1 HW5
    go_wp2_with fail
    refine c6.mono ?_
    rintro e w7 ⟨sB, hsB, rfl, hb7⟩
    have H7 := H6.next hb7
    obtain ⟨j, hj⟩ : ∃ j, x % 7 = j := ⟨_, rfl⟩
    have hj7 : j < 7 := by omega
    have hrem : (x : Int).tmod 7 = (j : Int) := by rw [Int.tmod_eq_emod_of_nonneg (by omega)]; omega
    obtain ⟨w8, hw8⟩ : ∃ q, w7.alloc (.cells #[.string ⟨#[]⟩, .string sA, .string sB, .string ⟨#[97, 13, 98]⟩, .string ⟨#[71, 69, 84, 32, 47, 97, 32, 98, 32, 72, 84, 84, 80, 47, 49, 46, 49]⟩, .string ⟨#[72, 84, 84, 80, 47, 49, 46, 49, 32, 55, 48, 48, 32, 120]⟩, .string ⟨#[71, 69, 84, 32, 47, 32, 72, 84, 84, 80, 47, 49, 46, 49]⟩] 9) = q := ⟨_, rfl⟩
    have hb8 : Below w7.heap.size w7 w8 := by rw [← hw8]; exact (Below.refl _ _).alloc (Nat.le_refl _) _
    have H8 := H7.next hb8
    have lit : w8.cell? ⟨w7.heap.size, j, none⟩ = some (.string (([⟨#[]⟩, sA, sB, ⟨#[97, 13, 98]⟩, ⟨#[71, 69, 84, 32, 47, 97, 32, 98, 32, 72, 84, 84, 80, 47, 49, 46, 49]⟩, ⟨#[72, 84, 84, 80, 47, 49, 46, 49, 32, 55, 48, 48, 32, 120]⟩, ⟨#[71, 69, 84, 32, 47, 32, 72, 84, 84, 80, 47, 49, 46, 49]⟩] : List ByteArray)[j]'hj7)) := by rw [← hw8]; exact litAt w7 [⟨#[]⟩, sA, sB, ⟨#[97, 13, 98]⟩, ⟨#[71, 69, 84, 32, 47, 97, 32, 98, 32, 72, 84, 84, 80, 47, 49, 46, 49]⟩, ⟨#[72, 84, 84, 80, 47, 49, 46, 49, 32, 55, 48, 48, 32, 120]⟩, ⟨#[71, 69, 84, 32, 47, 32, 72, 84, 84, 80, 47, 49, 46, 49]⟩] j hj7
    obtain ⟨z, hz⟩ : ∃ z, (([⟨#[]⟩, sA, sB, ⟨#[97, 13, 98]⟩, ⟨#[71, 69, 84, 32, 47, 97, 32, 98, 32, 72, 84, 84, 80, 47, 49, 46, 49]⟩, ⟨#[72, 84, 84, 80, 47, 49, 46, 49, 32, 55, 48, 48, 32, 120]⟩, ⟨#[71, 69, 84, 32, 47, 32, 72, 84, 84, 80, 47, 49, 46, 49]⟩] : List ByteArray)[j]'hj7) = z := ⟨_, rfl⟩
    have hzs : z.size ≤ 90 := by
      rw [← hz]
      have hall : ∀ q ∈ ([⟨#[]⟩, sA, sB, ⟨#[97, 13, 98]⟩, ⟨#[71, 69, 84, 32, 47, 97, 32, 98, 32, 72, 84, 84, 80, 47, 49, 46, 49]⟩, ⟨#[72, 84, 84, 80, 47, 49, 46, 49, 32, 55, 48, 48, 32, 120]⟩, ⟨#[71, 69, 84, 32, 47, 32, 72, 84, 84, 80, 47, 49, 46, 49]⟩] : List ByteArray), q.size ≤ 90 := by
        intro q hq
        simp only [List.mem_cons, List.not_mem_nil, or_false] at hq
        rcases hq with rfl | rfl | rfl | rfl | rfl | rfl | rfl
        · decide
        · omega
        · omega
        all_goals decide
      exact hall _ (List.getElem_mem _)
    rw [hz] at lit
    have HW8 : Hid (w7.alloc (.cells #[.string ⟨#[]⟩, .string sA, .string sB, .string ⟨#[97, 13, 98]⟩, .string ⟨#[71, 69, 84, 32, 47, 97, 32, 98, 32, 72, 84, 84, 80, 47, 49, 46, 49]⟩, .string ⟨#[72, 84, 84, 80, 47, 49, 46, 49, 32, 55, 48, 48, 32, 120]⟩, .string ⟨#[71, 69, 84, 32, 47, 32, 72, 84, 84, 80, 47, 49, 46, 49]⟩] 9) = w8) := hw8
    have H9 := H8.line (z := z)
    obtain ⟨y0, y1⟩ := H8.box.cells
    have yf := H8.box.thaw 0
    obtain ⟨t0, t1⟩ := H9.box.cells
    obtain ⟨r0, r1⟩ := H9.res.cells
    have f0 := H9.res.thaw 0
    have f1 := H9.res.thaw 1
    have HO : Hid _ := H9.out
    have HSm2 : Hid (SmD z L) := HSm.out.line hzs
    rw [← hw8] at lit y0 y1 yf t0 t1 r0 r1 f0 f1
    have hj0 : (0 : Int) ≤ (j : Int) := by omega
    have hj7i : (j : Int) < 7 := by omega
    clear c6 H6 H7 H8 H9 hw8 hz hzs hsA hsB hj
    go_wp2_with fail
    rw [HW8.out]
    obtain ⟨hb, ho, hl⟩ := HO.out
    obtain ⟨q0, q1⟩ := hb.cells
    exact bodyPost_ret (v := .agg #[.string z, .slice a L.length c]) (by simp [results, Tryz.results27, go_sem, q0, q1]) rfl ⟨_, _, _, rfl, HSm2.out, ho, hl⟩
  · by_cases hL0 : 0 < L.length
    · obtain ⟨g, c', hv, _⟩ := HH5.out.own.cell0 hL0
      simp only [Value.slice.injEq, true_and] at hv
      obtain ⟨rfl, rfl⟩ := hv
      obtain ⟨j, hj⟩ : ∃ j, x % 5 = j := ⟨_, rfl⟩
      have hj5 : j < 5 := by omega
      have hrem : (x : Int).tmod 5 = (j : Int) := by rw [Int.tmod_eq_emod_of_nonneg (by omega)]; omega
      have hj0 : (0 : Int) ≤ (j : Int) := by omega
      have hj5i : (j : Int) < 5 := by omega
      have hL0i : (0 : Int) < (L.length : Int) := by omega
      have H5 := HH5.out
      obtain ⟨y0, y1⟩ := H5.box.cells
      clear HH5 hj
      rw [← HW5.out] at y0 y1
      go_wp2_with fail
      rw [HW5.out] at y0 y1 ⊢
      have H6 := H5.next (⟨rfl, rfl, rfl, Nat.le_refl _, fun _ _ => rfl⟩ : Below w5.heap.size w5 w5.drew)
      go_region_law (first
        | (go_simp; go_at_call 28; refine (long_any _ 21 97 (by omega) (by omega) (by omega) (by omega)).mono ?_; rintro e w7 ⟨sA, hsA, rfl, hb7⟩; have H7 := H6.next hb7; obtain ⟨q0, q1⟩ := H7.box.cells; have q1' := fun o => kept_xD (w := w7) q1 o; obtain ⟨z, hzs, lit⟩ := lit5a w7 sA j hj5 hsA; obtain ⟨g', c', hv', e0, e1, e2, e3, hg'⟩ := H7.own.cell0 hL0; simp only [Value.slice.injEq, true_and, Option.some.injEq, Addr.mk.injEq, and_true] at hv'; obtain ⟨rfl, rfl⟩ := hv'; have e0' := fun o => kept_xD (w := w7) e0 o; have e1' := fun o => kept_xD (w := w7) e1 o; have e2' := fun o => frozen_xD (w := w7) e2 hg' o; have e3' := fun o => frozen_xD (w := w7) e3 hg' o))
      all_goals (
        have hm := H7.own.mod0 rfl z
        have H8 := H7.row hm.1 hm.2
        obtain ⟨w8, hw8⟩ : ∃ q, (w7.setCell ⟨g, 0, none⟩ (.string z)).alloc (.cells #[.string ⟨#[]⟩, .string ⟨#[65]⟩, .string ⟨#[97, 32, 98]⟩, .string sA, .string ⟨#[45]⟩] 9) = q := ⟨_, rfl⟩
        rw [hw8]
        have H9 := H8.next (wj := w8) (by rw [← hw8]; exact (Below.refl _ _).alloc (Nat.le_refl _) _)
        obtain ⟨t0, t1⟩ := H9.box.cells
        obtain ⟨r0, r1⟩ := H9.res.cells
        have f0 := H9.res.thaw 0
        have f1 := H9.res.thaw 1
        have HO : Hid _ := H9.out
        have HSm2 : Hid (SmD line (L.modify 0 fun f => (z, f.2))) := HSm.out.mod _ (fun f hf => ⟨by exact hzs, hf.2⟩)
        clear H5 H6 H7 H8 H9 hw8 hzs hsA hm lit q0 q1 q1' e0 e1 e2 e3 e0' e1' e2' e3'
        go_wp2_with fail
        obtain ⟨hb, ho, hl⟩ := HO.out
        obtain ⟨q0, q1⟩ := hb.cells
        exact bodyPost_ret (v := .agg #[.string line, .slice (some ⟨g, 0, none⟩) L.length c]) (by simp [results, Tryz.results27, go_sem, q0, q1]) rfl ⟨_, _, _, rfl, HSm2.out, ho, hl⟩)
    · have hL0i : ¬ (0 : Int) < (L.length : Int) := by omega
      have H5 := HH5.out
      obtain ⟨y0, y1⟩ := H5.box.cells
      obtain ⟨r0, r1⟩ := H5.res.cells
      have f0 := H5.res.thaw 0
      have f1 := H5.res.thaw 1
      have HO : Hid _ := H5.out
      clear H5 HH5
      rw [← HW5.out] at y0 y1 r0 r1 f0 f1
      go_wp2_with fail
      rw [HW5.out]
      obtain ⟨hb, ho, hl⟩ := HO.out
      obtain ⟨q0, q1⟩ := hb.cells
      exact bodyPost_ret (v := .agg #[.string line, .slice a L.length c]) (by simp [results, Tryz.results27, go_sem, q0, q1]) rfl ⟨line, _, L, rfl, HSm.out, ho, hl⟩
  · by_cases hL0 : 0 < L.length
    · obtain ⟨g, c', hv, _⟩ := HH5.out.own.cell0 hL0
      simp only [Value.slice.injEq, true_and] at hv
      obtain ⟨rfl, rfl⟩ := hv
      obtain ⟨j, hj⟩ : ∃ j, x % 5 = j := ⟨_, rfl⟩
      have hj5 : j < 5 := by omega
      have hrem : (x : Int).tmod 5 = (j : Int) := by rw [Int.tmod_eq_emod_of_nonneg (by omega)]; omega
      have hj0 : (0 : Int) ≤ (j : Int) := by omega
      have hj5i : (j : Int) < 5 := by omega
      have hL0i : (0 : Int) < (L.length : Int) := by omega
      have H5 := HH5.out
      obtain ⟨y0, y1⟩ := H5.box.cells
      clear HH5 hj
      rw [← HW5.out] at y0 y1
      go_wp2_with fail
      rw [HW5.out] at y0 y1 ⊢
      have H6 := H5.next (⟨rfl, rfl, rfl, Nat.le_refl _, fun _ _ => rfl⟩ : Below w5.heap.size w5 w5.drew)
      go_region_law (first
        | (go_simp; go_at_call 28; refine (long_any _ _ 97 (by omega) (by omega) (by omega) (by omega)).mono ?_; first | (rintro e w7 ⟨sB, hsB, rfl, hb7⟩; have H7 := H7a.next hb7; obtain ⟨q0, q1⟩ := H7.box.cells; have q1' := fun o => kept_xD (w := w7) q1 o; obtain ⟨z, hzs, lit⟩ := lit5b w7 sA sB j hj5 hsA hsB; obtain ⟨g', c', hv', e0, e1, e2, e3, hg'⟩ := H7.own.cell0 hL0; simp only [Value.slice.injEq, true_and, Option.some.injEq, Addr.mk.injEq, and_true] at hv'; obtain ⟨rfl, rfl⟩ := hv'; have e0' := fun o => kept_xD (w := w7) e0 o; have e1' := fun o => kept_xD (w := w7) e1 o; have e2' := fun o => frozen_xD (w := w7) e2 hg' o; have e3' := fun o => frozen_xD (w := w7) e3 hg' o) | (rintro e w7a ⟨sA, hsA, rfl, hb7a⟩; have H7a := H6.next hb7a; obtain ⟨qa0, qa1⟩ := H7a.box.cells)))
      all_goals (
        have hm := H7.own.mod1 rfl z
        have H8 := H7.row hm.1 hm.2
        obtain ⟨w8, hw8⟩ : ∃ q, (w7.setCell ⟨g, 1, none⟩ (.string z)).alloc (.cells #[.string ⟨#[32, 97]⟩, .string ⟨#[97, 32]⟩, .string sA, .string sB, .string ⟨#[10]⟩] 9) = q := ⟨_, rfl⟩
        rw [hw8]
        have H9 := H8.next (wj := w8) (by rw [← hw8]; exact (Below.refl _ _).alloc (Nat.le_refl _) _)
        obtain ⟨t0, t1⟩ := H9.box.cells
        obtain ⟨r0, r1⟩ := H9.res.cells
        have f0 := H9.res.thaw 0
        have f1 := H9.res.thaw 1
        have HO : Hid _ := H9.out
        have HSm2 : Hid (SmD line (L.modify 0 fun f => (f.1, z))) := HSm.out.mod _ (fun f hf => ⟨hf.1, by exact hzs⟩)
        clear H5 H6 H7 H8 H9 hw8 hzs hsA hm lit q0 q1 q1' e0 e1 e2 e3 e0' e1' e2' e3'
        go_wp2_with fail
        obtain ⟨hb, ho, hl⟩ := HO.out
        obtain ⟨q0, q1⟩ := hb.cells
        exact bodyPost_ret (v := .agg #[.string line, .slice (some ⟨g, 0, none⟩) L.length c]) (by simp [results, Tryz.results27, go_sem, q0, q1]) rfl ⟨_, _, _, rfl, HSm2.out, ho, hl⟩)
    · have hL0i : ¬ (0 : Int) < (L.length : Int) := by omega
      have H5 := HH5.out
      obtain ⟨y0, y1⟩ := H5.box.cells
      obtain ⟨r0, r1⟩ := H5.res.cells
      have f0 := H5.res.thaw 0
      have f1 := H5.res.thaw 1
      have HO : Hid _ := H5.out
      clear H5 HH5
      rw [← HW5.out] at y0 y1 r0 r1 f0 f1
      go_wp2_with fail
      rw [HW5.out]
      obtain ⟨hb, ho, hl⟩ := HO.out
      obtain ⟨q0, q1⟩ := hb.cells
      exact bodyPost_ret (v := .agg #[.string line, .slice a L.length c]) (by simp [results, Tryz.results27, go_sem, q0, q1]) rfl ⟨line, _, L, rfl, HSm.out, ho, hl⟩
  · have H5 := HH5.out
    obtain ⟨y0, y1⟩ := H5.box.cells
    rw [← HW5.out] at y0 y1
    obtain ⟨j, hj⟩ : ∃ j, x % 2 = j := ⟨_, rfl⟩
    have hj2 : j < 2 := by omega
    have hrem : (x : Int).tmod 2 = (j : Int) := by rw [Int.tmod_eq_emod_of_nonneg (by omega)]; omega
    obtain ⟨i, hi⟩ : ∃ i, x % 40 = i := ⟨_, rfl⟩
    have hi40 : i < 40 := by omega
    have hremi : (x : Int).tmod 40 = (i : Int) := by rw [Int.tmod_eq_emod_of_nonneg (by omega)]; omega
    clear hj hi H5
    obtain ⟨T, hT⟩ : ∃ T, w4.heap.size = T := ⟨_, rfl⟩
    rw [hT] at HH5
    go_wp2_with fail
    rw [HW5.out]
    clear y0 y1 HW5 hT
    go_loopw [] (fun wr => Box (∃ (v : Value) (L : List (ByteArray × ByteArray)), Hid (SmD line L) ∧ Lh w p ca n cap w.heap.size T line v L wr))
      (fun wr => 20 - lenAt wr T)
    case atStart => exact ⟨⟨_, L, HSm, HH5.out⟩⟩
    case round =>
      clear HSm HH5
      obtain ⟨v, M, HS, H⟩ := hrel.out
      clear hrel
      obtain ⟨aM, cM, rfl, _⟩ := H.at
      have hL9 : M.length ≤ 9 := HS.out.2.1
      have hadd : IntKind.i64.wrap (8 + (j : Int)) = 8 + (j : Int) := by rw [IntKind.wrap_i64]; omega
      obtain ⟨y0, y1⟩ := H.box.cells
      have hln : lenAt wr T = M.length := by unfold lenAt; rw [y1]
      by_cases hlt : (M.length : Int) < 8 + (j : Int)
      · have H6 := H.next (⟨rfl, rfl, rfl, Nat.le_refl _, fun _ _ => rfl⟩ : Below wr.heap.size wr wr.drew)
        have hLl : M.length ≤ 8 := by omega
        clear H
        go_wp2_with fail
        go_region_law (first
          | (go_simp; go_at_call 28; refine (long_any _ (i : Int) 97 (by omega) (by omega) (by omega) (by omega)).mono ?_; rintro e w7 ⟨sA, hsA, rfl, hb7⟩; have H7 := H6.next hb7; obtain ⟨q0, q1⟩ := H7.box.cells; have q0' := fun o => kept_xD (w := w7) q0 o; have q1' := fun o => kept_xD (w := w7) q1 o; have hs7 := H7.left.2.2.size)
          | (refine step_snocD (by rfl) _ _ 30 (by rfl) w.heap.size 29 Tryz.underlying30 Tryz.infoFd _ M (by rfl) (by exact H7.own.alloc _) w7.heap.size (⟨#[121]⟩, sA) (0, 0) (by rfl) (by exact heap_alloc_new w7 _) (by omega) (by simp; omega) ?_; intro g2 cap2 w8 hown2 hgr2; have hk2 := H7.gather (hW := (Below.refl _ _).alloc (Nat.le_refl _) _) hgr2 hown2; have q9 := hk2.1.cells.2; have z9 := hk2.1.thaw 1))
        all_goals (
          have H9 := hk2.2
          have HS1 : Hid (SmD line (M ++ [(⟨#[121]⟩, sA)])) := by
            refine ⟨HS.out.1, by rw [List.length_append, List.length_singleton]; omega, fun g hg => ?_⟩
            rcases List.mem_append.1 hg with h | h
            · exact HS.out.2.2 g h
            · rw [List.mem_singleton] at h; subst h; exact ⟨by show (⟨#[121]⟩ : ByteArray).size ≤ 30; decide, by show sA.size ≤ 70; omega⟩
          have hln2 := H9.box.cells.2
          have HM : Hid (lenAt (w8.setCell ⟨T, 1, none⟩ (.slice (some ⟨g2, 0, none⟩) (M.length + 1) cap2)) T = M.length + 1 ∧ lenAt wr T = M.length ∧ M.length ≤ 8) := ⟨by unfold lenAt; rw [hln2], hln, hLl⟩
          have HH : Hid _ := H9
          clear hk2 hown2 hgr2 q9 z9 q0 q1 q0' q1' H7 H6 hs7 H9 hln2 hln
          go_wp2_with fail
          refine ⟨?_, ?_⟩
          · exact ⟨⟨_, _, HS1, HH.out⟩⟩
          · have h := HM.out; rw [h.1, h.2.1]; omega)
      · obtain ⟨r0, r1⟩ := H.res.cells
        have f0 := H.res.thaw 0
        have f1 := H.res.thaw 1
        have HO : Hid _ := H.out
        clear H hln
        go_wp2_with fail
        obtain ⟨hb, ho, hl⟩ := HO.out
        obtain ⟨q0, q1⟩ := hb.cells
        exact bodyPost_ret (v := .agg #[.string line, .slice aM M.length cM]) (by simp [results, Tryz.results27, go_sem, q0, q1]) rfl (by first | exact ⟨line, _, M, rfl, HS.out, ho, hl⟩ | exact ⟨line, _, rfl, M, HS.out, ho, hl⟩)
  · have k0 : ((kk : Int) == 0) = false := by simp; omega
    have k1 : ((kk : Int) == 1) = false := by simp; omega
    have k2 : ((kk : Int) == 2) = false := by simp; omega
    have k3 : ((kk : Int) == 3) = false := by simp; omega
    have H5 := HH5.out
    obtain ⟨y0, y1⟩ := H5.box.cells
    obtain ⟨r0, r1⟩ := H5.res.cells
    have f0 := H5.res.thaw 0
    have f1 := H5.res.thaw 1
    have HO : Hid _ := H5.out
    clear H5 HH5
    rw [← HW5.out] at y0 y1 r0 r1 f0 f1
    go_wp2_with fail
    rw [HW5.out]
    obtain ⟨hb, ho, hl⟩ := HO.out
    obtain ⟨q0, q1⟩ := hb.cells
    exact bodyPost_ret (v := .agg #[.string line, .slice a L.length c]) (by simp [results, Tryz.results27, go_sem, q0, q1]) rfl ⟨line, _, L, rfl, HSm.out, ho, hl⟩
end Go.Proofs.YtnnaphfeeobelaeGreatDoor
