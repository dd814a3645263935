/- DrawBodyOf: a head, and a text behind it. -/
import Derived.Test.YtnnaphfeeobelaeDoorBodyDraw
import Derived.Test.YtnnaphfeeobelaeDoorHeadAny
import Derived.Test.YtnnaphfeeobelaeDoorNumPlainJ
import Derived.Test.YtnnaphfeeobelaeDoorFigJ
namespace Go.Proofs.YtnnaphfeeobelaeDoor
open Go.RowKit Go.Sort
theorem lit1D (w : World) (f : ByteArray × ByteArray) : OwnD (w.alloc (.cells #[.string f.1, .string f.2] 41)) w.heap.size 41 (.slice (some ⟨w.heap.size, 0, none⟩) 1 1) [f] :=
  World.ownsRow_lit (base := w.heap.size) (e := 41) (size := 2) w #[.string f.1, .string f.2] 1 (Nat.le_refl _) (by simp [maxLen]) (by rfl)
theorem lit2O (w : World) (f g : ByteArray × ByteArray) : OwnD (w.alloc (.cells #[.string f.1, .string f.2, .string g.1, .string g.2] 41)) w.heap.size 41 (.slice (some ⟨w.heap.size, 0, none⟩) 2 2) [f, g] :=
  World.ownsRow_lit (base := w.heap.size) (e := 41) (size := 2) w #[.string f.1, .string f.2, .string g.1, .string g.2] 2 (Nat.le_refl _) (by simp [maxLen]) (by rfl)
/-- What stands when a drawn head is handed on. -/
structure Hb (w : World) (T : Nat) (line : ByteArray) (a : Option Addr) (c : Nat) (L : List (ByteArray × ByteArray)) (wE : World) : Prop where
  bel : Below w.heap.size w wE
  ans : HBx wE w.heap.size 35 (.string ⟨#[]⟩) (.slice none 0 0)
  box : HBx wE T 35 (.string line) (.slice a L.length c)
  own : OwnD wE (w.heap.size + 1) 41 (.slice a L.length c) L
  far : w.heap.size < T
  sz : SmD line L
theorem Hb.on {w : World} {T : Nat} {line : ByteArray} {a : Option Addr} {c : Nat} {L : List (ByteArray × ByteArray)} {wE wF : World} (h : Hb w T line a c L wE) (hb : Below wE.heap.size wE wF) : Hb w T line a c L wF :=
  ⟨h.bel.trans (hb.mono h.bel.size), h.ans.on hb, h.box.on hb, h.own.below hb (Nat.le_refl _), h.far, h.sz⟩
/-- The fields are others. -/
theorem Hb.set {w : World} {T : Nat} {line : ByteArray} {a a' : Option Addr} {c c' : Nat} {L L' : List (ByteArray × ByteArray)} {wE : World} (h : Hb w T line a c L wE) (ho : OwnD wE (w.heap.size + 1) 41 (.slice a' L'.length c') L') (hs : SmD line L') : Hb w T line a' c' L' (wE.setCell ⟨T, 1, none⟩ (.slice a' L'.length c')) := by
  have hf := h.far
  refine ⟨h.bel.trans ⟨rfl, rfl, rfl, by simp [World.setCell], fun j hj => Below.heap_setCell _ _ _ _ (by simp only; omega)⟩, h.ans.kept (Below.heap_setCell _ _ _ _ (by simp only; omega)), h.box.set1 _, ho.kept fun k hk => Below.heap_setCell _ _ _ _ (h.box.neD (by decide) ho k hk), hf, hs⟩
theorem Hb.fin {w : World} {T : Nat} {line : ByteArray} {a : Option Addr} {c : Nat} {L : List (ByteArray × ByteArray)} {wE : World} (h : Hb w T line a c L wE) :
    HBx ((wE.setCell ⟨w.heap.size, 0, none⟩ (.string line)).setCell ⟨w.heap.size, 1, none⟩ (.slice a L.length c)) w.heap.size 35 (.string line) (.slice a L.length c) ∧
    DAt ((wE.setCell ⟨w.heap.size, 0, none⟩ (.string line)).setCell ⟨w.heap.size, 1, none⟩ (.slice a L.length c)) a L ((wE.setCell ⟨w.heap.size, 0, none⟩ (.string line)).setCell ⟨w.heap.size, 1, none⟩ (.slice a L.length c)).heap.size ∧
    Below w.heap.size w ((wE.setCell ⟨w.heap.size, 0, none⟩ (.string line)).setCell ⟨w.heap.size, 1, none⟩ (.slice a L.length c)) := by
  have hO := h.own.kept (w' := (wE.setCell ⟨w.heap.size, 0, none⟩ (.string line)).setCell ⟨w.heap.size, 1, none⟩ (.slice a L.length c)) fun k hk => put2_other _ _ _ _ k (h.ans.neD (by decide) h.own k hk)
  obtain ⟨a9, c9, e9, hD⟩ := hO.at
  injection e9 with e1 _ _
  rw [← e1] at hD
  refine ⟨h.ans.put _ _, hD, (h.bel.setCell (p := ⟨w.heap.size, 0, none⟩) (Nat.le_refl _) _).setCell (p := ⟨w.heap.size, 1, none⟩) (Nat.le_refl _) _⟩
theorem sm1 {line : ByteArray} {f : ByteArray × ByteArray} (h0 : line.size ≤ 90) (h1 : f.1.size ≤ 30) (h2 : f.2.size ≤ 70) : SmD line [f] :=
  ⟨h0, by simp, fun g hg => by simp at hg; subst hg; exact ⟨h1, h2⟩⟩
theorem sm2 {line : ByteArray} {f g : ByteArray × ByteArray} (h0 : line.size ≤ 90) (h1 : f.1.size ≤ 30 ∧ f.2.size ≤ 70) (h2 : g.1.size ≤ 30 ∧ g.2.size ≤ 70) : SmD line [f, g] :=
  ⟨h0, by simp, fun q hq => by simp at hq; rcases hq with rfl | rfl; exact h1; exact h2⟩
set_option maxRecDepth 100000 in
set_option maxHeartbeats 8000000 in
theorem drawBodyOf_any (w : World) (ca : Option Addr) (n cap : Nat) (hcode : CodeAt w ca n w.heap.size) (hn : n ≤ 1048576) :
    Calls Tryd.prog 15 #[.slice ca n cap] w fun e w' => ∃ (line : ByteArray) (a : Option Addr) (c : Nat) (L : List (ByteArray × ByteArray)) (t : ByteArray), e = .returned (.tuple #[.agg #[.string line, .slice a L.length c], .string t]) ∧ HdSz line L ∧ t.size ≤ 2000 ∧ Tame t ∧ DAt w' a L w'.heap.size ∧ Below w.heap.size w w' := by
  obtain ⟨w1, hw1⟩ : ∃ x, w.alloc (.cells #[.string ⟨#[]⟩, .slice none 0 0] 35) = x := ⟨_, rfl⟩
  have hb1 : Below w.heap.size w w1 := by rw [← hw1]; exact (Below.refl _ _).alloc (Nat.le_refl _) _
  have hR1 : HBx w1 w.heap.size 35 (.string ⟨#[]⟩) (.slice none 0 0) := by rw [← hw1]; exact HBx.new _ _ _ _
  have hc1 : CodeAt w1 ca n w1.heap.size := by
    intro j hj
    obtain ⟨b, off, z, h1, h2, h3, h4⟩ := hcode j hj
    exact ⟨b, off, z, h1, Nat.lt_of_lt_of_le h2 hb1.size, (hb1.cell (p := ⟨b, off + j, none⟩) h2).trans h3, h4⟩
  have c1 := new_any w1 ca n cap hc1 hn
  have HW : Hid (w.alloc (.cells #[.string ⟨#[]⟩, .slice none 0 0] 35) = w1) := hw1
  clear hcode hw1 hc1
  go_enter Tryd.func15, Tryd.ntmps15
  go_wp2_with fail
  rw [HW.out]
  refine c1.mono ?_
  rintro e w2 ⟨p, rfl, hp1, hp2, hc2, hcd2, hb2⟩
  have hR2 := hR1.on hb2
  have hb12 := hb1.trans (hb2.mono hb1.size)
  have hlt1 := hR1.lt
  have c2 := below_any w2 p ca n cap 10 hc2 hcd2 hn (by omega) (by omega)
  clear c1 hb1 hR1 HW
  go_wp2_with fail
  refine c2.mono ?_
  rintro e w3 ⟨k, hk, _, rfl, hl3⟩
  have hk2 := hk (by omega)
  have c3 := below_any w3 p ca n cap 60 hl3.1 hl3.2.1 hn (by omega) (by omega)
  clear c2 hk
  go_wp2_with fail
  refine c3.mono ?_
  rintro e w4 ⟨x, hx, _, rfl, hl4⟩
  have hx2 := hx (by omega)
  have hl24 := hl3.trans hl4
  have c4 := l11Body_any w4 p ca n cap hl24.1 hl24.2.1 hn
  clear c3 hx hl3 hl4
  go_wp2_with fail
  refine c4.mono ?_
  rintro e w5 ⟨t, rfl, ht, htm, hl5⟩
  have hl25 := hl24.trans hl5
  have c5 := l09Head_any w5 p ca n cap hl25.1 hl25.2.1 hn
  clear c4 hl24 hl5
  go_wp2_with fail
  refine c5.mono ?_
  rintro e w6 ⟨line, v, L, rfl, hli, hfd, hL3, ho6, hl6⟩
  have hl26 := hl25.trans hl6
  have hlt := hR2.lt
  have hR6 : HBx w6 w.heap.size 35 (.string ⟨#[]⟩) (.slice none 0 0) := hR2.kept (hl26.2.2.block _ hlt (fun e => by cases e; omega))
  have hb6 : Below w.heap.size w w6 := below_of_left hb12 (by omega) hl26
  have hs25 := hl25.2.2.size
  have hs12 := hb2.size
  have ho6' := ho6.mono (show w.heap.size + 1 ≤ w5.heap.size by omega)
  have hs6 := hl26.2.2.size
  have hsm := SmD.drawn hli hfd hL3
  obtain ⟨a, c, rfl, _⟩ := ho6.at
  obtain ⟨w7, hw7⟩ : ∃ x, w6.alloc (.cells #[.string line, .slice a L.length c] 35) = x := ⟨_, rfl⟩
  obtain ⟨T, hT⟩ : ∃ x, w6.heap.size = x := ⟨_, rfl⟩
  have hb7 : Below w6.heap.size w6 w7 := by rw [← hw7]; exact (Below.refl _ _).alloc (Nat.le_refl _) _
  have hX7 : HBx w7 T 35 (.string line) (.slice a L.length c) := by rw [← hw7, ← hT]; exact HBx.new _ _ _ _
  have H7 : Hb w T line a c L w7 := ⟨hb6.trans (hb7.mono hb6.size), hR6.on hb7, hX7, ho6'.below hb7 (Nat.le_refl _), by omega, hsm⟩
  have hs7 : w7.heap.size = T + 1 := by rw [← hw7, ← hT]; simp
  have HT : Hid (t.size ≤ 2000 ∧ Tame t) := ⟨ht, htm⟩
  have hl90 : line.size ≤ 90 := hsm.1
  clear c5 hl25 hl6 hl26 hR2 hR6 hb6 ho6 ho6' hb12 hb2 hc2 hcd2 hp1 hp2 hlt hlt1 hs25 hs12 hs6 hb7 hX7 hli hfd hL3 hsm ht htm
  have HF : Hid (∀ (wE : World) (a' : Option Addr) (c' : Nat) (L' : List (ByteArray × ByteArray)), Hb w T line a' c' L' wE → wE.cell? ⟨w.heap.size, 0, none⟩ = some (.string ⟨#[]⟩) ∧ wE.cell? ⟨w.heap.size, 1, none⟩ = some (.slice none 0 0) ∧ wE.frozen? ⟨w.heap.size, 0, none⟩ = false ∧ wE.frozen? ⟨w.heap.size, 1, none⟩ = false ∧ wE.cell? ⟨T, 0, none⟩ = some (.string line) ∧ wE.cell? ⟨T, 1, none⟩ = some (.slice a' L'.length c') ∧ wE.frozen? ⟨T, 1, none⟩ = false) := fun wE a' c' L' h => ⟨h.ans.cells.1, h.ans.cells.2, h.ans.thaw 0, h.ans.thaw 1, h.box.cells.1, h.box.cells.2, h.box.thaw 1⟩
  by_cases k0 : k = 0 ∨ k = 1 ∨ k = 2
  · obtain ⟨w8, hw8⟩ : ∃ x, w7.alloc (.cells #[.string ⟨#[116, 114, 97, 110, 115, 102, 101, 114, 45, 101, 110, 99, 111, 100, 105, 110, 103]⟩, .string ⟨#[99, 104, 117, 110, 107, 101, 100]⟩] 41) = x := ⟨_, rfl⟩
    have hb8 : Below w7.heap.size w7 w8 := by rw [← hw8]; exact (Below.refl _ _).alloc (Nat.le_refl _) _
    have ho8 : OwnD w8 (w.heap.size + 1) 41 (.slice (some ⟨T + 1, 0, none⟩) 1 1) [(teN, chN)] := by rw [← hw8, ← hs7]; exact (lit1D w7 (teN, chN)).mono (by have := H7.far; omega)
    have H8 := H7.on hb8
    have H9 : Hb w T line (some ⟨T + 1, 0, none⟩) 1 [(teN, chN)] (w8.setCell ⟨T, 1, none⟩ (.slice (some ⟨T + 1, 0, none⟩) 1 1)) := H8.set ho8 (sm1 hl90 (by decide) (by decide))
    obtain ⟨r0, r1, z0, z1, x0, x1, y1⟩ := HF.out _ _ _ _ H8
    obtain ⟨w9, hw9⟩ : ∃ x, w8.setCell ⟨T, 1, none⟩ (.slice (some ⟨T + 1, 0, none⟩) 1 1) = x := ⟨_, rfl⟩
    rw [hw9] at H9
    obtain ⟨r0', r1', z0', z1', x0', x1', y1'⟩ := HF.out _ _ _ _ H9
    have HFIN : Hid _ := H9.fin
    have HSZ : Hid (HdSz line [(teN, chN)]) := H9.sz.sz
    clear hb8 ho8 H8 H9 H7 HF
    rcases k0 with rfl | rfl | rfl
    all_goals (
      go_wp2_with fail
      obtain ⟨hfin, hD, hB⟩ := HFIN.out
      have q0 : ((w9.setCell ⟨w.heap.size, 0, none⟩ (.string line)).setCell ⟨w.heap.size, 1, none⟩ (.slice (some ⟨T + 1, 0, none⟩) 1 1)).cell? ⟨w.heap.size, 0, none⟩ = some (.string line) := hfin.cells.1
      have q1 : ((w9.setCell ⟨w.heap.size, 0, none⟩ (.string line)).setCell ⟨w.heap.size, 1, none⟩ (.slice (some ⟨T + 1, 0, none⟩) 1 1)).cell? ⟨w.heap.size, 1, none⟩ = some (.slice (some ⟨T + 1, 0, none⟩) 1 1) := hfin.cells.2
      refine bodyPost_ret (v := .tuple #[.agg #[.string line, .slice (some ⟨T + 1, 0, none⟩) 1 1], .string t]) (by simp [results, Tryd.results15, go_sem, q0, q1]) rfl ?_
      exact ⟨line, _, _, [(teN, chN)], t, rfl, HSZ.out, HT.out.1, HT.out.2, hD, hB⟩)
  by_cases k3 : k = 3 ∨ k = 4
  · obtain ⟨D, hD⟩ : ∃ D, decB x = D := ⟨_, rfl⟩
    have cD := specDecimal_any (x : Int) w7 (by omega) (by omega)
    have hDz : D.size ≤ 3 := by rw [← hD]; exact decB_size x (by omega)
    have hDe : (⟨(decOf (x : Int)).toArray⟩ : ByteArray) = D := hD
    rw [hDe] at cD
    have KON : Hid (∀ wq, Below w7.heap.size w7 wq → ∀ T1, wq.heap.size = T1 → ∃ w8, wq.alloc (.cells #[.string ⟨#[99, 111, 110, 116, 101, 110, 116, 45, 108, 101, 110, 103, 116, 104]⟩, .string D] 41) = w8 ∧ Hb w T line a c L w8 ∧ Hb w T line (some ⟨T1, 0, none⟩) 1 [(clN, D)] (w8.setCell ⟨T, 1, none⟩ (.slice (some ⟨T1, 0, none⟩) 1 1))) := by
      intro wq hq T1 hT1
      refine ⟨_, rfl, ?_⟩
      have Hq := H7.on hq
      have hb8 : Below wq.heap.size wq (wq.alloc (.cells #[.string ⟨#[99, 111, 110, 116, 101, 110, 116, 45, 108, 101, 110, 103, 116, 104]⟩, .string D] 41)) := (Below.refl _ _).alloc (Nat.le_refl _) _
      have ho8 : OwnD (wq.alloc (.cells #[.string ⟨#[99, 111, 110, 116, 101, 110, 116, 45, 108, 101, 110, 103, 116, 104]⟩, .string D] 41)) (w.heap.size + 1) 41 (.slice (some ⟨T1, 0, none⟩) 1 1) [(clN, D)] := by rw [← hT1]; exact (lit1D wq (clN, D)).mono (by have := H7.far; have := hq.size; omega)
      exact ⟨Hq.on hb8, (Hq.on hb8).set ho8 (sm1 hl90 (show clN.size ≤ 30 by decide) (by show D.size ≤ 70; omega))⟩
    clear hD hDe H7 hs7
    rcases k3 with rfl | rfl
    all_goals (
      go_wp2_with fail
      refine cD.mono ?_
      rintro e wq ⟨rfl, hq⟩
      obtain ⟨T1, hT1⟩ : ∃ x, wq.heap.size = x := ⟨_, rfl⟩
      obtain ⟨w8, hw8, H8, H9⟩ := KON.out wq hq T1 hT1
      obtain ⟨r0, r1, z0, z1, x0, x1, y1⟩ := HF.out _ _ _ _ H8
      obtain ⟨w9, hw9⟩ : ∃ x, w8.setCell ⟨T, 1, none⟩ (.slice (some ⟨T1, 0, none⟩) 1 1) = x := ⟨_, rfl⟩
      rw [hw9] at H9
      obtain ⟨r0', r1', z0', z1', x0', x1', y1'⟩ := HF.out _ _ _ _ H9
      have HFIN : Hid _ := H9.fin
      have HSZ : Hid (HdSz line [(clN, D)]) := H9.sz.sz
      clear H8 H9 HF KON hq cD
      go_wp2_with fail
      obtain ⟨hfin, hD, hB⟩ := HFIN.out
      have q0 : ((w9.setCell ⟨w.heap.size, 0, none⟩ (.string line)).setCell ⟨w.heap.size, 1, none⟩ (.slice (some ⟨T1, 0, none⟩) 1 1)).cell? ⟨w.heap.size, 0, none⟩ = some (.string line) := hfin.cells.1
      have q1 : ((w9.setCell ⟨w.heap.size, 0, none⟩ (.string line)).setCell ⟨w.heap.size, 1, none⟩ (.slice (some ⟨T1, 0, none⟩) 1 1)).cell? ⟨w.heap.size, 1, none⟩ = some (.slice (some ⟨T1, 0, none⟩) 1 1) := hfin.cells.2
      refine bodyPost_ret (v := .tuple #[.agg #[.string line, .slice (some ⟨T1, 0, none⟩) 1 1], .string t]) (by simp [results, Tryd.results15, go_sem, q0, q1]) rfl ?_
      exact ⟨line, _, _, [(clN, D)], t, rfl, HSZ.out, HT.out.1, HT.out.2, hD, hB⟩)
  by_cases k5 : k = 5
  · subst k5
    obtain ⟨d, hd⟩ : ∃ d : Nat, (d : Int) = (x : Int) % 4 := ⟨x % 4, by omega⟩
    have m1 : (x : Int).tmod 4 = (d : Int) := by rw [Int.tmod_eq_emod_of_nonneg (by omega)]; exact hd.symm
    have hd1 : d < 4 := by omega
    obtain ⟨wS, hwS⟩ : ∃ x, w7.alloc (.cells #[.string ⟨#[53]⟩, .string ⟨#[48, 53]⟩, .string ⟨#[54]⟩, .string ⟨#[120]⟩] 9) = x := ⟨_, rfl⟩
    have hbS : Below w7.heap.size w7 wS := by rw [← hwS]; exact (Below.refl _ _).alloc (Nat.le_refl _) _
    have hsS : wS.heap.size = T + 1 + 1 := by rw [← hwS]; simp; omega
    have HS := H7.on hbS
    have hXS : wS.heap[T + 1]? = some (.cells #[.string ⟨#[53]⟩, .string ⟨#[48, 53]⟩, .string ⟨#[54]⟩, .string ⟨#[120]⟩] 9 (0, 0)) := by rw [← hwS, ← hs7]; exact heap_alloc_new w7 _
    have KON : Hid (∀ z : ByteArray, z.size ≤ 3 → ∃ w8, wS.alloc (.cells #[.string ⟨#[99, 111, 110, 116, 101, 110, 116, 45, 108, 101, 110, 103, 116, 104]⟩, .string ⟨#[53]⟩, .string ⟨#[99, 111, 110, 116, 101, 110, 116, 45, 108, 101, 110, 103, 116, 104]⟩, .string z] 41) = w8 ∧ Hb w T line a c L w8 ∧ Hb w T line (some ⟨T + 1 + 1, 0, none⟩) 2 [(clN, ⟨#[53]⟩), (clN, z)] (w8.setCell ⟨T, 1, none⟩ (.slice (some ⟨T + 1 + 1, 0, none⟩) 2 2))) := by
      intro z hz
      refine ⟨_, rfl, ?_⟩
      have hb8 : Below wS.heap.size wS (wS.alloc (.cells #[.string ⟨#[99, 111, 110, 116, 101, 110, 116, 45, 108, 101, 110, 103, 116, 104]⟩, .string ⟨#[53]⟩, .string ⟨#[99, 111, 110, 116, 101, 110, 116, 45, 108, 101, 110, 103, 116, 104]⟩, .string z] 41)) := (Below.refl _ _).alloc (Nat.le_refl _) _
      have ho8 : OwnD (wS.alloc (.cells #[.string ⟨#[99, 111, 110, 116, 101, 110, 116, 45, 108, 101, 110, 103, 116, 104]⟩, .string ⟨#[53]⟩, .string ⟨#[99, 111, 110, 116, 101, 110, 116, 45, 108, 101, 110, 103, 116, 104]⟩, .string z] 41)) (w.heap.size + 1) 41 (.slice (some ⟨T + 1 + 1, 0, none⟩) 2 2) [(clN, ⟨#[53]⟩), (clN, z)] := by rw [← hsS]; exact (lit2O wS (clN, ⟨#[53]⟩) (clN, z)).mono (by have := H7.far; omega)
      exact ⟨HS.on hb8, (HS.on hb8).set ho8 (sm2 hl90 ⟨by decide, by decide⟩ ⟨(show clN.size ≤ 30 by decide), by show z.size ≤ 70; omega⟩)⟩
    clear hd hbS
    obtain ⟨z, hz, hzc⟩ : ∃ z : ByteArray, z.size ≤ 3 ∧ wS.cell? ⟨T + 1, d, none⟩ = some (.string z) := by
      obtain rfl | rfl | rfl | rfl : d = 0 ∨ d = 1 ∨ d = 2 ∨ d = 3 := by omega
      · exact ⟨⟨#[53]⟩, by decide, by simp [World.cell?, hXS]⟩
      · exact ⟨⟨#[48, 53]⟩, by decide, by simp [World.cell?, hXS]⟩
      · exact ⟨⟨#[54]⟩, by decide, by simp [World.cell?, hXS]⟩
      · exact ⟨⟨#[120]⟩, by decide, by simp [World.cell?, hXS]⟩
    obtain ⟨w8, hw8, H8, H9⟩ := KON.out z hz
    obtain ⟨r0, r1, z0, z1, x0, x1, y1⟩ := HF.out _ _ _ _ H8
    obtain ⟨w9, hw9⟩ : ∃ x, w8.setCell ⟨T, 1, none⟩ (.slice (some ⟨T + 1 + 1, 0, none⟩) 2 2) = x := ⟨_, rfl⟩
    rw [hw9] at H9
    obtain ⟨r0', r1', z0', z1', x0', x1', y1'⟩ := HF.out _ _ _ _ H9
    have HFIN : Hid _ := H9.fin
    have HSZ : Hid (HdSz line [(clN, ⟨#[53]⟩), (clN, z)]) := H9.sz.sz
    have hd4 : (d : Int) < 4 := by omega
    have hd0 : (0 : Int) ≤ (d : Int) := by omega
    clear H8 H9 HF KON HS H7 hXS
    go_wp2_with fail
    obtain ⟨hfin, hD, hB⟩ := HFIN.out
    have q0 : ((w9.setCell ⟨w.heap.size, 0, none⟩ (.string line)).setCell ⟨w.heap.size, 1, none⟩ (.slice (some ⟨T + 1 + 1, 0, none⟩) 2 2)).cell? ⟨w.heap.size, 0, none⟩ = some (.string line) := hfin.cells.1
    have q1 : ((w9.setCell ⟨w.heap.size, 0, none⟩ (.string line)).setCell ⟨w.heap.size, 1, none⟩ (.slice (some ⟨T + 1 + 1, 0, none⟩) 2 2)).cell? ⟨w.heap.size, 1, none⟩ = some (.slice (some ⟨T + 1 + 1, 0, none⟩) 2 2) := hfin.cells.2
    refine bodyPost_ret (v := .tuple #[.agg #[.string line, .slice (some ⟨T + 1 + 1, 0, none⟩) 2 2], .string t]) (by simp [results, Tryd.results15, go_sem, q0, q1]) rfl ?_
    exact ⟨line, _, _, [(clN, ⟨#[53]⟩), (clN, z)], t, rfl, HSZ.out, HT.out.1, HT.out.2, hD, hB⟩
  have e0 : (k : Int) ≠ 0 := by omega
  have e1 : (k : Int) ≠ 1 := by omega
  have e2 : (k : Int) ≠ 2 := by omega
  have e3 : (k : Int) ≠ 3 := by omega
  have e4 : (k : Int) ≠ 4 := by omega
  have e5 : (k : Int) ≠ 5 := by omega
  obtain ⟨r0, r1, z0, z1, x0, x1, y1⟩ := HF.out _ _ _ _ H7
  have HFIN : Hid _ := H7.fin
  have HSZ : Hid (HdSz line L) := H7.sz.sz
  clear H7 HF k0 k3 k5
  go_wp2_with fail
  obtain ⟨hfin, hD, hB⟩ := HFIN.out
  obtain ⟨q0, q1⟩ := hfin.cells
  refine bodyPost_ret (v := .tuple #[.agg #[.string line, .slice a L.length c], .string t]) (by simp [results, Tryd.results15, go_sem, q0, q1]) rfl ?_
  exact ⟨line, _, _, L, t, rfl, HSZ.out, HT.out.1, HT.out.2, hD, hB⟩
end Go.Proofs.YtnnaphfeeobelaeDoor
