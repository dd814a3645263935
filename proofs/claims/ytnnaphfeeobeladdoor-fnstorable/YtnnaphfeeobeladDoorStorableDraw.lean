/- A request and a response are drawn. -/
import Derived.Test.YtnnaphfeeobeladDoorHeadDrawJ
import Derived.Test.YtnnaphfeeobeladDoorHeadPlainJ
import Derived.Test.YtnnaphfeeobeladDoorFieldPlus
import Derived.Deep.RegionHeld3
namespace Go.Proofs.YtnnaphfeeobeladDoor
open Go.RowKit Go.Sort
theorem HBx.set0 {w : World} {T : Nat} {e : TypeId} {l v : Value} (h : HBx w T e l v) (y : Value) : HBx (w.setCell ⟨T, 0, none⟩ y) T e y v := by
  unfold HBx at *
  simp only [World.setCell, Array.getElem?_modify, h]
  simp
theorem HBx.far {w : World} {T U : Nat} {e : TypeId} {l v : Value} (h : HBx w T e l v) (hne : T ≠ U) (i : Nat) (u : Value) : HBx (w.setCell ⟨U, i, none⟩ u) T e l v := h.kept (Below.heap_setCell _ _ _ _ (fun e => hne (by simpa using e)))
theorem OwnD.far {w : World} {base U : Nat} {v : Value} {L : List (ByteArray × ByteArray)} {a b : Value} (h : OwnD w base 34 v L) (hx : HBx w U 27 a b) (i : Nat) (u : Value) : OwnD (w.setCell ⟨U, i, none⟩ u) base 34 v L :=
  h.kept fun k hk => Below.heap_setCell _ _ _ _ (fun e => hx.neD (by decide) h k hk (by simpa using e))
/-- Two heads in their variables A and B, the answers' variables R and S. -/
structure Ds (w : World) (R S A B : Nat) (al bl : ByteArray) (v1 v2 : Value) (L1 L2 : List (ByteArray × ByteArray)) (wi : World) : Prop where
  r : HBx wi R 27 (.string ⟨#[]⟩) (.slice none 0 0)
  s : HBx wi S 27 (.string ⟨#[]⟩) (.slice none 0 0)
  a : HBx wi A 27 (.string al) v1
  b : HBx wi B 27 (.string bl) v2
  o1 : OwnD wi w.heap.size 34 v1 L1
  o2 : OwnD wi w.heap.size 34 v2 L2
  bel : Below w.heap.size w wi
  ge : w.heap.size ≤ R ∧ w.heap.size ≤ S ∧ w.heap.size ≤ A ∧ w.heap.size ≤ B
  ne : R < S ∧ S < A ∧ A < B
theorem Ds.lineA {w : World} {R S A B : Nat} {al bl : ByteArray} {v1 v2 : Value} {L1 L2 : List (ByteArray × ByteArray)} {wi : World} (h : Ds w R S A B al bl v1 v2 L1 L2 wi) (z : ByteArray) : Ds w R S A B z bl v1 v2 L1 L2 (wi.setCell ⟨A, 0, none⟩ (.string z)) := by
  have n := h.ne
  exact ⟨h.r.far (by omega) _ _, h.s.far (by omega) _ _, h.a.set0 _, h.b.far (by omega) _ _, h.o1.far h.a _ _, h.o2.far h.a _ _, h.bel.setCell h.ge.2.2.1 _, h.ge, h.ne⟩
theorem Ds.lineB {w : World} {R S A B : Nat} {al bl : ByteArray} {v1 v2 : Value} {L1 L2 : List (ByteArray × ByteArray)} {wi : World} (h : Ds w R S A B al bl v1 v2 L1 L2 wi) (z : ByteArray) : Ds w R S A B al z v1 v2 L1 L2 (wi.setCell ⟨B, 0, none⟩ (.string z)) := by
  have n := h.ne
  exact ⟨h.r.far (by omega) _ _, h.s.far (by omega) _ _, h.a.far (by omega) _ _, h.b.set0 _, h.o1.far h.b _ _, h.o2.far h.b _ _, h.bel.setCell h.ge.2.2.2 _, h.ge, h.ne⟩
/-- A new row stands in the place of B's. -/
theorem Ds.rowB {w : World} {R S A B : Nat} {al bl : ByteArray} {v1 v2 v3 : Value} {L1 L2 L3 : List (ByteArray × ByteArray)} {wi wj : World} {row : Option Nat} (h : Ds w R S A B al bl v1 v2 L1 L2 wi) (hg : wi.grownBy wj row) (hr : ∀ k, row = some k → wi.heap.size ≤ k) (ho : OwnD wj w.heap.size 34 v3 L3) : Ds w R S A B al bl v1 v3 L1 L3 (wj.setCell ⟨B, 1, none⟩ v3) := by
  have n := h.ne
  have kp : ∀ k, k < wi.heap.size → wj.heap[k]? = wi.heap[k]? := fun k hk => hg.block k hk (fun e => by have := hr k e.symm; omega)
  have r := h.r.kept (kp R h.r.lt)
  have s := h.s.kept (kp S h.s.lt)
  have a := h.a.kept (kp A h.a.lt)
  have b := h.b.kept (kp B h.b.lt)
  have o1 := h.o1.kept (w' := wj) (fun k hk => kp k (h.o1.lt k hk).2)
  have bel : Below w.heap.size w wj := Below.grown h.bel hg h.bel.size (fun k hk => Nat.le_trans h.bel.size (hr k hk))
  exact ⟨r.far (by omega) _ _, s.far (by omega) _ _, a.far (by omega) _ _, b.set1 _, o1.far b _ _, ho.far b _ _, bel.setCell h.ge.2.2.2 _, h.ge, h.ne⟩
/-- Both are handed back. -/
theorem Ds.out {w : World} {R S A B : Nat} {fa fb : ByteArray} {v1 v2 : Value} {L1 L2 : List (ByteArray × ByteArray)} {w9 : World} (h : Ds w R S A B fa fb v1 v2 L1 L2 w9) :
    HBx (((((w9.setCell ⟨R, 0, none⟩ (.string fa)).setCell ⟨R, 1, none⟩ v1).setCell ⟨S, 0, none⟩ (.string fb)).setCell ⟨S, 1, none⟩ v2).drew) R 27 (.string fa) v1 ∧ HBx (((((w9.setCell ⟨R, 0, none⟩ (.string fa)).setCell ⟨R, 1, none⟩ v1).setCell ⟨S, 0, none⟩ (.string fb)).setCell ⟨S, 1, none⟩ v2).drew) S 27 (.string fb) v2 ∧ OwnD (((((w9.setCell ⟨R, 0, none⟩ (.string fa)).setCell ⟨R, 1, none⟩ v1).setCell ⟨S, 0, none⟩ (.string fb)).setCell ⟨S, 1, none⟩ v2).drew) w.heap.size 34 v1 L1 ∧ OwnD (((((w9.setCell ⟨R, 0, none⟩ (.string fa)).setCell ⟨R, 1, none⟩ v1).setCell ⟨S, 0, none⟩ (.string fb)).setCell ⟨S, 1, none⟩ v2).drew) w.heap.size 34 v2 L2 ∧ Below w.heap.size w (((((w9.setCell ⟨R, 0, none⟩ (.string fa)).setCell ⟨R, 1, none⟩ v1).setCell ⟨S, 0, none⟩ (.string fb)).setCell ⟨S, 1, none⟩ v2).drew) := by
  have n := h.ne
  have nRS : ¬ R = S := by omega
  have nSR : ¬ S = R := by omega
  obtain ⟨w1, e1⟩ : ∃ x, w9.setCell ⟨R, 0, none⟩ (.string fa) = x := ⟨_, rfl⟩
  obtain ⟨w2, e2⟩ : ∃ x, w1.setCell ⟨R, 1, none⟩ v1 = x := ⟨_, rfl⟩
  obtain ⟨w3, e3⟩ : ∃ x, w2.setCell ⟨S, 0, none⟩ (.string fb) = x := ⟨_, rfl⟩
  obtain ⟨w4, e4⟩ : ∃ x, w3.setCell ⟨S, 1, none⟩ v2 = x := ⟨_, rfl⟩
  rw [e1, e2, e3, e4]
  have r1 : HBx w1 R 27 (.string fa) (.slice none 0 0) := by rw [← e1]; exact h.r.set0 _
  have r2 : HBx w2 R 27 (.string fa) v1 := by rw [← e2]; exact r1.set1 _
  have r3 : HBx w3 R 27 (.string fa) v1 := by rw [← e3]; exact r2.far nRS _ _
  have r4 : HBx w4 R 27 (.string fa) v1 := by rw [← e4]; exact r3.far nRS _ _
  have s1 : HBx w1 S 27 (.string ⟨#[]⟩) (.slice none 0 0) := by rw [← e1]; exact h.s.far nSR _ _
  have s2 : HBx w2 S 27 (.string ⟨#[]⟩) (.slice none 0 0) := by rw [← e2]; exact s1.far nSR _ _
  have s3 : HBx w3 S 27 (.string fb) (.slice none 0 0) := by rw [← e3]; exact s2.set0 _
  have s4 : HBx w4 S 27 (.string fb) v2 := by rw [← e4]; exact s3.set1 _
  have o1 : OwnD w1 w.heap.size 34 v1 L1 := by rw [← e1]; exact h.o1.far h.r _ _
  have o2 : OwnD w2 w.heap.size 34 v1 L1 := by rw [← e2]; exact o1.far r1 _ _
  have o3 : OwnD w3 w.heap.size 34 v1 L1 := by rw [← e3]; exact o2.far s2 _ _
  have o4 : OwnD w4 w.heap.size 34 v1 L1 := by rw [← e4]; exact o3.far s3 _ _
  have p1 : OwnD w1 w.heap.size 34 v2 L2 := by rw [← e1]; exact h.o2.far h.r _ _
  have p2 : OwnD w2 w.heap.size 34 v2 L2 := by rw [← e2]; exact p1.far r1 _ _
  have p3 : OwnD w3 w.heap.size 34 v2 L2 := by rw [← e3]; exact p2.far s2 _ _
  have p4 : OwnD w4 w.heap.size 34 v2 L2 := by rw [← e4]; exact p3.far s3 _ _
  have b1 : Below w.heap.size w w1 := by rw [← e1]; exact h.bel.setCell (p := ⟨R, 0, none⟩) h.ge.1 _
  have b2 : Below w.heap.size w w2 := by rw [← e2]; exact b1.setCell (p := ⟨R, 1, none⟩) h.ge.1 _
  have b3 : Below w.heap.size w w3 := by rw [← e3]; exact b2.setCell (p := ⟨S, 0, none⟩) h.ge.2.1 _
  have b4 : Below w.heap.size w w4 := by rw [← e4]; exact b3.setCell (p := ⟨S, 1, none⟩) h.ge.2.1 _
  have hd : Below w4.heap.size w4 w4.drew := ⟨rfl, rfl, rfl, Nat.le_refl _, fun _ _ => rfl⟩
  exact ⟨r4.on hd, s4.on hd, o4.below hd (Nat.le_refl _), p4.below hd (Nat.le_refl _), b4.trans (hd.mono b4.size)⟩
theorem fd_size {f : ByteArray × ByteArray} (h : FdD f) : f.1.size + f.2.size ≤ 35 := by
  have := fnL_len _ h.1
  have := fvL_len _ h.2
  omega
theorem wgtT_few {L : List (ByteArray × ByteArray)} (h : ∀ f ∈ L, f.1.size + f.2.size ≤ 35) : wgtT L ≤ 35 * L.length := by
  induction L with
  | nil => simp [wgtT]
  | cons f r ih =>
    have h1 := ih (fun g hg => h g (List.mem_cons_of_mem _ hg))
    have h2 := h f List.mem_cons_self
    unfold wgtT at *
    rw [List.map_cons, List.sum_cons, List.length_cons]
    omega
theorem hdSz_small {line : ByteArray} {L : List (ByteArray × ByteArray)} (h0 : line.size ≤ 100) (h1 : L.length ≤ 10) (h2 : ∀ f ∈ L, f.1.size + f.2.size ≤ 35) : HdSz line L := by
  have := wgtT_few h2
  unfold HdSz
  omega
def ccF : ByteArray × ByteArray := (⟨#[99, 97, 99, 104, 101, 45, 99, 111, 110, 116, 114, 111, 108]⟩, ⟨#[109, 97, 120, 45, 97, 103, 101, 61, 57]⟩)
theorem grown_past {w w1 w2 : World} {row : Option Nat} (hb : Below w.heap.size w w1) (hg : w1.grownBy w2 row) : w.grownBy w2 row :=
  ⟨hg.os.trans hb.os, hg.tape.trans hb.tape, hg.output.trans hb.output, Nat.le_trans hb.size hg.size, fun k hk hr => (hg.block k (Nat.lt_of_lt_of_le hk hb.size) hr).trans (hb.block k hk)⟩
theorem lt_no {a b c : Nat} (h : a < b) (e : b = c) (h2 : a = c) : False := by omega
theorem lit1D (w : World) (f : ByteArray × ByteArray) : OwnD (w.alloc (.cells #[.string f.1, .string f.2] 34)) w.heap.size 34 (.slice (some ⟨w.heap.size, 0, none⟩) 1 1) [f] :=
  World.ownsRow_lit (base := w.heap.size) (e := 34) (size := 2) w #[.string f.1, .string f.2] 1 (Nat.le_refl _) (by simp [maxLen]) (by rfl)
set_option maxRecDepth 100000 in
set_option maxHeartbeats 8000000 in
theorem drawStorable_any (w : World) (ca : Option Addr) (n cap : Nat) (hcode : CodeAt w ca n w.heap.size) (hn : n ≤ 1048576) :
    Calls Tryd.prog 36 #[.slice ca n cap] w fun e w' => ∃ (al bl : ByteArray) (a1 a2 : Option Addr) (c1 c2 : Nat) (L1 L2 : List (ByteArray × ByteArray)), e = .returned (.tuple #[.agg #[.string al, .slice a1 L1.length c1], .agg #[.string bl, .slice a2 L2.length c2]]) ∧ HdSz al L1 ∧ HdSz bl L2 ∧ DAt w' a1 L1 w'.heap.size ∧ DAt w' a2 L2 w'.heap.size ∧ Below w.heap.size w w' := by
  obtain ⟨wa, hwa⟩ : ∃ x, w.alloc (.cells #[.string ⟨#[]⟩, .slice none 0 0] 27) = x := ⟨_, rfl⟩
  obtain ⟨wb, hwb⟩ : ∃ x, wa.alloc (.cells #[.string ⟨#[]⟩, .slice none 0 0] 27) = x := ⟨_, rfl⟩
  obtain ⟨R, hR⟩ : ∃ x, w.heap.size = x := ⟨_, rfl⟩
  obtain ⟨S, hS⟩ : ∃ x, wa.heap.size = x := ⟨_, rfl⟩
  have ba : Below w.heap.size w wa := by rw [← hwa]; exact (Below.refl _ _).alloc (Nat.le_refl _) _
  have bb : Below wa.heap.size wa wb := by rw [← hwb]; exact (Below.refl _ _).alloc (Nat.le_refl _) _
  have hRS : R < S := by rw [← hR, ← hS, ← hwa]; simp
  have r1 : HBx wb R 27 (.string ⟨#[]⟩) (.slice none 0 0) := by
    have h : HBx wa R 27 (.string ⟨#[]⟩) (.slice none 0 0) := by rw [← hwa, ← hR]; exact HBx.new _ _ _ _
    exact h.on bb
  have s1 : HBx wb S 27 (.string ⟨#[]⟩) (.slice none 0 0) := by rw [← hwb, ← hS]; exact HBx.new _ _ _ _
  have hb : Below w.heap.size w wb := ba.trans (bb.mono ba.size)
  have hcd : CodeAt wb ca n wb.heap.size := by
    intro j hj
    obtain ⟨b, off, z, h1, h2, h3, h4⟩ := hcode j hj
    exact ⟨b, off, z, h1, Nat.lt_of_lt_of_le h2 hb.size, (hb.cell (p := ⟨b, off + j, none⟩) h2).trans h3, h4⟩
  have c1 := new_any wb ca n cap hcd hn
  have H0 : Hid (HBx wb R 27 (.string ⟨#[]⟩) (.slice none 0 0) ∧ HBx wb S 27 (.string ⟨#[]⟩) (.slice none 0 0) ∧ Below w.heap.size w wb ∧ R < S ∧ w.heap.size ≤ R) := ⟨r1, s1, hb, hRS, by omega⟩
  clear hcode hcd ba bb hRS r1 s1 hb
  go_enter Tryd.func36, Tryd.ntmps36
  go_wp2_with fail
  clear hwa hwb hR hS
  refine c1.mono ?_
  rintro e w1 ⟨p, rfl, hp1, hp2, hcur, hcd, hb1⟩
  have c2 := below_any w1 p ca n cap 4 hcur hcd hn (by omega) (by omega)
  have H1 : Hid (HBx w1 R 27 (.string ⟨#[]⟩) (.slice none 0 0) ∧ HBx w1 S 27 (.string ⟨#[]⟩) (.slice none 0 0) ∧ Below w.heap.size w w1 ∧ R < S ∧ w.heap.size ≤ R ∧ S < p ∧ w.heap.size ≤ p) := by
    obtain ⟨a1, a2, a3, a4, a5⟩ := H0.out
    have := a2.lt
    have := a3.size
    exact ⟨a1.on hb1, a2.on hb1, a3.trans (hb1.mono a3.size), a4, a5, by omega, by omega⟩
  clear c1 hb1 H0 hcur hcd
  go_wp2_with fail
  refine c2.mono ?_
  rintro e w2 ⟨k, hk, _, rfl, hl2⟩
  have hk4 := hk (by omega)
  have H2 : Hid (HBx w2 R 27 (.string ⟨#[]⟩) (.slice none 0 0) ∧ HBx w2 S 27 (.string ⟨#[]⟩) (.slice none 0 0) ∧ Below w.heap.size w w2 ∧ R < S ∧ w.heap.size ≤ R ∧ S < p ∧ w.heap.size ≤ p ∧ p < w2.heap.size) := by
    obtain ⟨a1, a2, a3, a4, a5, a6, a7⟩ := H1.out
    exact ⟨a1.grownH hl2.2.2 (by omega), a2.grownH hl2.2.2 (by omega), below_of_left a3 a7 hl2, a4, a5, a6, a7, hl2.1.lt⟩
  have c3 := l09Head_any w2 p ca n cap hl2.1 hl2.2.1 hn
  clear c2 hk hl2 H1
  go_wp2_with fail
  refine c3.mono ?_
  rintro e w3 ⟨al, v1, L1, rfl, hal, hf1, hz1, ho1, hl3⟩
  obtain ⟨w4, hw4⟩ : ∃ x, w3.alloc (.cells #[.string al, v1] 27) = x := ⟨_, rfl⟩
  obtain ⟨A, hA⟩ : ∃ x, w3.heap.size = x := ⟨_, rfl⟩
  have H4 : Hid (HBx w4 R 27 (.string ⟨#[]⟩) (.slice none 0 0) ∧ HBx w4 S 27 (.string ⟨#[]⟩) (.slice none 0 0) ∧ HBx w4 A 27 (.string al) v1 ∧ OwnD w4 w.heap.size 34 v1 L1 ∧ Below w.heap.size w w4 ∧ (R < S ∧ w.heap.size ≤ R ∧ S < p ∧ p < A ∧ w.heap.size ≤ p) ∧ (∀ q, v1.ownBlock = some q → q ≠ p) ∧ Cur w4 p ca n cap ∧ CodeAt w4 ca n p) := by
    obtain ⟨a1, a2, a3, a4, a5, a6, a7, a8⟩ := H2.out
    have b3 := below_of_left a3 a7 hl3
    have b4 : Below w3.heap.size w3 w4 := by rw [← hw4]; exact (Below.refl _ _).alloc (Nat.le_refl _) _
    have hp := hl3.1.lt
    have h23 := hl3.2.2.size
    refine ⟨(a1.grownH hl3.2.2 (by omega)).on b4, (a2.grownH hl3.2.2 (by omega)).on b4, by rw [← hw4, ← hA]; exact HBx.new _ _ _ _, (ho1.mono a3.size).below b4 (Nat.le_refl _), b3.trans (b4.mono b3.size), ⟨a4, a5, a6, by omega, a7⟩, ?_, by rw [← hw4]; exact hl3.1.alloc hp _, by rw [← hw4]; exact hl3.2.1.alloc _⟩
    intro q hq e
    have h1 := (ho1.lt q hq).1
    have h2 := a2.lt
    omega
  have HZ1 : Hid (HdSz al L1 ∧ HdSz ⟨#[71, 69, 84, 32, 47, 97, 32, 72, 84, 84, 80, 47, 49, 46, 49]⟩ L1) := ⟨hdSz_small (by have := hlL_len al hal; omega) (by omega) (fun f hf => fd_size (hf1 f hf)), hdSz_small (by decide) (by omega) (fun f hf => fd_size (hf1 f hf))⟩
  have c4 := l09Head_any w4 p ca n cap H4.out.2.2.2.2.2.2.2.1 H4.out.2.2.2.2.2.2.2.2 hn
  obtain ⟨a1, x1, rfl, _⟩ := ho1.at
  clear c3 hal hf1 hz1 ho1 hl3 H2
  go_wp2_with fail
  clear hw4 hA
  refine c4.mono ?_
  rintro e w5 ⟨bl, v2, L2, rfl, hbl, hf2, hz2, ho2, hl5⟩
  obtain ⟨w6, hw6⟩ : ∃ x, w5.alloc (.cells #[.string bl, v2] 27) = x := ⟨_, rfl⟩
  obtain ⟨B, hB⟩ : ∃ x, w5.heap.size = x := ⟨_, rfl⟩
  have HD : Hid (Ds w R S A B al bl (.slice a1 L1.length x1) v2 L1 L2 w6) := by
    obtain ⟨d1, d2, d3, d4, d5, ⟨d6, d7, d8, d9, d10⟩, d11, _, _⟩ := H4.out
    have b5 := below_of_left d5 d10 hl5
    have b6 : Below w5.heap.size w5 w6 := by rw [← hw6]; exact (Below.refl _ _).alloc (Nat.le_refl _) _
    have hA3 := d3.lt
    have hsz := hl5.2.2.size
    have o1 : OwnD w5 w.heap.size 34 (.slice a1 L1.length x1) L1 := d4.grown hl5.2.2 (fun q hq e => d11 q hq (by simpa using e.symm))
    exact ⟨(d1.grownH hl5.2.2 (by omega)).on b6, (d2.grownH hl5.2.2 (by omega)).on b6, (d3.grownH hl5.2.2 (by omega)).on b6, by rw [← hw6, ← hB]; exact HBx.new _ _ _ _, o1.below b6 (Nat.le_refl _), (ho2.mono d5.size).below b6 (Nat.le_refl _), b5.trans (b6.mono b5.size), ⟨d7, by omega, by omega, by omega⟩, d6, by omega, by omega⟩
  have HZ2 : Hid (HdSz bl L2 ∧ HdSz ⟨#[72, 84, 84, 80, 47, 49, 46, 49, 32, 50, 48, 48, 32, 111, 107]⟩ L2 ∧ HdSz ⟨#[72, 84, 84, 80, 47, 49, 46, 49, 32, 50, 48, 48, 32, 111, 107]⟩ ([ccF] ++ L2) ∧ L2.length ≤ 3) := by
    have h2 : ∀ f ∈ [ccF] ++ L2, f.1.size + f.2.size ≤ 35 := by
      intro f hf
      rcases List.mem_append.1 hf with hf | hf
      · rw [List.mem_singleton.1 hf]; decide
      · exact fd_size (hf2 f hf)
    exact ⟨hdSz_small (by have := hlL_len bl hbl; omega) (by omega) (fun f hf => fd_size (hf2 f hf)), hdSz_small (by decide) (by omega) (fun f hf => fd_size (hf2 f hf)), hdSz_small (by decide) (by rw [List.length_append, List.length_singleton]; omega) h2, hz2⟩
  obtain ⟨a2, x2, rfl, _⟩ := ho2.at
  clear c4 hbl hf2 hz2 ho2 hl5 H4
  rcases (show k = 0 ∨ k = 1 ∨ 2 ≤ k by omega) with rfl | rfl | h2
  case' inl =>
    go_wp2_with fail
    clear hw6 hB
    have HE : Hid (HdSz al L1 ∧ HdSz bl L2) := ⟨HZ1.out.1, HZ2.out.1⟩
    obtain ⟨w9, hw9⟩ : ∃ x, w6 = x := ⟨_, rfl⟩
    rw [hw9] at HD ⊢
    clear hw9 HZ1 HZ2
    obtain ⟨fa, hfa⟩ : ∃ x, al = x := ⟨_, rfl⟩
    obtain ⟨fb, hfb⟩ : ∃ x, bl = x := ⟨_, rfl⟩
    obtain ⟨M, hM⟩ : ∃ x, L2 = x := ⟨_, rfl⟩
    obtain ⟨a3, ha3⟩ : ∃ x, a2 = x := ⟨_, rfl⟩
    obtain ⟨y2, hy2⟩ : ∃ x, x2 = x := ⟨_, rfl⟩
    rw [hfa, hfb, hM] at HE
    rw [hfa, hfb, hM, ha3, hy2] at HD
    clear hfa hfb hM ha3 hy2
  case' inr.inl =>
    obtain ⟨g0, g1⟩ := HD.out.a.cells
    obtain ⟨g2, g3⟩ := HD.out.b.cells
    have f0 := HD.out.a.thaw 0
    have f2 := HD.out.b.thaw 0
    have n1 : ¬ A = B := by have := HD.out.ne; omega
    have n2 : ¬ B = A := by have := HD.out.ne; omega
    go_wp2_with fail
    clear hw6 hB
    have HD : Hid (Ds w R S A B ⟨#[71, 69, 84, 32, 47, 97, 32, 72, 84, 84, 80, 47, 49, 46, 49]⟩ ⟨#[72, 84, 84, 80, 47, 49, 46, 49, 32, 50, 48, 48, 32, 111, 107]⟩ (.slice a1 L1.length x1) (.slice a2 L2.length x2) L1 L2 ((w6.setCell ⟨A, 0, none⟩ (.string ⟨#[71, 69, 84, 32, 47, 97, 32, 72, 84, 84, 80, 47, 49, 46, 49]⟩)).setCell ⟨B, 0, none⟩ (.string ⟨#[72, 84, 84, 80, 47, 49, 46, 49, 32, 50, 48, 48, 32, 111, 107]⟩))) := (HD.out.lineA _).lineB _
    have HE : Hid (HdSz ⟨#[71, 69, 84, 32, 47, 97, 32, 72, 84, 84, 80, 47, 49, 46, 49]⟩ L1 ∧ HdSz ⟨#[72, 84, 84, 80, 47, 49, 46, 49, 32, 50, 48, 48, 32, 111, 107]⟩ L2) := ⟨HZ1.out.2, HZ2.out.2.1⟩
    generalize (w6.setCell ⟨A, 0, none⟩ (.string ⟨#[71, 69, 84, 32, 47, 97, 32, 72, 84, 84, 80, 47, 49, 46, 49]⟩)).setCell ⟨B, 0, none⟩ (.string ⟨#[72, 84, 84, 80, 47, 49, 46, 49, 32, 50, 48, 48, 32, 111, 107]⟩) = w9 at HD ⊢
    clear g0 g1 g2 g3 f0 f2 n1 n2 HZ1 HZ2
    obtain ⟨fa, hfa⟩ : ∃ x : ByteArray, ⟨#[71, 69, 84, 32, 47, 97, 32, 72, 84, 84, 80, 47, 49, 46, 49]⟩ = x := ⟨_, rfl⟩
    obtain ⟨fb, hfb⟩ : ∃ x : ByteArray, ⟨#[72, 84, 84, 80, 47, 49, 46, 49, 32, 50, 48, 48, 32, 111, 107]⟩ = x := ⟨_, rfl⟩
    obtain ⟨M, hM⟩ : ∃ x, L2 = x := ⟨_, rfl⟩
    obtain ⟨a3, ha3⟩ : ∃ x, a2 = x := ⟨_, rfl⟩
    obtain ⟨y2, hy2⟩ : ∃ x, x2 = x := ⟨_, rfl⟩
    rw [hfa, hfb, hM] at HE
    rw [hfa, hfb, hM, ha3, hy2] at HD
    clear hfa hfb hM ha3 hy2
  case' inr.inr =>
    obtain ⟨g0, g1⟩ := HD.out.a.cells
    obtain ⟨g2, g3⟩ := HD.out.b.cells
    have f0 := HD.out.a.thaw 0
    have f2 := HD.out.b.thaw 0
    have f3 := HD.out.b.thaw 1
    have n1 : ¬ A = B := by have := HD.out.ne; omega
    have n2 : ¬ B = A := by have := HD.out.ne; omega
    have k0 : (0 : Int) < (k : Int) := by omega
    have k1 : (1 : Int) < (k : Int) := by omega
    obtain ⟨w8, hw8⟩ : ∃ x, (w6.setCell ⟨A, 0, none⟩ (.string ⟨#[71, 69, 84, 32, 47, 97, 32, 72, 84, 84, 80, 47, 49, 46, 49]⟩)).setCell ⟨B, 0, none⟩ (.string ⟨#[72, 84, 84, 80, 47, 49, 46, 49, 32, 50, 48, 48, 32, 111, 107]⟩) = x := ⟨_, rfl⟩
    obtain ⟨wl, hwl⟩ : ∃ x, w8.alloc (.cells #[.string ⟨#[99, 97, 99, 104, 101, 45, 99, 111, 110, 116, 114, 111, 108]⟩, .string ⟨#[109, 97, 120, 45, 97, 103, 101, 61, 57]⟩] 34) = x := ⟨_, rfl⟩
    have HD8 : Hid (Ds w R S A B ⟨#[71, 69, 84, 32, 47, 97, 32, 72, 84, 84, 80, 47, 49, 46, 49]⟩ ⟨#[72, 84, 84, 80, 47, 49, 46, 49, 32, 50, 48, 48, 32, 111, 107]⟩ (.slice a1 L1.length x1) (.slice a2 L2.length x2) L1 L2 w8) := by rw [← hw8]; exact (HD.out.lineA _).lineB _
    obtain ⟨lb, hlb⟩ : ∃ x, w8.heap.size = x := ⟨_, rfl⟩
    have HOL : Hid (OwnD wl lb 34 (.slice (some ⟨lb, 0, none⟩) 1 1) [ccF] ∧ Below w8.heap.size w8 wl ∧ DAt wl a2 L2 wl.heap.size ∧ lb ≤ wl.heap.size) := by
      have hb : Below w8.heap.size w8 wl := by rw [← hwl]; exact (Below.refl _ _).alloc (Nat.le_refl _) _
      obtain ⟨a9, c9, e9, hD⟩ := HD8.out.o2.at
      injection e9 with e1 _ _
      rw [← e1] at hD
      exact ⟨by rw [← hwl, ← hlb]; exact lit1D w8 ccF, hb, hD.on hb, by have := hb.size; omega⟩
    have q3 : wl.cell? ⟨B, 1, none⟩ = some (.slice a2 L2.length x2) := (HD8.out.b.on HOL.out.2.1).cells.2
    have HKB : Hid (w8.heap.size = lb) := hlb
    go_wp2_with (at_builtin; (refine wpList_plusD rfl (.tmp 23) (.tmp 25) 25 rfl lb 34 Tryd.underlying25 Tryd.infoFd (.slice (some ⟨lb, 0, none⟩) 1 1) [ccF] rfl HOL.out.1 a2 x2 L2 wl.heap.size rfl HOL.out.2.2.1 (by have := HZ2.out.2.2.2; rw [List.length_singleton]; omega) HOL.out.2.2.2 ?_; intro v3 w10 ho3 hg3; clear hwl hw8 hw6 hB; have hgw : w8.grownBy w10 (some lb) := grown_past HOL.out.2.1 hg3; have hB10 := HD8.out.b.kept (hgw.block B HD8.out.b.lt (fun e => lt_no HD8.out.b.lt HKB.out (by simpa using e))); have f9 := hB10.thaw 1; have q9 := hB10.cells.2; obtain ⟨a3, y2, rfl, _⟩ := ho3.at))
    have HD : Hid (Ds w R S A B ⟨#[71, 69, 84, 32, 47, 97, 32, 72, 84, 84, 80, 47, 49, 46, 49]⟩ ⟨#[72, 84, 84, 80, 47, 49, 46, 49, 32, 50, 48, 48, 32, 111, 107]⟩ (.slice a1 L1.length x1) (.slice a3 (L2.length + 1) y2) L1 ([ccF] ++ L2) (w10.setCell ⟨B, 1, none⟩ (.slice a3 (L2.length + 1) y2))) := HD8.out.rowB hgw (fun k hk => by have := HKB.out; simp only [Option.some.injEq] at hk; omega) (ho3.mono (by have := HKB.out; have := HD8.out.bel.size; omega))
    have HE : Hid (HdSz ⟨#[71, 69, 84, 32, 47, 97, 32, 72, 84, 84, 80, 47, 49, 46, 49]⟩ L1 ∧ HdSz ⟨#[72, 84, 84, 80, 47, 49, 46, 49, 32, 50, 48, 48, 32, 111, 107]⟩ ([ccF] ++ L2)) := ⟨HZ1.out.2, HZ2.out.2.2.1⟩
    generalize w10.setCell ⟨B, 1, none⟩ (.slice a3 (L2.length + 1) y2) = w9 at HD ⊢
    clear ho3 hg3 hgw hB10 f9 q9 q3 HOL HD8 HKB hlb g0 g1 g2 g3 f0 f2 f3 n1 n2 k0 k1 HZ1 HZ2
    obtain ⟨fa, hfa⟩ : ∃ x : ByteArray, ⟨#[71, 69, 84, 32, 47, 97, 32, 72, 84, 84, 80, 47, 49, 46, 49]⟩ = x := ⟨_, rfl⟩
    obtain ⟨fb, hfb⟩ : ∃ x : ByteArray, ⟨#[72, 84, 84, 80, 47, 49, 46, 49, 32, 50, 48, 48, 32, 111, 107]⟩ = x := ⟨_, rfl⟩
    obtain ⟨M, hM⟩ : ∃ x, [ccF] ++ L2 = x := ⟨_, rfl⟩
    have hML : L2.length + 1 = M.length := by rw [← hM]; simp
    rw [hfa, hfb, hM] at HE
    rw [hfa, hfb, hM, hML] at HD
    clear hfa hfb hM hML
  all_goals
    obtain ⟨r0, r1⟩ := HD.out.r.cells
    obtain ⟨s0, s1⟩ := HD.out.s.cells
    obtain ⟨d0, d1⟩ := HD.out.a.cells
    obtain ⟨e0, e1⟩ := HD.out.b.cells
    have tr0 := HD.out.r.thaw 0
    have tr1 := HD.out.r.thaw 1
    have ts0 := HD.out.s.thaw 0
    have ts1 := HD.out.s.thaw 1
    have n1 : ¬ R = S := by have := HD.out.ne; omega
    have n2 : ¬ S = R := by have := HD.out.ne; omega
    have n3 : ¬ R = A := by have := HD.out.ne; omega
    have n4 : ¬ R = B := by have := HD.out.ne; omega
    have n5 : ¬ S = A := by have := HD.out.ne; omega
    have n6 : ¬ S = B := by have := HD.out.ne; omega
    have n7 : ¬ A = R := by have := HD.out.ne; omega
    have n8 : ¬ B = R := by have := HD.out.ne; omega
    have n9 : ¬ A = S := by have := HD.out.ne; omega
    have n10 : ¬ B = S := by have := HD.out.ne; omega
  all_goals go_region
  all_goals
    have HX : Hid (HBx (((((w9.setCell ⟨R, 0, none⟩ (.string fa)).setCell ⟨R, 1, none⟩ (.slice a1 L1.length x1)).setCell ⟨S, 0, none⟩ (.string fb)).setCell ⟨S, 1, none⟩ (.slice a3 M.length y2)).drew) R 27 (.string fa) (.slice a1 L1.length x1) ∧ HBx (((((w9.setCell ⟨R, 0, none⟩ (.string fa)).setCell ⟨R, 1, none⟩ (.slice a1 L1.length x1)).setCell ⟨S, 0, none⟩ (.string fb)).setCell ⟨S, 1, none⟩ (.slice a3 M.length y2)).drew) S 27 (.string fb) (.slice a3 M.length y2) ∧ OwnD (((((w9.setCell ⟨R, 0, none⟩ (.string fa)).setCell ⟨R, 1, none⟩ (.slice a1 L1.length x1)).setCell ⟨S, 0, none⟩ (.string fb)).setCell ⟨S, 1, none⟩ (.slice a3 M.length y2)).drew) w.heap.size 34 (.slice a1 L1.length x1) L1 ∧ OwnD (((((w9.setCell ⟨R, 0, none⟩ (.string fa)).setCell ⟨R, 1, none⟩ (.slice a1 L1.length x1)).setCell ⟨S, 0, none⟩ (.string fb)).setCell ⟨S, 1, none⟩ (.slice a3 M.length y2)).drew) w.heap.size 34 (.slice a3 M.length y2) M ∧ Below w.heap.size w (((((w9.setCell ⟨R, 0, none⟩ (.string fa)).setCell ⟨R, 1, none⟩ (.slice a1 L1.length x1)).setCell ⟨S, 0, none⟩ (.string fb)).setCell ⟨S, 1, none⟩ (.slice a3 M.length y2)).drew)) := Ds.out HD.out
    generalize ((((w9.setCell ⟨R, 0, none⟩ (.string fa)).setCell ⟨R, 1, none⟩ (.slice a1 L1.length x1)).setCell ⟨S, 0, none⟩ (.string fb)).setCell ⟨S, 1, none⟩ (.slice a3 M.length y2)).drew = wz at HX ⊢
    clear r0 r1 s0 s1 d0 d1 e0 e1 tr0 tr1 ts0 ts1
  all_goals
    obtain ⟨q0, q1⟩ := HX.out.1.cells
    obtain ⟨q2, q3⟩ := HX.out.2.1.cells
    obtain ⟨b1, t1, eb1, hD1⟩ := HX.out.2.2.1.at
    obtain ⟨b2, t2, eb2, hD2⟩ := HX.out.2.2.2.1.at
    injection eb1 with eb1 _ _
    injection eb2 with eb2 _ _
    rw [← eb1] at hD1
    rw [← eb2] at hD2
    have HY : Hid (DAt wz a1 L1 wz.heap.size ∧ DAt wz a3 M wz.heap.size) := ⟨hD1, hD2⟩
    clear hD1 hD2 eb1 eb2
    go_wp2_with fail
    exact bodyPost_ret (v := .tuple #[.agg #[.string fa, .slice a1 L1.length x1], .agg #[.string fb, .slice a3 M.length y2]]) (by simp [results, Tryd.results36, go_sem, q0, q1, q2, q3]) rfl ⟨fa, fb, a1, a3, x1, y2, L1, M, rfl, HE.out.1, HE.out.2, HY.out.1, HY.out.2, HX.out.2.2.2.2⟩
end Go.Proofs.YtnnaphfeeobeladDoor
