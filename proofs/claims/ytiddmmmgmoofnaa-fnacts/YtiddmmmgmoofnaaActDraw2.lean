/- An act is drawn. -/
import Derived.Test.YtiddmmmgmoofnaaActDraw
namespace Go.Proofs.Ytiddmmmgmoofnaa
open Go.RowKit Go.Sort

/-- A variable that holds an act. -/
def ABox (w : World) (A : Nat) (a : Ac) : Prop := w.heap[A]? = some (.cells #[.int .i64 a.kd, .string a.nm, .string a.tx, .string a.to] 45 (0, 0))
theorem ABox.lt {w : World} {A : Nat} {a : Ac} (h : ABox w A a) : A < w.heap.size := (Array.getElem?_eq_some_iff.1 h).1
theorem ABox.new (w : World) (a : Ac) : ABox (w.alloc (.cells #[.int .i64 a.kd, .string a.nm, .string a.tx, .string a.to] 45)) w.heap.size a := heap_alloc_new w _
theorem ABox.cells {w : World} {A : Nat} {a : Ac} (h : ABox w A a) : w.cell? ⟨A, 0, none⟩ = some (.int .i64 a.kd) ∧ w.cell? ⟨A, 1, none⟩ = some (.string a.nm) ∧ w.cell? ⟨A, 2, none⟩ = some (.string a.tx) ∧ w.cell? ⟨A, 3, none⟩ = some (.string a.to) := by
  unfold ABox at h
  refine ⟨?_, ?_, ?_, ?_⟩ <;> simp [World.cell?, h]
theorem ABox.thaw {w : World} {A : Nat} {a : Ac} (h : ABox w A a) : w.frozen? ⟨A, 0, none⟩ = false ∧ w.frozen? ⟨A, 1, none⟩ = false ∧ w.frozen? ⟨A, 2, none⟩ = false ∧ w.frozen? ⟨A, 3, none⟩ = false := by
  unfold ABox at h
  refine ⟨?_, ?_, ?_, ?_⟩ <;> simp [World.frozen?, h]
theorem ABox.setKd {w : World} {A : Nat} {a : Ac} (h : ABox w A a) (x : Int) : ABox (w.setCell ⟨A, 0, none⟩ (.int .i64 x)) A { a with kd := x } := by
  unfold ABox at *
  rw [setCell_eq_setRow w A 0 _ _ _ _ h]
  have := setRow_heap w A _ (#[.int .i64 a.kd, .string a.nm, .string a.tx, .string a.to].setIfInBounds 0 (.int .i64 x)) _ _ h
  simpa using this
theorem ABox.setNm {w : World} {A : Nat} {a : Ac} (h : ABox w A a) (x : ByteArray) : ABox (w.setCell ⟨A, 1, none⟩ (.string x)) A { a with nm := x } := by
  unfold ABox at *
  rw [setCell_eq_setRow w A 1 _ _ _ _ h]
  have := setRow_heap w A _ (#[.int .i64 a.kd, .string a.nm, .string a.tx, .string a.to].setIfInBounds 1 (.string x)) _ _ h
  simpa using this
theorem ABox.setTx {w : World} {A : Nat} {a : Ac} (h : ABox w A a) (x : ByteArray) : ABox (w.setCell ⟨A, 2, none⟩ (.string x)) A { a with tx := x } := by
  unfold ABox at *
  rw [setCell_eq_setRow w A 2 _ _ _ _ h]
  have := setRow_heap w A _ (#[.int .i64 a.kd, .string a.nm, .string a.tx, .string a.to].setIfInBounds 2 (.string x)) _ _ h
  simpa using this
theorem ABox.setTo {w : World} {A : Nat} {a : Ac} (h : ABox w A a) (x : ByteArray) : ABox (w.setCell ⟨A, 3, none⟩ (.string x)) A { a with to := x } := by
  unfold ABox at *
  rw [setCell_eq_setRow w A 3 _ _ _ _ h]
  have := setRow_heap w A _ (#[.int .i64 a.kd, .string a.nm, .string a.tx, .string a.to].setIfInBounds 3 (.string x)) _ _ h
  simpa using this
theorem ABox.all {w : World} {A : Nat} {a : Ac} (h : ABox w A a) (b : Ac) : ABox ((((w.setCell ⟨A, 0, none⟩ (.int .i64 b.kd)).setCell ⟨A, 1, none⟩ (.string b.nm)).setCell ⟨A, 2, none⟩ (.string b.tx)).setCell ⟨A, 3, none⟩ (.string b.to)) A b :=
  (((h.setKd b.kd).setNm b.nm).setTx b.tx).setTo b.to

/-- An act of small texts. -/
def Ac.small (a : Ac) : Prop := a.nm.size ≤ 9 ∧ a.tx.size ≤ 9 ∧ a.to.size ≤ 9 ∧ 0 ≤ a.kd ∧ a.kd ≤ 5
def Ac.zero : Ac := ⟨0, ⟨#[]⟩, ⟨#[]⟩, ⟨#[]⟩⟩
/-- What stands while an act is drawn. -/
structure AB (w0 : World) (A p : Nat) (ca : Option Addr) (n cap : Nat) (a : Ac) (wi : World) : Prop where
  box : ABox wi A a
  res : ABox wi w0.heap.size Ac.zero
  left : Left w0 wi p ca n cap
  hp : p < w0.heap.size
  hA : w0.heap.size < A
  sm : a.small
theorem AB.next {w0 : World} {A p : Nat} {ca : Option Addr} {n cap : Nat} {a : Ac} {wi wj : World} (h : AB w0 A p ca n cap a wi) (hl : Left wi wj p ca n cap) : AB w0 A p ca n cap a wj where
  box := (hl.2.2.block A h.box.lt (by have := h.hp; have := h.hA; simp; omega)).trans h.box
  res := (hl.2.2.block _ h.res.lt (by have := h.hp; simp; omega)).trans h.res
  left := h.left.trans hl
  hp := h.hp
  hA := h.hA
  sm := h.sm
theorem AB.plus {w0 : World} {A p : Nat} {ca : Option Addr} {n cap : Nat} {a : Ac} {wi : World} (h : AB w0 A p ca n cap a wi) (o : Obj) : AB w0 A p ca n cap a (wi.alloc o) where
  box := (Below.heap_alloc wi o A h.box.lt).trans h.box
  res := (Below.heap_alloc wi o _ h.res.lt).trans h.res
  left := h.left.plus h.hp o
  hp := h.hp
  hA := h.hA
  sm := h.sm
theorem AB.set {w0 : World} {A p : Nat} {ca : Option Addr} {n cap : Nat} {a b : Ac} {wi : World} (h : AB w0 A p ca n cap a wi) (i : Nat) (v : Value) (hb : ABox (wi.setCell ⟨A, i, none⟩ v) A b) (hs : b.small) : AB w0 A p ca n cap b (wi.setCell ⟨A, i, none⟩ v) where
  box := hb
  res := (heap_setCell_other _ _ _ _ (by have := h.hA; simp; omega)).trans h.res
  left := h.left.set h.hp (by have := h.hA; simp; omega) v
  hp := h.hp
  hA := h.hA
  sm := hs
theorem AB.below {w0 : World} {A p : Nat} {ca : Option Addr} {n cap : Nat} {a : Ac} {wi : World} (h : AB w0 A p ca n cap a wi) (hn : n ≤ 1048576) (m : Int) (hm1 : 0 < m) (hm2 : m ≤ 5000) :
    Calls Try.prog 22 #[.pointer (some ⟨p, 0, none⟩), .int .i64 m] wi fun e w' => ∃ x : Nat, (x : Int) < m ∧ e = .returned (.int .i64 x) ∧ AB w0 A p ca n cap a w' :=
  (below_any wi p ca n cap m h.left.1 h.left.2.1 hn (by omega) (by omega)).mono fun _ _ ⟨x, h1, _, h2, h3⟩ => ⟨x, h1 hm1, h2, h.next h3⟩
theorem AB.text {w0 : World} {A p : Nat} {ca : Option Addr} {n cap : Nat} {a : Ac} {wi : World} (h : AB w0 A p ca n cap a wi) (hn : n ≤ 1048576) (m : Nat) (hm2 : m ≤ 5000) :
    Calls Try.prog 23 #[.pointer (some ⟨p, 0, none⟩), .int .i64 (m : Int)] wi fun e w' => ∃ s : ByteArray, s.size ≤ m ∧ e = .returned (.string s) ∧ AB w0 A p ca n cap a w' :=
  (text_any wi p ca n cap (m : Int) h.left.1 h.left.2.1 hn (by omega) (by omega)).mono fun _ _ ⟨x, h1, h2, h3⟩ => ⟨x, by omega, h2, h.next h3⟩
theorem AB.named {w0 : World} {A p : Nat} {ca : Option Addr} {n cap : Nat} {a : Ac} {wi : World} (h : AB w0 A p ca n cap a wi) (hn : n ≤ 1048576) :
    Calls Try.prog 25 #[.pointer (some ⟨p, 0, none⟩)] wi fun e w' => ∃ s : ByteArray, s.size ≤ 8 ∧ e = .returned (.string s) ∧ AB w0 A p ca n cap a w' :=
  (named_any wi p ca n cap h.left.1 h.left.2.1 hn h.left.1.lt).mono fun _ _ ⟨x, h1, h2, h3⟩ => ⟨x, by simp [nOk] at h1; omega, h2, h.next h3⟩

def kindL : List Int := [0, 5]
def badL : List ByteArray := [⟨#[]⟩, ⟨#[49, 50, 51, 52, 53, 54, 55, 56, 57]⟩, ⟨#[110, 101, 119]⟩]
theorem kindL_ok : ∀ z ∈ kindL, 0 ≤ z ∧ z ≤ 5 := by decide
theorem badL_ok : ∀ z ∈ badL, z.size ≤ 9 := by decide

set_option maxHeartbeats 4000000 in
theorem l03Act_any (w : World) (p : Nat) (ca : Option Addr) (n cap : Nat) (hc : Cur w p ca n cap) (hcode : CodeAt w ca n p) (hn : n ≤ 1048576) :
    Calls Try.prog 47 #[.pointer (some ⟨p, 0, none⟩)] w fun e w' => ∃ a : Ac, a.small ∧ e = .returned (.agg #[.int .i64 a.kd, .string a.nm, .string a.tx, .string a.to]) ∧ Left w w' p ca n cap := by
  have hp := hc.lt
  have hl0 : Left w (w.alloc (.cells #[.int .i64 0, .string ⟨#[]⟩, .string ⟨#[]⟩, .string ⟨#[]⟩] 45)) p ca n cap := ⟨hc.alloc hp _, hcode.alloc _, World.grownBy_alloc _ _ _⟩
  have hr0 : ABox (w.alloc (.cells #[.int .i64 0, .string ⟨#[]⟩, .string ⟨#[]⟩, .string ⟨#[]⟩] 45)) w.heap.size Ac.zero := ABox.new w Ac.zero
  obtain ⟨w1, hw1⟩ : ∃ w1, w.alloc (.cells #[.int .i64 0, .string ⟨#[]⟩, .string ⟨#[]⟩, .string ⟨#[]⟩] 45) = w1 := ⟨_, rfl⟩
  rw [hw1] at hl0 hr0
  have HW : Hid (w.alloc (.cells #[.int .i64 0, .string ⟨#[]⟩, .string ⟨#[]⟩, .string ⟨#[]⟩] 45) = w1) := hw1
  have c1 := below_any w1 p ca n cap 4 hl0.1 hl0.2.1 hn (by omega) (by omega)
  clear hw1 hc hcode
  go_enter Try.func47, Try.ntmps47
  go_wp2_with fail
  rw [HW.out]
  refine c1.mono ?_
  rintro e w2 ⟨x, hx, _, rfl, hl2⟩
  have hx4 := hx (by omega)
  have hr2 : ABox w2 w.heap.size Ac.zero := (hl2.2.2.block _ hr0.lt (by simp; omega)).trans hr0
  have hl3 := hl0.trans hl2
  have c2 := named_any w2 p ca n cap hl3.1 hl3.2.1 hn hl3.1.lt
  clear c1 hx hl2 hl0 hr0
  go_wp2_with fail
  refine c2.mono ?_
  rintro e w3 ⟨nm, hnm, rfl, hl4⟩
  have hr3 : ABox w3 w.heap.size Ac.zero := (hl4.2.2.block _ hr2.lt (by simp; omega)).trans hr2
  have hl5 := hl3.trans hl4
  have hnm2 : nm.size ≤ 8 := by simp [nOk] at hnm; omega
  have HA : Hid (AB w w3.heap.size p ca n cap ⟨1 + (x : Int), nm, ⟨#[]⟩, ⟨#[]⟩⟩ (w3.alloc (.cells #[.int .i64 (1 + (x : Int)), .string nm, .string ⟨#[]⟩, .string ⟨#[]⟩] 45))) :=
    ⟨ABox.new w3 ⟨1 + (x : Int), nm, ⟨#[]⟩, ⟨#[]⟩⟩, (Below.heap_alloc _ _ _ hr3.lt).trans hr3, hl5.plus hp _, hp, hr3.lt, ⟨by show nm.size ≤ 9; omega, by show (⟨#[]⟩ : ByteArray).size ≤ 9; decide, by show (⟨#[]⟩ : ByteArray).size ≤ 9; decide, by show 0 ≤ 1 + (x : Int); omega, by show 1 + (x : Int) ≤ 5; omega⟩⟩
  obtain ⟨A, hAe⟩ : ∃ A, w3.heap.size = A := ⟨_, rfl⟩
  rw [hAe] at HA
  obtain ⟨w4, hw4⟩ : ∃ w4, w3.alloc (.cells #[.int .i64 (1 + (x : Int)), .string nm, .string ⟨#[]⟩, .string ⟨#[]⟩] 45) = w4 := ⟨_, rfl⟩
  rw [hw4] at HA
  have hAB := HA.out
  obtain ⟨q0, q1, q2, q3⟩ := hAB.box.cells
  simp only at q0 q1 q2 q3
  rw [← hw4] at q0 q1 q2 q3
  have HW4 : Hid (w3.alloc (.cells #[.int .i64 (1 + (x : Int)), .string nm, .string ⟨#[]⟩, .string ⟨#[]⟩] 45) = w4) := hw4
  clear c2 hr2 hl3 hl4 hr3 hl5 hnm hnm2 hw4 HA
  rcases (show x = 0 ∨ x = 2 ∨ (x ≠ 0 ∧ x ≠ 2) by omega) with hx0 | hx0 | hx0
  case' inl =>
    have e1 : (1 + (x : Int) == 1) = true := by simp; omega
    clear hx0
    go_wp2_with fail
    rw [HW4.out]
    refine (hAB.below hn 6 (by omega) (by omega)).mono ?_
    rintro e w5 ⟨y, hy, rfl, hAB5⟩
    clear q0 q1 q2 q3 hAB
    go_wp2_with fail
    refine (hAB5.text hn y (by omega)).mono ?_
    rintro e w6 ⟨t, ht, rfl, hAB6⟩
    obtain ⟨q0, q1, q2, q3⟩ := hAB6.box.cells
    obtain ⟨f0, f1, f2, f3⟩ := hAB6.box.thaw
    simp only at q0 q1 q2 q3
    have hAB7 := hAB6.set 2 (.string t) (hAB6.box.setTx t) ⟨hAB6.sm.1, by show t.size ≤ 9; omega, hAB6.sm.2.2.1, hAB6.sm.2.2.2⟩
    clear hAB5 hAB6
    go_wp2_with fail
  case' inr.inl =>
    have e1 : (1 + (x : Int) == 1) = false := by simp; omega
    have e3 : (1 + (x : Int) == 3) = true := by simp; omega
    clear hx0
    go_wp2_with fail
    rw [HW4.out]
    refine (hAB.named hn).mono ?_
    rintro e w6 ⟨t, ht, rfl, hAB6⟩
    clear q0 q1 q2 q3 hAB
    obtain ⟨q0, q1, q2, q3⟩ := hAB6.box.cells
    obtain ⟨f0, f1, f2, f3⟩ := hAB6.box.thaw
    simp only at q0 q1 q2 q3
    have hAB7 := hAB6.set 3 (.string t) (hAB6.box.setTo t) ⟨hAB6.sm.1, hAB6.sm.2.1, by show t.size ≤ 9; omega, hAB6.sm.2.2.2⟩
    clear hAB6
    go_wp2_with fail
  case' inr.inr =>
    have e1 : (1 + (x : Int) == 1) = false := by simp; omega
    have e3 : (1 + (x : Int) == 3) = false := by simp; omega
    clear hx0
    go_wp2_with fail
    rw [HW4.out]
    have hAB7 := hAB
    clear hAB
  all_goals (
    refine (hAB7.below hn 40 (by omega) (by omega)).mono ?_
    rintro e w8 ⟨y8, hy8, rfl, hAB8⟩
    obtain ⟨⟨kd, nn, tx, to⟩, hAB⟩ : ∃ a, AB w A p ca n cap a w8 := ⟨_, hAB8⟩
    obtain ⟨g0, g1, g2, g3⟩ := hAB.sm
    obtain ⟨b0, b1, b2, b3⟩ := hAB.box.cells
    obtain ⟨t0, t1, t2, t3⟩ := hAB.box.thaw
    simp only at b0 b1 b2 b3 g0 g1 g2 g3
    clear hAB7 hAB8
    rcases (show y8 = 0 ∨ y8 = 1 ∨ y8 = 2 ∨ y8 = 3 ∨ 4 ≤ y8 by omega) with rfl | rfl | rfl | rfl | h8
    · have hlt8 := hAB.left.1.lt
      have c9 := pickInt_any (w8.alloc (.cells (ints kindL).toArray 3)) p ca n cap w8.heap.size (.slice (some ⟨w8.heap.size, 0, none⟩) 2 2) kindL ((hAB.plus _).left.1) ((hAB.plus _).left.2.1) hn
        (World.ownsRow_lit (base := w8.heap.size) (e := 3) (size := 1) w8 (ints kindL).toArray 2 (Nat.le_refl _) (by simp [maxLen]) (by rfl)) hlt8 (by decide) (by decide)
      have hAB9 := hAB.plus (.cells (ints kindL).toArray 3)
      clear b0 b1 b2 b3 t0 t1 t2 t3 hAB
      go_wp2_with fail
      refine c9.mono ?_
      rintro e w9 ⟨z, hz, rfl, hl9⟩
      have hz5 := kindL_ok z hz
      have hAB10 := hAB9.next hl9
      obtain ⟨b0, b1, b2, b3⟩ := hAB10.box.cells
      obtain ⟨t0, t1, t2, t3⟩ := hAB10.box.thaw
      simp only at b0 b1 b2 b3
      have hF : AB w A p ca n cap ⟨z, nn, tx, to⟩ (w9.setCell ⟨A, 0, none⟩ (.int .i64 z)) := hAB10.set 0 _ (hAB10.box.setKd z) ⟨g0, g1, g2, hz5.1, hz5.2⟩
      clear c9 hz hl9 hAB9 hAB10
      obtain ⟨a0, a1, a2, a3⟩ := hF.box.cells
      obtain ⟨r0, r1, r2, r3⟩ := hF.res.cells
      obtain ⟨z0, z1, z2, z3⟩ := hF.res.thaw
      obtain ⟨s0, s1, s2, s3⟩ := (hF.res.all ⟨z, nn, tx, to⟩).cells
      simp only [Ac.zero] at a0 a1 a2 a3 r0 r1 r2 r3 s0 s1 s2 s3
      have HS := hF.sm
      have HP := hF.hp
      have HF : Hid (Left w _ p ca n cap) := hF.left
      clear hF
      go_wp2
      refine bodyPost_ret (v := .agg #[.int .i64 (z), .string (nn), .string (tx), .string (to)]) (by simp [results, Try.results47, go_sem, s0, s1, s2, s3]) rfl ⟨_, HS, rfl, ?_⟩
      exact (((HF.out.set HP (by simp) _).set HP (by simp) _).set HP (by simp) _).set HP (by simp) _
    · have hlt8 := hAB.left.1.lt
      have c9 := pick_any (w8.alloc (.cells (strs badL).toArray 9)) p ca n cap w8.heap.size (.slice (some ⟨w8.heap.size, 0, none⟩) 3 3) badL ((hAB.plus _).left.1) ((hAB.plus _).left.2.1) hn
        (World.ownsRow_lit (base := w8.heap.size) (e := 9) (size := 1) w8 (strs badL).toArray 3 (Nat.le_refl _) (by simp [maxLen]) (by rfl)) hlt8 (by decide) (by decide)
      have hAB9 := hAB.plus (.cells (strs badL).toArray 9)
      clear b0 b1 b2 b3 t0 t1 t2 t3 hAB
      go_wp2_with fail
      refine c9.mono ?_
      rintro e w9 ⟨z, hz, rfl, hl9⟩
      have hz5 := badL_ok z hz
      have hAB10 := hAB9.next hl9
      obtain ⟨b0, b1, b2, b3⟩ := hAB10.box.cells
      obtain ⟨t0, t1, t2, t3⟩ := hAB10.box.thaw
      simp only at b0 b1 b2 b3
      have hF : AB w A p ca n cap ⟨kd, z, tx, to⟩ (w9.setCell ⟨A, 1, none⟩ (.string z)) := hAB10.set 1 _ (hAB10.box.setNm z) ⟨hz5, g1, g2, g3⟩
      clear c9 hz hl9 hAB9 hAB10
      obtain ⟨a0, a1, a2, a3⟩ := hF.box.cells
      obtain ⟨r0, r1, r2, r3⟩ := hF.res.cells
      obtain ⟨z0, z1, z2, z3⟩ := hF.res.thaw
      obtain ⟨s0, s1, s2, s3⟩ := (hF.res.all ⟨kd, z, tx, to⟩).cells
      simp only [Ac.zero] at a0 a1 a2 a3 r0 r1 r2 r3 s0 s1 s2 s3
      have HS := hF.sm
      have HP := hF.hp
      have HF : Hid (Left w _ p ca n cap) := hF.left
      clear hF
      go_wp2
      refine bodyPost_ret (v := .agg #[.int .i64 (kd), .string (z), .string (tx), .string (to)]) (by simp [results, Try.results47, go_sem, s0, s1, s2, s3]) rfl ⟨_, HS, rfl, ?_⟩
      exact (((HF.out.set HP (by simp) _).set HP (by simp) _).set HP (by simp) _).set HP (by simp) _
    · have hF : AB w A p ca n cap ⟨kd, nn, tx, ⟨#[120]⟩⟩ (w8.setCell ⟨A, 3, none⟩ (.string ⟨#[120]⟩)) := hAB.set 3 _ (hAB.box.setTo ⟨#[120]⟩) ⟨g0, g1, by show (⟨#[120]⟩ : ByteArray).size ≤ 9; decide, g3⟩
      clear hAB
      obtain ⟨a0, a1, a2, a3⟩ := hF.box.cells
      obtain ⟨r0, r1, r2, r3⟩ := hF.res.cells
      obtain ⟨z0, z1, z2, z3⟩ := hF.res.thaw
      obtain ⟨s0, s1, s2, s3⟩ := (hF.res.all ⟨kd, nn, tx, ⟨#[120]⟩⟩).cells
      simp only [Ac.zero] at a0 a1 a2 a3 r0 r1 r2 r3 s0 s1 s2 s3
      have HS := hF.sm
      have HP := hF.hp
      have HF : Hid (Left w _ p ca n cap) := hF.left
      clear hF
      go_wp2
      refine bodyPost_ret (v := .agg #[.int .i64 (kd), .string (nn), .string (tx), .string (⟨#[120]⟩)]) (by simp [results, Try.results47, go_sem, s0, s1, s2, s3]) rfl ⟨_, HS, rfl, ?_⟩
      exact (((HF.out.set HP (by simp) _).set HP (by simp) _).set HP (by simp) _).set HP (by simp) _
    · have hF : AB w A p ca n cap ⟨kd, nn, ⟨#[120]⟩, to⟩ (w8.setCell ⟨A, 2, none⟩ (.string ⟨#[120]⟩)) := hAB.set 2 _ (hAB.box.setTx ⟨#[120]⟩) ⟨g0, by show (⟨#[120]⟩ : ByteArray).size ≤ 9; decide, g2, g3⟩
      clear hAB
      obtain ⟨a0, a1, a2, a3⟩ := hF.box.cells
      obtain ⟨r0, r1, r2, r3⟩ := hF.res.cells
      obtain ⟨z0, z1, z2, z3⟩ := hF.res.thaw
      obtain ⟨s0, s1, s2, s3⟩ := (hF.res.all ⟨kd, nn, ⟨#[120]⟩, to⟩).cells
      simp only [Ac.zero] at a0 a1 a2 a3 r0 r1 r2 r3 s0 s1 s2 s3
      have HS := hF.sm
      have HP := hF.hp
      have HF : Hid (Left w _ p ca n cap) := hF.left
      clear hF
      go_wp2
      refine bodyPost_ret (v := .agg #[.int .i64 (kd), .string (nn), .string (⟨#[120]⟩), .string (to)]) (by simp [results, Try.results47, go_sem, s0, s1, s2, s3]) rfl ⟨_, HS, rfl, ?_⟩
      exact (((HF.out.set HP (by simp) _).set HP (by simp) _).set HP (by simp) _).set HP (by simp) _
    · have hF := hAB
      have k1 : ((y8 : Int) == 0) = false := by simp; omega
      have k2 : ((y8 : Int) == 1) = false := by simp; omega
      have k3 : ((y8 : Int) == 2) = false := by simp; omega
      have k4 : ((y8 : Int) == 3) = false := by simp; omega
      clear hAB b0 b1 b2 b3 t0 t1 t2 t3
      obtain ⟨a0, a1, a2, a3⟩ := hF.box.cells
      obtain ⟨r0, r1, r2, r3⟩ := hF.res.cells
      obtain ⟨z0, z1, z2, z3⟩ := hF.res.thaw
      obtain ⟨s0, s1, s2, s3⟩ := (hF.res.all ⟨kd, nn, tx, to⟩).cells
      simp only [Ac.zero] at a0 a1 a2 a3 r0 r1 r2 r3 s0 s1 s2 s3
      have HS := hF.sm
      have HP := hF.hp
      have HF : Hid (Left w _ p ca n cap) := hF.left
      clear hF
      go_wp2
      refine bodyPost_ret (v := .agg #[.int .i64 (kd), .string (nn), .string (tx), .string (to)]) (by simp [results, Try.results47, go_sem, s0, s1, s2, s3]) rfl ⟨_, HS, rfl, ?_⟩
      exact (((HF.out.set HP (by simp) _).set HP (by simp) _).set HP (by simp) _).set HP (by simp) _)
end Go.Proofs.Ytiddmmmgmoofnaa
