/- A reader of heads reads a line. Written by mknext.py. -/
import Derived.Test.YtnnaphfeeobelaeGreatDoorHeadPlainJ
import Derived.Test.YtnnaphfeeobelaeGreatDoorWantImplJ
import Derived.Test.YtnnaphfeeobelaeGreatDoorShelf
import Derived.Deep.QuietTactic
import Derived.BigQuiet
import Derived.WalkSmall
namespace Go.Proofs.YtnnaphfeeobelaeGreatDoor
open Go.RowKit
theorem below_grownT {w w' : World} (T : Nat) (h : Below w.heap.size w w') : w.grownBy w' (some T) := ⟨h.os, h.tape, h.output, h.size, fun k hk _ => h.block k hk⟩
set_option maxRecDepth 100000 in
set_option maxHeartbeats 4000000 in
theorem nextLine_ok (w : World) (T : Nat) (l : ByteArray) (v : Value) (t : ByteArray) (k : Nat) (b post : List UInt8) (h : RBx w T l v t (k : Int)) (hk : k ≤ t.size) (hts : t.size ≤ 1048576) (hasc : ∀ x ∈ t.data.toList, x.toNat < 128) (hl : t.data.toList.drop k = b ++ 13 :: 10 :: post) (hb : NoEnd b) :
    Calls Tryz.prog 53 #[.pointer (some ⟨T, 0, none⟩)] w fun e w' => e = .returned (.string ⟨b.toArray⟩) ∧ RBx w' T l v t ((k + b.length + 2 : Nat) : Int) ∧ w.grownBy w' (some T) := by
  obtain ⟨x0, x1, x2, x3⟩ := h.cells
  have hlen := size_le hl
  rw [List.length_append, List.length_cons, List.length_cons] at hlen
  have hfr := from_data hl
  have s1 := fun w => run_slice_string_l (P := Tryz.prog) w 9 t Tryz.underlying9 .i64 (k : Int) (by omega) (by omega)
  rw [Int.toNat_natCast] at s1
  obtain ⟨rest, hrest⟩ : ∃ r, t.extract k t.size = r := ⟨_, rfl⟩
  rw [hrest] at s1 hfr
  have hrz : rest.size = t.size - k := by rw [Lib.size_eq, hfr, size_le hl]
  have hra : ∀ (j : Nat) x, rest.data.toList[j]? = some x → x.toNat < 128 := by
    intro j x hx
    have hm := List.mem_of_getElem? hx
    rw [hfr, ← hl] at hm
    exact hasc x (List.mem_of_mem_drop hm)
  have CI : Hid (∀ wi, Calls Tryz.prog 69 #[.string rest, .string ⟨#[13, 10]⟩] wi fun e w' => e = .returned (.int .i64 (b.length : Int)) ∧ Below wi.heap.size wi w') := by
    intro wi
    have h := Tryz.strings_IndexAny_laid rest ⟨#[13, 10]⟩ wi (by omega) (by decide) hra (by intro j x hx; have hm := List.mem_of_getElem? hx; simp at hm; rcases hm with rfl | rfl <;> decide)
    rw [hfr, show (⟨#[13, 10]⟩ : ByteArray).data.toList = [13, 10] from rfl, indexAny_at b 13 _ hb (.inl rfl)] at h
    exact h
  have s2 := fun w => run_slice_string_l (P := Tryz.prog) w 9 rest Tryz.underlying9 .i64 (b.length : Int) (by omega) (by omega)
  have s3 := fun w => run_slice_string_h (P := Tryz.prog) w 9 rest Tryz.underlying9 .i64 (b.length : Int) (by omega) (by omega)
  rw [Int.toNat_natCast] at s2 s3
  have e2 : (rest.extract b.length rest.size).data.toList = 13 :: 10 :: post := by
    rw [Lib.extract_data, hfr, List.drop_left' rfl, List.take_of_length_le (by rw [hrz]; simp at hlen ⊢; omega)]
  have e3 : rest.extract 0 b.length = ⟨b.toArray⟩ := by
    apply mk_ext
    rw [Lib.extract_data, hfr, List.drop_zero, Nat.sub_zero, List.take_left' rfl]
  rw [e3] at s3
  obtain ⟨tl, htl⟩ : ∃ r, rest.extract b.length rest.size = r := ⟨_, rfl⟩
  rw [htl] at s2 e2
  have q1 : (tl.toList == [13]) = false := by rw [ByteArray.toList_eq, e2]; simp
  have q1' : (tl.toList == (⟨#[13]⟩ : ByteArray).toList) = false := by rw [ByteArray.toList_eq, ByteArray.toList_eq, e2]; simp
  have CP : Hid (∀ wi, Calls Tryz.prog 71 #[.string tl, .string ⟨#[13, 10]⟩] wi fun e w' => e = .returned (.bool true) ∧ w' = wi) := by
    intro wi
    have h := Tryz.strings_HasPrefix tl ⟨#[13, 10]⟩ wi
    rw [e2, show Lib.hasPrefix (13 :: 10 :: post) (⟨#[13, 10]⟩ : ByteArray).data.toList = true by unfold Lib.hasPrefix; simp [List.isPrefixOf]] at h
    exact h
  obtain ⟨m, hm⟩ : ∃ m, b.length = m := ⟨_, rfl⟩
  have hmb : k + m + 2 ≤ 2048576 := by omega
  rw [hm] at CI s2 s3 ⊢
  obtain ⟨bb, hbb⟩ : ∃ B : ByteArray, (⟨b.toArray⟩ : ByteArray) = B := ⟨_, rfl⟩
  rw [hbb] at s3 ⊢
  have HH : Hid (RBx w T l v t (k : Int)) := h
  obtain ⟨N, hN⟩ : ∃ N : Int, ((k + m + 2 : Nat) : Int) = N := ⟨_, rfl⟩
  rw [hN]
  have hadd : IntKind.i64.wrap ((k : Int) + ((m : Int) + 2)) = N := by rw [IntKind.wrap_i64]; omega
  have hadd1 : IntKind.i64.wrap ((m : Int) + 2) = (m : Int) + 2 := by rw [IntKind.wrap_i64]; omega
  have hadd' : (k : Int) + ((m : Int) + 2) = N := by omega
  clear h hl hb hasc hlen hfr hrest hra e2 e3 htl hm hbb hts hk hrz hN
  go_enter Tryz.func53, Tryz.ntmps53
  go_wp2_with fail
  go_quiet (fail)
  obtain ⟨w1, hw1⟩ : ∃ x, w.drewN nq = x := ⟨_, rfl⟩
  have hb1 : Below w.heap.size w w1 := by rw [← hw1]; exact below_drewN (Below.refl _ _) nq
  rw [hw1]
  have ci := CI.out w1
  have h1 := HH.out.on hb1
  clear hw1 x0 x1 x2 x3
  go_wp2_with fail
  refine ci.mono ?_
  rintro e w2 ⟨rfl, hb2⟩
  have hb12 := hb1.trans (hb2.mono hb1.size)
  have h2 := HH.out.on hb12
  clear ci s1
  obtain ⟨y0, y1, y2, y3⟩ := h2.cells
  have yf := h2.thaw 3
  have HS := h2.setAt N
  have HG : Hid (RBx (w2.setCell ⟨T, 3, none⟩ (.int .i64 N)) T l v t N ∧ w.grownBy (w2.setCell ⟨T, 3, none⟩ (.int .i64 N)) (some T)) :=
    ⟨HS, hb12.os, hb12.tape, hb12.output, by simpa [World.setCell] using hb12.size, fun j hj hne => (Below.heap_setCell _ _ _ _ (fun e => hne (by simp only at e; rw [e]))).trans (hb12.block j hj)⟩
  have cp := CP.out w2
  have cy := want_yes w2
  clear HS h1 h2 hb1 hb2
  go_wp2_with fail
  refine cp.mono ?_
  rintro e w3 ⟨rfl, hw3⟩
  rw [hw3]
  go_wp2_with fail
  refine cy.mono ?_
  rintro e w4 ⟨rfl, hw4⟩
  rw [hw4]
  go_wp2_with fail
  go_ret
  exact ⟨rfl, HG.out.1, HG.out.2⟩
set_option maxRecDepth 100000 in
set_option maxHeartbeats 4000000 in
theorem nextLine_more (w : World) (T : Nat) (l : ByteArray) (v : Value) (t : ByteArray) (k : Nat) (b : List UInt8) (h : RBx w T l v t (k : Int)) (hk : k ≤ t.size) (hts : t.size ≤ 1048576) (hasc : ∀ x ∈ t.data.toList, x.toNat < 128) (hl : t.data.toList.drop k = b) (hb : NoEnd b) :
    Calls Tryz.prog 53 #[.pointer (some ⟨T, 0, none⟩)] w fun e w' => e = .panicked (pan (moreC t.size (decide (k = 0)) ⟨b.toArray⟩)) ∧ Below w.heap.size w w' := by
  obtain ⟨x0, x1, x2, x3⟩ := h.cells
  have hlen := size_le hl
  have hfr := from_data hl
  have s1 := fun w => run_slice_string_l (P := Tryz.prog) w 9 t Tryz.underlying9 .i64 (k : Int) (by omega) (by omega)
  rw [Int.toNat_natCast] at s1
  obtain ⟨rest, hrest⟩ : ∃ r, t.extract k t.size = r := ⟨_, rfl⟩
  rw [hrest] at s1 hfr
  have hrz : rest.size = t.size - k := by rw [Lib.size_eq, hfr, size_le hl]
  have hra : ∀ (j : Nat) x, rest.data.toList[j]? = some x → x.toNat < 128 := by
    intro j x hx
    have hm := List.mem_of_getElem? hx
    rw [hfr, ← hl] at hm
    exact hasc x (List.mem_of_mem_drop hm)
  have CI : Hid (∀ wi, Calls Tryz.prog 69 #[.string rest, .string ⟨#[13, 10]⟩] wi fun e w' => e = .returned (.int .i64 (-1)) ∧ Below wi.heap.size wi w') := by
    intro wi
    have h := Tryz.strings_IndexAny_laid rest ⟨#[13, 10]⟩ wi (by omega) (by decide) hra (by intro j x hx; have hm := List.mem_of_getElem? hx; simp at hm; rcases hm with rfl | rfl <;> decide)
    rw [hfr, show (⟨#[13, 10]⟩ : ByteArray).data.toList = [13, 10] from rfl, indexAny_none b hb] at h
    exact h
  have hrb : rest = ⟨b.toArray⟩ := mk_ext rest hfr
  have HM : Hid (∀ wi, RBx wi T l v t (k : Int) → Calls Tryz.prog 70 #[.pointer (some ⟨T, 0, none⟩), .string rest] wi fun e w' => e = .panicked (pan (moreC t.size (decide (k = 0)) ⟨b.toArray⟩)) ∧ w' = wi) := fun wi h => by rw [← hrb]; exact wantMore_any wi T l v t k rest h (by omega)
  generalize moreC t.size (decide (k = 0)) ⟨b.toArray⟩ = C at HM ⊢
  have HH : Hid (RBx w T l v t (k : Int)) := h
  clear h hl hb hasc hlen hfr hrest hra hts hk hrz hrb
  go_enter Tryz.func53, Tryz.ntmps53
  go_wp2_with fail
  go_quiet (fail)
  obtain ⟨w1, hw1⟩ : ∃ x, w.drewN nq = x := ⟨_, rfl⟩
  have hb1 : Below w.heap.size w w1 := by rw [← hw1]; exact below_drewN (Below.refl _ _) nq
  rw [hw1]
  have ci := CI.out w1
  have h1 := HH.out.on hb1
  clear hw1 x0 x1 x2 x3
  go_wp2_with fail
  refine ci.mono ?_
  rintro e w2 ⟨rfl, hb2⟩
  have hb12 := hb1.trans (hb2.mono hb1.size)
  have h2 := HH.out.on hb12
  clear ci s1
  have cm := HM.out w2 h2
  clear h1 h2 hb1 hb2
  go_wp2_with fail
  refine cm.mono ?_
  rintro e w5 ⟨rfl, hw5⟩
  rw [hw5]
  go_wp2_with fail
  exact ⟨rfl, rfl, hb12⟩
set_option maxRecDepth 100000 in
set_option maxHeartbeats 4000000 in
theorem nextLine_half (w : World) (T : Nat) (l : ByteArray) (v : Value) (t : ByteArray) (k : Nat) (b : List UInt8) (h : RBx w T l v t (k : Int)) (hk : k ≤ t.size) (hts : t.size ≤ 1048576) (hasc : ∀ x ∈ t.data.toList, x.toNat < 128) (hl : t.data.toList.drop k = b ++ [13]) (hb : NoEnd b) :
    Calls Tryz.prog 53 #[.pointer (some ⟨T, 0, none⟩)] w fun e w' => e = .panicked (pan (moreC t.size (decide (k = 0)) ⟨b.toArray⟩)) ∧ Below w.heap.size w w' := by
  obtain ⟨x0, x1, x2, x3⟩ := h.cells
  have hlen := size_le hl
  rw [List.length_append, List.length_singleton] at hlen
  have hfr := from_data hl
  have s1 := fun w => run_slice_string_l (P := Tryz.prog) w 9 t Tryz.underlying9 .i64 (k : Int) (by omega) (by omega)
  rw [Int.toNat_natCast] at s1
  obtain ⟨rest, hrest⟩ : ∃ r, t.extract k t.size = r := ⟨_, rfl⟩
  rw [hrest] at s1 hfr
  have hrz : rest.size = t.size - k := by rw [Lib.size_eq, hfr, size_le hl]
  have hra : ∀ (j : Nat) x, rest.data.toList[j]? = some x → x.toNat < 128 := by
    intro j x hx
    have hm := List.mem_of_getElem? hx
    rw [hfr, ← hl] at hm
    exact hasc x (List.mem_of_mem_drop hm)
  have CI : Hid (∀ wi, Calls Tryz.prog 69 #[.string rest, .string ⟨#[13, 10]⟩] wi fun e w' => e = .returned (.int .i64 (b.length : Int)) ∧ Below wi.heap.size wi w') := by
    intro wi
    have h := Tryz.strings_IndexAny_laid rest ⟨#[13, 10]⟩ wi (by omega) (by decide) hra (by intro j x hx; have hm := List.mem_of_getElem? hx; simp at hm; rcases hm with rfl | rfl <;> decide)
    rw [hfr, show (⟨#[13, 10]⟩ : ByteArray).data.toList = [13, 10] from rfl, indexAny_at b 13 _ hb (.inl rfl)] at h
    exact h
  have s2 := fun w => run_slice_string_l (P := Tryz.prog) w 9 rest Tryz.underlying9 .i64 (b.length : Int) (by omega) (by omega)
  have s3 := fun w => run_slice_string_h (P := Tryz.prog) w 9 rest Tryz.underlying9 .i64 (b.length : Int) (by omega) (by omega)
  rw [Int.toNat_natCast] at s2 s3
  have e2 : (rest.extract b.length rest.size).data.toList = [13] := by
    rw [Lib.extract_data, hfr, List.drop_left' rfl, List.take_of_length_le (by rw [hrz]; simp at hlen ⊢; omega)]
  have e3 : rest.extract 0 b.length = ⟨b.toArray⟩ := by
    apply mk_ext
    rw [Lib.extract_data, hfr, List.drop_zero, Nat.sub_zero, List.take_left' rfl]
  rw [e3] at s3
  obtain ⟨tl, htl⟩ : ∃ r, rest.extract b.length rest.size = r := ⟨_, rfl⟩
  rw [htl] at s2 e2
  have q1 : (tl.toList == [13]) = true := by rw [ByteArray.toList_eq, e2]; rfl
  have q1' : (tl.toList == (⟨#[13]⟩ : ByteArray).toList) = true := by rw [ByteArray.toList_eq, ByteArray.toList_eq, e2]; rfl
  have HM : Hid (∀ wi, RBx wi T l v t (k : Int) → Calls Tryz.prog 70 #[.pointer (some ⟨T, 0, none⟩), .string ⟨b.toArray⟩] wi fun e w' => e = .panicked (pan (moreC t.size (decide (k = 0)) ⟨b.toArray⟩)) ∧ w' = wi) := fun wi h => wantMore_any wi T l v t k _ h (by show b.toArray.size ≤ _; simp; omega)
  generalize moreC t.size (decide (k = 0)) ⟨b.toArray⟩ = C at HM ⊢
  obtain ⟨m, hm⟩ : ∃ m, b.length = m := ⟨_, rfl⟩
  have hmb : k + m + 2 ≤ 2048576 := by omega
  rw [hm] at CI s2 s3
  obtain ⟨bb, hbb⟩ : ∃ B : ByteArray, (⟨b.toArray⟩ : ByteArray) = B := ⟨_, rfl⟩
  rw [hbb] at s3 HM
  have HH : Hid (RBx w T l v t (k : Int)) := h
  clear h hl hb hasc hlen hfr hrest hra e2 e3 htl hm hbb hts hk hrz
  go_enter Tryz.func53, Tryz.ntmps53
  go_wp2_with fail
  go_quiet (fail)
  obtain ⟨w1, hw1⟩ : ∃ x, w.drewN nq = x := ⟨_, rfl⟩
  have hb1 : Below w.heap.size w w1 := by rw [← hw1]; exact below_drewN (Below.refl _ _) nq
  rw [hw1]
  have ci := CI.out w1
  have h1 := HH.out.on hb1
  clear hw1 x0 x1 x2 x3
  go_wp2_with fail
  refine ci.mono ?_
  rintro e w2 ⟨rfl, hb2⟩
  have hb12 := hb1.trans (hb2.mono hb1.size)
  have h2 := HH.out.on hb12
  clear ci s1
  have cm := HM.out w2 h2
  clear h1 h2 hb1 hb2
  go_wp2_with fail
  refine cm.mono ?_
  rintro e w5 ⟨rfl, hw5⟩
  rw [hw5]
  go_wp2_with fail
  exact ⟨rfl, rfl, hb12⟩
set_option maxRecDepth 100000 in
set_option maxHeartbeats 4000000 in
theorem nextLine_bad (w : World) (T : Nat) (l : ByteArray) (v : Value) (t : ByteArray) (k : Nat) (b post : List UInt8) (h : RBx w T l v t (k : Int)) (hk : k ≤ t.size) (hts : t.size ≤ 1048576) (hasc : ∀ x ∈ t.data.toList, x.toNat < 128) (hl : t.data.toList.drop k = b ++ 10 :: post) (hb : NoEnd b) :
    Calls Tryz.prog 53 #[.pointer (some ⟨T, 0, none⟩)] w fun e w' => e = .panicked (pan (2)) ∧ Below w.heap.size w w' := by
  obtain ⟨x0, x1, x2, x3⟩ := h.cells
  have hlen := size_le hl
  rw [List.length_append, List.length_cons] at hlen
  have hfr := from_data hl
  have s1 := fun w => run_slice_string_l (P := Tryz.prog) w 9 t Tryz.underlying9 .i64 (k : Int) (by omega) (by omega)
  rw [Int.toNat_natCast] at s1
  obtain ⟨rest, hrest⟩ : ∃ r, t.extract k t.size = r := ⟨_, rfl⟩
  rw [hrest] at s1 hfr
  have hrz : rest.size = t.size - k := by rw [Lib.size_eq, hfr, size_le hl]
  have hra : ∀ (j : Nat) x, rest.data.toList[j]? = some x → x.toNat < 128 := by
    intro j x hx
    have hm := List.mem_of_getElem? hx
    rw [hfr, ← hl] at hm
    exact hasc x (List.mem_of_mem_drop hm)
  have CI : Hid (∀ wi, Calls Tryz.prog 69 #[.string rest, .string ⟨#[13, 10]⟩] wi fun e w' => e = .returned (.int .i64 (b.length : Int)) ∧ Below wi.heap.size wi w') := by
    intro wi
    have h := Tryz.strings_IndexAny_laid rest ⟨#[13, 10]⟩ wi (by omega) (by decide) hra (by intro j x hx; have hm := List.mem_of_getElem? hx; simp at hm; rcases hm with rfl | rfl <;> decide)
    rw [hfr, show (⟨#[13, 10]⟩ : ByteArray).data.toList = [13, 10] from rfl, indexAny_at b 10 _ hb (.inr rfl)] at h
    exact h
  have s2 := fun w => run_slice_string_l (P := Tryz.prog) w 9 rest Tryz.underlying9 .i64 (b.length : Int) (by omega) (by omega)
  have s3 := fun w => run_slice_string_h (P := Tryz.prog) w 9 rest Tryz.underlying9 .i64 (b.length : Int) (by omega) (by omega)
  rw [Int.toNat_natCast] at s2 s3
  have e2 : (rest.extract b.length rest.size).data.toList = 10 :: post := by
    rw [Lib.extract_data, hfr, List.drop_left' rfl, List.take_of_length_le (by rw [hrz]; simp at hlen ⊢; omega)]
  have e3 : rest.extract 0 b.length = ⟨b.toArray⟩ := by
    apply mk_ext
    rw [Lib.extract_data, hfr, List.drop_zero, Nat.sub_zero, List.take_left' rfl]
  rw [e3] at s3
  obtain ⟨tl, htl⟩ : ∃ r, rest.extract b.length rest.size = r := ⟨_, rfl⟩
  rw [htl] at s2 e2
  have q1 : (tl.toList == [13]) = false := by rw [ByteArray.toList_eq, e2]; simp
  have q1' : (tl.toList == (⟨#[13]⟩ : ByteArray).toList) = false := by rw [ByteArray.toList_eq, ByteArray.toList_eq, e2]; simp
  have CP : Hid (∀ wi, Calls Tryz.prog 71 #[.string tl, .string ⟨#[13, 10]⟩] wi fun e w' => e = .returned (.bool false) ∧ w' = wi) := by
    intro wi
    have h := Tryz.strings_HasPrefix tl ⟨#[13, 10]⟩ wi
    rw [e2, show Lib.hasPrefix (10 :: post) (⟨#[13, 10]⟩ : ByteArray).data.toList = false by unfold Lib.hasPrefix; simp [List.isPrefixOf]] at h
    exact h
  obtain ⟨m, hm⟩ : ∃ m, b.length = m := ⟨_, rfl⟩
  have hmb : k + m + 2 ≤ 2048576 := by omega
  rw [hm] at CI s2 s3
  obtain ⟨bb, hbb⟩ : ∃ B : ByteArray, (⟨b.toArray⟩ : ByteArray) = B := ⟨_, rfl⟩
  rw [hbb] at s3
  have HH : Hid (RBx w T l v t (k : Int)) := h
  clear h hl hb hasc hlen hfr hrest hra e2 e3 htl hm hbb hts hk hrz
  go_enter Tryz.func53, Tryz.ntmps53
  go_wp2_with fail
  go_quiet (fail)
  obtain ⟨w1, hw1⟩ : ∃ x, w.drewN nq = x := ⟨_, rfl⟩
  have hb1 : Below w.heap.size w w1 := by rw [← hw1]; exact below_drewN (Below.refl _ _) nq
  rw [hw1]
  have ci := CI.out w1
  have h1 := HH.out.on hb1
  clear hw1 x0 x1 x2 x3
  go_wp2_with fail
  refine ci.mono ?_
  rintro e w2 ⟨rfl, hb2⟩
  have hb12 := hb1.trans (hb2.mono hb1.size)
  have h2 := HH.out.on hb12
  clear ci s1
  have cp := CP.out w2
  have cm := want_no w2
  clear h1 h2 hb1 hb2
  go_wp2_with fail
  refine cp.mono ?_
  rintro e w3 ⟨rfl, hw3⟩
  rw [hw3]
  go_wp2_with fail
  refine cm.mono ?_
  rintro e w5 ⟨rfl, hw5⟩
  rw [hw5]
  go_wp2_with fail
  exact ⟨rfl, rfl, hb12⟩
end Go.Proofs.YtnnaphfeeobelaeGreatDoor
