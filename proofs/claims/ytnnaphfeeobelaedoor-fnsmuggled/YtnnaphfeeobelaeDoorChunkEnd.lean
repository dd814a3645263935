/- A reader of parts passes a line's end. -/
import Derived.Test.YtnnaphfeeobelaeDoorChunkRest
namespace Go.Proofs.YtnnaphfeeobelaeDoor
open Go.RowKit Go.Sort
theorem drop_at {l : List UInt8} {k i : Nat} : (l.drop k)[i]? = l[k + i]? := by rw [List.getElem?_drop]
theorem end_cases (l : List UInt8) (k : Nat) : (l.drop k = [] ∧ endS l k = 0) ∨ (l.drop k = [13] ∧ endS l k = 0) ∨ (∃ r, l.drop k = 13 :: 10 :: r ∧ endS l k = (k : Int) + 2 ∧ k + 2 ≤ l.length) ∨ (endS l k = -1 ∧ Lib.hasPrefix (l.drop k) [13, 10] = false ∧ l.drop k ≠ [] ∧ l.drop k ≠ [13]) := by
  have h0 := drop_at (l := l) (k := k) (i := 0)
  have h1 := drop_at (l := l) (k := k) (i := 1)
  rw [Nat.add_zero] at h0
  have hl : (l.drop k).length = l.length - k := List.length_drop
  unfold endS
  rw [← h0, ← h1]
  generalize l.drop k = d at hl
  match d with
  | [] => exact .inl ⟨rfl, rfl⟩
  | [b] =>
    by_cases hb : b.toNat = 13
    · have : b = 13 := by apply UInt8.toNat_inj.1; exact hb
      subst this
      exact .inr (.inl ⟨rfl, rfl⟩)
    · have hn : b ≠ 13 := fun e => hb (by rw [e]; rfl)
      refine .inr (.inr (.inr ⟨by simp [hb], ?_, by simp, by simpa using hn⟩))
      show (((13 : UInt8) == b) && false) = false
      simp
  | b :: c :: r =>
    by_cases hb : b.toNat = 13
    · have : b = 13 := by apply UInt8.toNat_inj.1; exact hb
      subst this
      by_cases hc : c.toNat = 10
      · have : c = 10 := by apply UInt8.toNat_inj.1; exact hc
        subst this
        refine .inr (.inr (.inl ⟨r, rfl, by simp, by simp at hl; omega⟩))
      · have hn : c ≠ 10 := fun e => hc (by rw [e]; rfl)
        refine .inr (.inr (.inr ⟨by simp [hc], ?_, by simp, by simp⟩))
        show (((13 : UInt8) == 13) && (((10 : UInt8) == c) && true)) = false
        have h10 : ((10 : UInt8) == c) = false := by rw [beq_eq_false_iff_ne]; exact fun e => hn e.symm
        rw [h10]
        rfl
    · have hn : b ≠ 13 := fun e => hb (by rw [e]; rfl)
      refine .inr (.inr (.inr ⟨by simp [hb], ?_, by simp, by simp⟩))
      show (((13 : UInt8) == b) && _) = false
      have h13 : ((13 : UInt8) == b) = false := by rw [beq_eq_false_iff_ne]; exact fun e => hn e.symm
      rw [h13]
      rfl
set_option maxHeartbeats 4000000 in
theorem passEnd_any (w0 : World) (T : Nat) (t : ByteArray) (k : Nat) (v : Value) (B : List UInt8) (w : World) (H : Rc w0 T t k v B w) (hk : k ≤ t.size) (ht : t.size ≤ 1048576) :
    Calls Tryd.prog 72 #[.pointer (some ⟨T, 0, none⟩)] w fun e w' =>
      (endS t.data.toList k < 0 ∧ e = .returned (flt 2) ∧ Rc w0 T t k v B w') ∨ (endS t.data.toList k = 0 ∧ e = .returned (flt 1) ∧ Rc w0 T t k v B w') ∨ (0 < endS t.data.toList k ∧ e = .returned .nilIface ∧ Rc w0 T t (k + 2) v B w') := by
  have c1 := rest_any w T t k v H.box hk
  have hx : (t.extract k t.size).data.toList = t.data.toList.drop k := by
    rw [Lib.extract_data, List.take_of_length_le]
    rw [List.length_drop, ← Lib.size_eq]
    omega
  obtain ⟨s, hs⟩ : ∃ s, t.extract k t.size = s := ⟨_, rfl⟩
  rw [hs] at c1 hx
  have C2 : Hid (∀ wi, Calls Tryd.prog 80 #[.string s, .string ⟨#[13, 10]⟩] wi fun e w' => e = .returned (.bool (Lib.hasPrefix (t.data.toList.drop k) [13, 10])) ∧ w' = wi) := by
    intro wi
    have h := Tryd.strings_HasPrefix s ⟨#[13, 10]⟩ wi
    rw [hx] at h
    exact h
  have HH : Hid (Rc w0 T t k v B w) := H
  clear H hs
  have em := emptyT s
  have hsz : s.size = (t.data.toList.drop k).length := by rw [Lib.size_eq, hx]
  rcases end_cases t.data.toList k with ⟨hd, he⟩ | ⟨hd, he⟩ | ⟨r, hd, he, hle⟩ | ⟨he, hp, hn1, hn2⟩
  · rw [hd] at hx C2 hsz
    rw [decide_eq_true (by simpa using hsz)] at em
    have HE : Hid (endS t.data.toList k = 0) := he
    clear hd he hsz hx
    go_enter Tryd.func72, Tryd.ntmps72
    go_wp2_with fail
    refine c1.mono ?_
    rintro e w1 ⟨rfl, hb1⟩
    have H1 := HH.out.next hb1
    clear c1 HH hb1
    go_wp2_with fail
    refine (C2.out _).mono ?_
    rintro e w2 ⟨rfl, hw⟩
    rw [hw]
    clear C2
    go_wp2_with fail
    go_ret
    exact .inr (.inl ⟨HE.out, rfl, H1⟩)
  · rw [hd] at hx C2 hsz
    rw [decide_eq_false (by rw [hsz]; simp)] at em
    have q1 : (s.toList == [13]) = true := by rw [ByteArray.toList_eq, hx]; rfl
    have q1' : (s.toList == (⟨#[13]⟩ : ByteArray).toList) = true := by rw [ByteArray.toList_eq, ByteArray.toList_eq, hx]; rfl
    have HE : Hid (endS t.data.toList k = 0) := he
    clear hd he hsz hx
    go_enter Tryd.func72, Tryd.ntmps72
    go_wp2_with fail
    refine c1.mono ?_
    rintro e w1 ⟨rfl, hb1⟩
    have H1 := HH.out.next hb1
    clear c1 HH hb1
    go_wp2_with fail
    refine (C2.out _).mono ?_
    rintro e w2 ⟨rfl, hw⟩
    rw [hw]
    clear C2
    go_wp2_with fail
    go_ret
    exact .inr (.inl ⟨HE.out, rfl, H1⟩)
  · rw [hd] at C2
    have hp : Lib.hasPrefix (13 :: 10 :: r) [13, 10] = true := by simp [Lib.hasPrefix]
    rw [hp] at C2
    have HE : Hid (0 < endS t.data.toList k) := by show _ < _; rw [he]; omega
    have hk2 : (k : Int) + 2 ≤ 1048576 := by rw [← Lib.size_eq] at hle; omega
    clear hd he hsz hx em hp hle
    go_enter Tryd.func72, Tryd.ntmps72
    go_wp2_with fail
    refine c1.mono ?_
    rintro e w1 ⟨rfl, hb1⟩
    have H1 := HH.out.next hb1
    clear c1 HH hb1
    go_wp2_with fail
    refine (C2.out _).mono ?_
    rintro e w2 ⟨rfl, hw⟩
    rw [hw]
    obtain ⟨x0, x1, x2⟩ := H1.box.cells
    have z1 := H1.box.thaw 1
    have H2 : Hid (Rc w0 T t (k + 2) v B (w1.setCell ⟨T, 1, none⟩ (.int .i64 ((k : Int) + 2)))) := H1.setAt (k + 2)
    clear C2 H1
    go_wp2_with fail
    go_ret
    exact .inr (.inr ⟨HE.out, rfl, H2.out⟩)
  · rw [hp] at C2
    rw [decide_eq_false (by rw [hsz]; intro e; exact hn1 (List.length_eq_zero_iff.1 e))] at em
    have q1 : (s.toList == [13]) = false := by rw [ByteArray.toList_eq, hx]; simpa using hn2
    have q1' : (s.toList == (⟨#[13]⟩ : ByteArray).toList) = false := by rw [ByteArray.toList_eq, ByteArray.toList_eq, hx]; simpa using hn2
    have HE : Hid (endS t.data.toList k < 0) := by show _ < _; rw [he]; omega
    clear he hsz hx hp hn1 hn2
    go_enter Tryd.func72, Tryd.ntmps72
    go_wp2_with fail
    refine c1.mono ?_
    rintro e w1 ⟨rfl, hb1⟩
    have H1 := HH.out.next hb1
    clear c1 HH hb1
    go_wp2_with fail
    refine (C2.out _).mono ?_
    rintro e w2 ⟨rfl, hw⟩
    rw [hw]
    clear C2
    go_wp2_with fail
    go_ret
    exact .inl ⟨HE.out, rfl, H1⟩
end Go.Proofs.YtnnaphfeeobelaeDoor
