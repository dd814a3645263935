/- Texts that stand in one: ChunkRest, ChunkEnd, ChunkFigs. -/
import Derived.Test.YtnnaphfeeobelaeGreatDoorAnswerDrawJ
import Derived.Test.YtnnaphfeeobelaeGreatDoorChunkIPlainJ
import Derived.Test.YtnnaphfeeobelaeGreatDoorFiguresImpl
import Derived.Test.YtnnaphfeeobelaeGreatDoorShelf
import Derived.BigQuiet
namespace Go.Proofs.YtnnaphfeeobelaeGreatDoor
open Go.RowKit Go.Sort
set_option maxRecDepth 100000 in
theorem idx_fig : ∀ b : UInt8, Lib.indexByte [48, 49, 50, 51, 52, 53, 54, 55, 56, 57, 97, 98, 99, 100, 101, 102] b = if 65 ≤ b.toNat ∧ b.toNat ≤ 70 then -1 else hexI b := by
  intro b
  obtain ⟨n, hn⟩ : ∃ n : Fin 256, b = UInt8.ofNat n.val := ⟨⟨b.toNat, b.toNat_lt⟩, by simp⟩
  subst hn
  revert n
  decide
set_option maxRecDepth 100000 in
theorem hex_up (b : UInt8) (h1 : 65 ≤ b.toNat) (h2 : b.toNat ≤ 70) : hexI (UInt8.ofNat (b.toNat + 32)) = hexI b := by
  obtain ⟨n, hn⟩ : ∃ n : Fin 256, b = UInt8.ofNat n.val := ⟨⟨b.toNat, b.toNat_lt⟩, by simp⟩
  subst hn
  revert n
  decide
theorem figureOf_any (b : UInt8) (w : World) :
    Calls Tryz.prog 122 #[.int .u8 (b.toNat : Int)] w fun e w' => e = .returned (.int .i64 (hexI b)) ∧ w' = w := by
  have hlt : (b.toNat : Int) < 256 := by have := b.toNat_lt; omega
  have hge : (0 : Int) ≤ (b.toNat : Int) := by omega
  by_cases hu : 65 ≤ b.toNat ∧ b.toNat ≤ 70
  · have c1 := Tryz.strings_IndexByte ⟨#[48, 49, 50, 51, 52, 53, 54, 55, 56, 57, 97, 98, 99, 100, 101, 102]⟩ ((b.toNat : Int) + 32) w
    have e1 : (((b.toNat : Int) + 32).toNat).toUInt8 = UInt8.ofNat (b.toNat + 32) := by
      rw [show ((b.toNat : Int) + 32).toNat = b.toNat + 32 by omega]
    have e2 : Lib.indexByte [48, 49, 50, 51, 52, 53, 54, 55, 56, 57, 97, 98, 99, 100, 101, 102] (UInt8.ofNat (b.toNat + 32)) = hexI b := by
      rw [idx_fig, hex_up b hu.1 hu.2, if_neg]
      have h3 : (UInt8.ofNat (b.toNat + 32)).toNat = b.toNat + 32 := by simp; omega
      rw [h3]
      omega
    rw [e1] at c1
    rw [show (⟨#[48, 49, 50, 51, 52, 53, 54, 55, 56, 57, 97, 98, 99, 100, 101, 102]⟩ : ByteArray).data.toList = [48, 49, 50, 51, 52, 53, 54, 55, 56, 57, 97, 98, 99, 100, 101, 102] from rfl, e2] at c1
    have g1 : (65 : Int) ≤ (b.toNat : Int) := by omega
    have g2 : (b.toNat : Int) ≤ 70 := by omega
    have g3 : (b.toNat : Int) + 32 < 256 := by omega
    generalize hexI b = R at c1
    clear e1 e2 hu
    generalize (b.toNat : Int) = x at c1 g1 g2 g3 hlt hge
    go_enter Tryz.func122, Tryz.ntmps122
    go_wp2_with fail
    refine c1.mono ?_
    rintro e w' ⟨rfl, hw⟩
    rw [hw]
    go_wp2_with fail
    go_ret
    exact ⟨rfl, rfl⟩
  · have c1 := Tryz.strings_IndexByte ⟨#[48, 49, 50, 51, 52, 53, 54, 55, 56, 57, 97, 98, 99, 100, 101, 102]⟩ (b.toNat : Int) w
    have e1 : ((b.toNat : Int).toNat).toUInt8 = b := by simp
    have e2 : Lib.indexByte [48, 49, 50, 51, 52, 53, 54, 55, 56, 57, 97, 98, 99, 100, 101, 102] b = hexI b := by rw [idx_fig, if_neg hu]
    rw [e1] at c1
    rw [show (⟨#[48, 49, 50, 51, 52, 53, 54, 55, 56, 57, 97, 98, 99, 100, 101, 102]⟩ : ByteArray).data.toList = [48, 49, 50, 51, 52, 53, 54, 55, 56, 57, 97, 98, 99, 100, 101, 102] from rfl, e2] at c1
    have g1 : ¬ (65 : Int) ≤ (b.toNat : Int) ∨ ¬ (b.toNat : Int) ≤ 70 := by omega
    generalize hexI b = R at c1
    clear e1 e2 hu
    generalize (b.toNat : Int) = x at c1 g1 hlt hge
    rcases g1 with g1 | g1
    · go_enter Tryz.func122, Tryz.ntmps122
      go_wp2_with fail
      refine c1.mono ?_
      rintro e w' ⟨rfl, hw⟩
      rw [hw]
      go_wp2_with fail
      go_ret
      exact ⟨rfl, rfl⟩
    · have g2 : (65 : Int) ≤ x := by omega
      go_enter Tryz.func122, Tryz.ntmps122
      go_wp2_with fail
      refine c1.mono ?_
      rintro e w' ⟨rfl, hw⟩
      rw [hw]
      go_wp2_with fail
      go_ret
      exact ⟨rfl, rfl⟩
set_option maxHeartbeats 2000000 in
theorem rest_any (w : World) (T : Nat) (t : ByteArray) (k : Nat) (v : Value) (h : CBx w T t (k : Int) v) (hk : k ≤ t.size) :
    Calls Tryz.prog 112 #[.pointer (some ⟨T, 0, none⟩)] w fun e w' => e = .returned (.string (t.extract k t.size)) ∧ Below w.heap.size w w' := by
  obtain ⟨x0, x1, x2⟩ := h.cells
  have hsr := fun w => run_slice_string_l (P := Tryz.prog) w 9 t Tryz.underlying9 .i64 (k : Int) (by omega) (by omega)
  rw [Int.toNat_natCast] at hsr
  clear h
  go_enter Tryz.func112, Tryz.ntmps112
  go_wp2_with fail
  go_quiet (fail)
  go_wp2_with fail
  go_ret
  exact ⟨rfl, ⟨rfl, rfl, rfl, Nat.le_refl _, fun _ _ => rfl⟩⟩
end Go.Proofs.YtnnaphfeeobelaeGreatDoor

namespace Go.Proofs.YtnnaphfeeobelaeGreatDoor
open Go.RowKit Go.Sort
theorem dropC_at {l : List UInt8} {k i : Nat} : (l.drop k)[i]? = l[k + i]? := by rw [List.getElem?_drop]
theorem end_cases (l : List UInt8) (k : Nat) : (l.drop k = [] ∧ endS l k = 0) ∨ (l.drop k = [13] ∧ endS l k = 0) ∨ (∃ r, l.drop k = 13 :: 10 :: r ∧ endS l k = (k : Int) + 2 ∧ k + 2 ≤ l.length) ∨ (endS l k = -1 ∧ Lib.hasPrefix (l.drop k) [13, 10] = false ∧ l.drop k ≠ [] ∧ l.drop k ≠ [13]) := by
  have h0 := dropC_at (l := l) (k := k) (i := 0)
  have h1 := dropC_at (l := l) (k := k) (i := 1)
  rw [Nat.add_zero] at h0
  have hl : (l.drop k).length = l.length - k := List.length_drop
  unfold endS
  rw [← h0, ← h1]
  generalize l.drop k = d at hl
  match d with
  | [] => exact .inl ⟨rfl, rfl⟩
  | [b] =>
    by_cases hb : b.toNat = 13
    · have : b = 13 := by apply UInt8.toNat_inj.1; exact hb
      subst this
      exact .inr (.inl ⟨rfl, rfl⟩)
    · have hn : b ≠ 13 := fun e => hb (by rw [e]; rfl)
      refine .inr (.inr (.inr ⟨by simp [hb], ?_, by simp, by simpa using hn⟩))
      show (((13 : UInt8) == b) && false) = false
      simp
  | b :: c :: r =>
    by_cases hb : b.toNat = 13
    · have : b = 13 := by apply UInt8.toNat_inj.1; exact hb
      subst this
      by_cases hc : c.toNat = 10
      · have : c = 10 := by apply UInt8.toNat_inj.1; exact hc
        subst this
        refine .inr (.inr (.inl ⟨r, rfl, by simp, by simp at hl; omega⟩))
      · have hn : c ≠ 10 := fun e => hc (by rw [e]; rfl)
        refine .inr (.inr (.inr ⟨by simp [hc], ?_, by simp, by simp⟩))
        show (((13 : UInt8) == 13) && (((10 : UInt8) == c) && true)) = false
        have h10 : ((10 : UInt8) == c) = false := by rw [beq_eq_false_iff_ne]; exact fun e => hn e.symm
        rw [h10]
        rfl
    · have hn : b ≠ 13 := fun e => hb (by rw [e]; rfl)
      refine .inr (.inr (.inr ⟨by simp [hb], ?_, by simp, by simp⟩))
      show (((13 : UInt8) == b) && _) = false
      have h13 : ((13 : UInt8) == b) = false := by rw [beq_eq_false_iff_ne]; exact fun e => hn e.symm
      rw [h13]
      rfl
set_option maxHeartbeats 4000000 in
theorem passEnd_any (w0 : World) (T : Nat) (t : ByteArray) (k : Nat) (v : Value) (B : List UInt8) (w : World) (H : Rc w0 T t k v B w) (hk : k ≤ t.size) (ht : t.size ≤ 1048576) :
    Calls Tryz.prog 114 #[.pointer (some ⟨T, 0, none⟩)] w fun e w' =>
      (endS t.data.toList k < 0 ∧ e = .returned (flt 2) ∧ Rc w0 T t k v B w') ∨ (endS t.data.toList k = 0 ∧ e = .returned (flt 1) ∧ Rc w0 T t k v B w') ∨ (0 < endS t.data.toList k ∧ e = .returned .nilIface ∧ Rc w0 T t (k + 2) v B w') := by
  have c1 := rest_any w T t k v H.box hk
  have hx : (t.extract k t.size).data.toList = t.data.toList.drop k := by
    rw [Lib.extract_data, List.take_of_length_le]
    rw [List.length_drop, ← Lib.size_eq]
    omega
  obtain ⟨s, hs⟩ : ∃ s, t.extract k t.size = s := ⟨_, rfl⟩
  rw [hs] at c1 hx
  have C2 : Hid (∀ wi, Calls Tryz.prog 71 #[.string s, .string ⟨#[13, 10]⟩] wi fun e w' => e = .returned (.bool (Lib.hasPrefix (t.data.toList.drop k) [13, 10])) ∧ w' = wi) := by
    intro wi
    have h := Tryz.strings_HasPrefix s ⟨#[13, 10]⟩ wi
    rw [hx] at h
    exact h
  have HH : Hid (Rc w0 T t k v B w) := H
  clear H hs
  have em := emptyT s
  have hsz : s.size = (t.data.toList.drop k).length := by rw [Lib.size_eq, hx]
  rcases end_cases t.data.toList k with ⟨hd, he⟩ | ⟨hd, he⟩ | ⟨r, hd, he, hle⟩ | ⟨he, hp, hn1, hn2⟩
  · rw [hd] at hx C2 hsz
    rw [decide_eq_true (by simpa using hsz)] at em
    have HE : Hid (endS t.data.toList k = 0) := he
    clear hd he hsz hx
    go_enter Tryz.func114, Tryz.ntmps114
    go_wp2_with fail
    refine c1.mono ?_
    rintro e w1 ⟨rfl, hb1⟩
    have H1 := HH.out.next hb1
    clear c1 HH hb1
    go_wp2_with fail
    refine (C2.out _).mono ?_
    rintro e w2 ⟨rfl, hw⟩
    rw [hw]
    clear C2
    go_wp2_with fail
    go_ret
    exact .inr (.inl ⟨HE.out, rfl, H1⟩)
  · rw [hd] at hx C2 hsz
    rw [decide_eq_false (by rw [hsz]; simp)] at em
    have q1 : (s.toList == [13]) = true := by rw [ByteArray.toList_eq, hx]; rfl
    have q1' : (s.toList == (⟨#[13]⟩ : ByteArray).toList) = true := by rw [ByteArray.toList_eq, ByteArray.toList_eq, hx]; rfl
    have HE : Hid (endS t.data.toList k = 0) := he
    clear hd he hsz hx
    go_enter Tryz.func114, Tryz.ntmps114
    go_wp2_with fail
    refine c1.mono ?_
    rintro e w1 ⟨rfl, hb1⟩
    have H1 := HH.out.next hb1
    clear c1 HH hb1
    go_wp2_with fail
    refine (C2.out _).mono ?_
    rintro e w2 ⟨rfl, hw⟩
    rw [hw]
    clear C2
    go_wp2_with fail
    go_ret
    exact .inr (.inl ⟨HE.out, rfl, H1⟩)
  · rw [hd] at C2
    have hp : Lib.hasPrefix (13 :: 10 :: r) [13, 10] = true := by simp [Lib.hasPrefix]
    rw [hp] at C2
    have HE : Hid (0 < endS t.data.toList k) := by show _ < _; rw [he]; omega
    have hk2 : (k : Int) + 2 ≤ 1048576 := by rw [← Lib.size_eq] at hle; omega
    clear hd he hsz hx em hp hle
    go_enter Tryz.func114, Tryz.ntmps114
    go_wp2_with fail
    refine c1.mono ?_
    rintro e w1 ⟨rfl, hb1⟩
    have H1 := HH.out.next hb1
    clear c1 HH hb1
    go_wp2_with fail
    refine (C2.out _).mono ?_
    rintro e w2 ⟨rfl, hw⟩
    rw [hw]
    obtain ⟨x0, x1, x2⟩ := H1.box.cells
    have z1 := H1.box.thaw 1
    have H2 : Hid (Rc w0 T t (k + 2) v B (w1.setCell ⟨T, 1, none⟩ (.int .i64 ((k : Int) + 2)))) := H1.setAt (k + 2)
    clear C2 H1
    go_wp2_with fail
    go_ret
    exact .inr (.inr ⟨HE.out, rfl, H2.out⟩)
  · rw [hp] at C2
    rw [decide_eq_false (by rw [hsz]; intro e; exact hn1 (List.length_eq_zero_iff.1 e))] at em
    have q1 : (s.toList == [13]) = false := by rw [ByteArray.toList_eq, hx]; simpa using hn2
    have q1' : (s.toList == (⟨#[13]⟩ : ByteArray).toList) = false := by rw [ByteArray.toList_eq, ByteArray.toList_eq, hx]; simpa using hn2
    have HE : Hid (endS t.data.toList k < 0) := by show _ < _; rw [he]; omega
    clear he hsz hx hp hn1 hn2
    go_enter Tryz.func114, Tryz.ntmps114
    go_wp2_with fail
    refine c1.mono ?_
    rintro e w1 ⟨rfl, hb1⟩
    have H1 := HH.out.next hb1
    clear c1 HH hb1
    go_wp2_with fail
    refine (C2.out _).mono ?_
    rintro e w2 ⟨rfl, hw⟩
    rw [hw]
    clear C2
    go_wp2_with fail
    go_ret
    exact .inl ⟨HE.out, rfl, H1⟩
end Go.Proofs.YtnnaphfeeobelaeGreatDoor

namespace Go.Proofs.YtnnaphfeeobelaeGreatDoor
open Go.RowKit Go.Sort
theorem hexP_some {b : UInt8} (h : 0 ≤ hexI b) : ∃ x : Nat, hexV b = some x ∧ hexI b = (x : Int) ∧ x < 16 := by
  unfold hexI at h ⊢
  cases hv : hexV b with
  | none => rw [hv] at h; simp at h
  | some x => exact ⟨x, rfl, rfl, hexV_lt hv⟩
theorem hexP_none {b : UInt8} (h : hexI b < 0) : hexV b = none ∧ hexI b = -1 := by
  unfold hexI at h ⊢
  cases hv : hexV b with
  | none => exact ⟨rfl, rfl⟩
  | some x => rw [hv] at h; simp at h; omega
set_option maxHeartbeats 4000000 in
theorem figsAhead_any (s : ByteArray) (w : World) :
    Calls Tryz.prog 113 #[.string s] w fun e w' => e = .returned (.tuple #[.int .i64 ((figsAt s.data.toList 0).2 : Nat), .int .i64 ((figsAt s.data.toList 0).1 : Nat)]) ∧ w' = w := by
  obtain ⟨l, hl⟩ : ∃ l, s.data.toList = l := ⟨_, rfl⟩
  rw [hl]
  have hsz : s.size = l.length := by rw [← hl]; exact Lib.size_eq s
  obtain ⟨R, hR⟩ : ∃ R, figsAt l 0 = R := ⟨_, rfl⟩
  rw [hR]
  have HR : Hid (figsAt l 0 = R) := hR
  have gt : ∀ j (hj : j < s.size), l[j]? = some s[j] := by
    intro j hj
    subst hl
    rw [List.getElem?_eq_getElem (by rw [← Lib.size_eq]; exact hj)]
    rfl
  clear hR
  by_cases h0 : 0 < s.size
  case neg =>
    have HE : Hid (R = (0, 0)) := by show _ = _; rw [← HR.out]; unfold figsAt; rw [List.getElem?_eq_none (by omega)]; rfl
    have hz : (s.size : Int) = 0 := by omega
    clear HR gt hl hsz h0
    go_enter Tryz.func113, Tryz.ntmps113
    go_wp2_with fail
    refine wp_loop_rounds 3 ?_
    rw [rounds_succ]
    go_wp2_with fail
    go_ret2
    exact ⟨by rw [HE.out]; rfl, rfl⟩
  obtain ⟨b, hb⟩ : ∃ b, s[0] = b := ⟨_, rfl⟩
  have gb : l[0]? = some b := by rw [gt 0 h0, hb]
  have hx0 : ∀ W : World, (Instr.index 9 (.string s) (.int .i64 0)).run Tryz.prog W = .ok (.int .u8 (b.toNat : Int)) W := by
    intro W
    rw [run_index_string W 9 s .i64 0 Tryz.underlying9, dif_pos ⟨by omega, by omega⟩]
    rw [← hb]
    rfl
  have c0 := figureOf_any b w
  have hlt0 : (0 : Int) < (s.size : Int) := by omega
  by_cases hn : hexI b < 0
  · obtain ⟨hv, hi⟩ := hexP_none hn
    have HE : Hid (R = (0, 0)) := by show _ = _; rw [← HR.out]; unfold figsAt; rw [gb]; simp [hv]
    rw [hi] at c0
    have hmin : (0 : Int) < min (s.size : Int) 2 := by omega
    clear HR gt hl hsz h0 gb hb hv hn
    go_enter Tryz.func113, Tryz.ntmps113
    go_wp2_with fail
    refine wp_loop_rounds 3 ?_
    rw [rounds_succ]
    go_wp2_with fail
    refine c0.mono ?_
    rintro e w1 ⟨rfl, hw⟩
    rw [hw]
    go_wp2_with fail
    go_ret2
    exact ⟨by rw [HE.out]; rfl, rfl⟩
  obtain ⟨x, hv, hi, hx16⟩ := hexP_some (b := b) (by omega)
  rw [hi] at c0
  by_cases h1 : 1 < s.size
  case neg =>
    have HE : Hid (R = (1, x)) := by show _ = _; rw [← HR.out]; unfold figsAt; rw [gb, List.getElem?_eq_none (by omega)]; simp [hv]
    have hz : (s.size : Int) = 1 := by omega
    clear HR gt hl hsz h0 gb hb hv hn hi h1
    go_enter Tryz.func113, Tryz.ntmps113
    go_wp2_with fail
    refine wp_loop_rounds 3 ?_
    rw [rounds_succ]
    go_wp2_with fail
    refine c0.mono ?_
    rintro e w1 ⟨rfl, hw⟩
    rw [hw]
    go_wp2_with fail
    rw [rounds_succ]
    go_wp2_with fail
    go_ret2
    exact ⟨by rw [HE.out]; rfl, rfl⟩
  obtain ⟨c, hc⟩ : ∃ c, s[1] = c := ⟨_, rfl⟩
  have gc : l[1]? = some c := by rw [gt 1 h1, hc]
  have hx1 : ∀ W : World, (Instr.index 9 (.string s) (.int .i64 1)).run Tryz.prog W = .ok (.int .u8 (c.toNat : Int)) W := by
    intro W
    rw [run_index_string W 9 s .i64 1 Tryz.underlying9, dif_pos ⟨by omega, by omega⟩]
    rw [← hc]
    rfl
  have c1 := figureOf_any c w
  have hge2 : (2 : Int) ≤ (s.size : Int) := by omega
  have hmin : min (s.size : Int) 2 = 2 := by omega
  by_cases hn1 : hexI c < 0
  · obtain ⟨hv1, hi1⟩ := hexP_none hn1
    have HE : Hid (R = (1, x)) := by show _ = _; rw [← HR.out]; unfold figsAt; rw [gb, gc]; simp [hv, hv1]
    rw [hi1] at c1
    clear HR gt hl hsz h0 gb hb hv hn hi h1 hc gc hv1 hn1 hi1
    go_enter Tryz.func113, Tryz.ntmps113
    go_wp2_with fail
    refine wp_loop_rounds 3 ?_
    rw [rounds_succ]
    go_wp2_with fail
    refine c0.mono ?_
    rintro e w1 ⟨rfl, hw⟩
    rw [hw]
    go_wp2_with fail
    rw [rounds_succ]
    go_wp2_with fail
    refine c1.mono ?_
    rintro e w1 ⟨rfl, hw⟩
    rw [hw]
    go_wp2_with fail
    go_ret2
    exact ⟨by rw [HE.out]; rfl, rfl⟩
  · obtain ⟨y, hv1, hi1, hy16⟩ := hexP_some (b := c) (by omega)
    rw [hi1] at c1
    have HE : Hid (R = (2, 16 * x + y)) := by show _ = _; rw [← HR.out]; unfold figsAt; rw [gb, gc]; simp [hv, hv1]
    clear HR gt hl hsz h0 gb hb hv hn hi h1 hc gc hv1 hn1 hi1
    go_enter Tryz.func113, Tryz.ntmps113
    go_wp2_with fail
    refine wp_loop_rounds 3 ?_
    rw [rounds_succ]
    go_wp2_with fail
    refine c0.mono ?_
    rintro e w1 ⟨rfl, hw⟩
    rw [hw]
    go_wp2_with fail
    rw [rounds_succ]
    go_wp2_with fail
    refine c1.mono ?_
    rintro e w1 ⟨rfl, hw⟩
    rw [hw]
    go_wp2_with fail
    rw [rounds_succ]
    go_wp2_with fail
    go_ret2
    refine ⟨?_, rfl⟩
    rw [HE.out]
    show _ = Ending.returned (.tuple #[.int .i64 ((16 * x + y : Nat) : Int), .int .i64 2])
    rw [show ((16 * x + y : Nat) : Int) = (x : Int) * 16 + (y : Int) by omega]
    rfl
end Go.Proofs.YtnnaphfeeobelaeGreatDoor
