/- The program reads figures, and tells of which kind a part is. -/
import Derived.Test.YtnnaphfeeobeladDoorControlPlain
import Derived.Test.YtnnaphfeeobeladDoorRunePlainJ
import Derived.Test.YtnnaphfeeobeladDoorBase
import Derived.Test.YtnnaphfeeobeladDoorShelf
namespace Go.Proofs.YtnnaphfeeobeladDoor
open Go.RowKit Go.Sort
theorem digs_go {l : List UInt8} (h : ∀ q (hq : q < l.length), 48 ≤ l[q].toNat ∧ l[q].toNat ≤ 57) : digits l = true := by
  unfold digits
  rw [List.all_eq_true]
  intro x hx
  obtain ⟨j, hj, rfl⟩ := List.getElem_of_mem hx
  exact decide_eq_true (h j hj)
theorem digs_no {l : List UInt8} {k : Nat} (hk : k < l.length) (h : ¬ (48 ≤ l[k].toNat ∧ l[k].toNat ≤ 57)) : digits l = false := by
  unfold digits
  rw [List.all_eq_false]
  exact ⟨l[k], List.getElem_mem hk, by simpa using h⟩
theorem valF_stepI (l : List UInt8) (k : Nat) (hk : k < l.length) : valF 0 (l.take (k + 1)) = valF 0 (l.take k) * 10 + dOf l[k] := by
  rw [List.take_succ_eq_append_getElem hk, valF_snoc]
theorem emptyT (s : ByteArray) : s.toList.isEmpty = decide (s.size = 0) := by
  rw [ByteArray.toList_eq, Lib.size_eq]
  cases s.data.toList <;> simp
theorem iter_below (w : World) (s : ByteArray) (k : Nat) : Below w.heap.size w (w.iter s k) := (Below.refl _ _).alloc (Nat.le_refl _) _
/-- Figures, as many as may be. -/
def numM (M : Nat) (l : List UInt8) : Option Nat := if (decide (1 ≤ l.length ∧ l.length ≤ M) && digits l) = true then some (valF 0 l) else none
set_option maxRecDepth 100000 in
set_option maxHeartbeats 4000000 in
theorem implFiguresM_any (s : ByteArray) (M : Nat) (hM : M ≤ 6) (w : World) :
    Calls Tryd.prog 130 #[.string s, .int .i64 (M : Int)] w fun e w' => e = .returned (.tuple #[.int .i64 ((numM M s.data.toList).getD 0 : Nat), .bool (numM M s.data.toList).isSome]) ∧ Below w.heap.size w w' := by
  obtain ⟨R, hR⟩ : ∃ R, numM M s.data.toList = R := ⟨_, rfl⟩
  rw [hR]
  obtain ⟨l, hl⟩ : ∃ l, s.data.toList = l := ⟨_, rfl⟩
  have hsz : s.size = l.length := by rw [← hl]; exact Lib.size_eq s
  have HR : Hid ((if (decide (1 ≤ l.length ∧ l.length ≤ M) && digits l) = true then some (valF 0 l) else none) = R) := by show _ = _; rw [← hR, hl]; rfl
  have HSL : Hid (s.data.toList = l ∧ s.size = l.length) := ⟨hl, hsz⟩
  have he := emptyT s
  have HM6 : Hid (s.size ≤ 6 ∨ M < s.size) := by show _ ∨ _; omega
  clear hR
  by_cases h0 : s.size = 0
  · rw [decide_eq_true h0] at he
    have HP : Hid (R = none) := by show _ = _; rw [← HR.out, decide_eq_false (by omega)]; rfl
    clear HR hl hsz h0
    go_enter Tryd.func130, Tryd.ntmps130
    go_wp2_with fail
    go_ret2
    exact ⟨by rw [HP.out]; rfl, Below.refl _ _⟩
  rw [decide_eq_false h0] at he
  by_cases h6 : s.size ≤ M
  case neg =>
    have h6i : (M : Int) < (s.size : Int) := by omega
    have HP : Hid (R = none) := by show _ = _; rw [← HR.out, decide_eq_false (by omega)]; rfl
    clear HR hl hsz h0 h6
    go_enter Tryd.func130, Tryd.ntmps130
    go_wp2_with fail
    go_ret2
    exact ⟨by rw [HP.out]; rfl, Below.refl _ _⟩
  have h6i : ¬ (M : Int) < (s.size : Int) := by omega
  have HR2 : Hid ((if digits l = true then some (valF 0 l) else none) = R) := by show _ = _; rw [← HR.out, decide_eq_true (by omega)]; simp
  clear HR hl hsz h0
  go_enter Tryd.func130, Tryd.ntmps130
  go_wp2_with fail
  clear he h6i
  go_loopw [6, 8] (fun n _ wr => Box (∃ k m : Nat, k ≤ s.size ∧ wr = w.iter s k ∧ n = .int .i64 m ∧ m ≤ 999999 ∧ Hid (m < 10 ^ k) ∧ Hid (m = valF 0 (l.take k)) ∧ Hid (∀ q (hq : q < l.length), q < k → 48 ≤ l[q].toNat ∧ l[q].toNat ≤ 57)))
    (fun _ _ wr => s.size - wr.iterPos w.heap.size)
  case atStart => exact ⟨⟨0, 0, by omega, rfl, rfl, by omega, by simp [Hid], rfl, fun q _ h => by omega⟩⟩
  case round =>
    obtain ⟨k, m, hk, hwr, rfl, hm9, HP10, HV, HD⟩ := hrel.out
    clear hrel
    rw [hwr]
    clear hwr
    by_cases hlt : k < s.size
    · obtain ⟨b, hb⟩ : ∃ b, s[k] = b := ⟨_, rfl⟩
      have hkl : k < l.length := by have := HSL.out.2; omega
      have HB : Hid (l[k] = b) := by
        show _ = _
        have h1 : s.data.toList[k]'(by rw [HSL.out.1]; exact hkl) = b := by rw [← hb]; rfl
        have h2 := HSL.out.1
        subst h2
        exact h1
      have hbl : b.toNat < 256 := b.toNat_lt
      by_cases ha : b.toNat < 128
      · have hnx : ∀ ty, (Instr.next (.pointer (some ⟨w.heap.size, 0, none⟩)) true ty).run Tryd.prog (w.iter s k) = .ok (.tuple #[.bool true, .int .i64 k, .int .i32 (b.toNat : Int)]) (w.iter s (k + 1)) := by
          intro ty
          have h := run_next_ascii (P := Tryd.prog) w s k ty hlt (by rw [hb]; exact ha)
          rw [hb] at h
          exact h
        clear hb
        rcases (show b.toNat < 48 ∨ 57 < b.toNat ∨ (48 ≤ b.toNat ∧ b.toNat ≤ 57) by omega) with g1 | g1 | ⟨g1, g2⟩
        · have HN : Hid (R = none) := by show _ = _; rw [← HR2.out, digs_no hkl (by rw [HB.out]; omega)]; rfl
          go_wp2_with fail
          go_ret2
          exact ⟨by rw [HN.out]; rfl, iter_below _ _ _⟩
        · have HN : Hid (R = none) := by show _ = _; rw [← HR2.out, digs_no hkl (by rw [HB.out]; omega)]; rfl
          go_wp2_with fail
          go_ret2
          exact ⟨by rw [HN.out]; rfl, iter_below _ _ _⟩
        · have HK6 : Hid (k + 1 ≤ 6) := by show _ ≤ _; have := HM6.out; omega
          have H2 : Hid (m * 10 + (b.toNat - 48) < 10 ^ (k + 1)) := by show _ < _; have := HP10.out; rw [Nat.pow_succ]; omega
          have H3 : Hid (m * 10 + (b.toNat - 48) = valF 0 (l.take (k + 1))) := by
            show _ = _
            rw [valF_stepI l k hkl, ← HV.out, HB.out]
            rfl
          have H4 : Hid (m * 10 + (b.toNat - 48) ≤ 999999) := by
            show _ ≤ _
            have h1 := H2.out
            have h2 : 10 ^ (k + 1) ≤ 10 ^ 6 := Nat.pow_le_pow_right (by omega) HK6.out
            omega
          go_wp2_with fail
          go_roundw
          case rel =>
            try ((repeat apply Exists.intro); refine ⟨?_, rfl⟩)
            refine ⟨⟨k + 1, m * 10 + (b.toNat - 48), by omega, rfl, by congr 1; omega, H4.out, H2, H3, fun q hq hqk => ?_⟩⟩
            by_cases e : q = k
            · subst e; rw [HB.out]; omega
            · exact HD.out q hq (by omega)
          case measure => simp; omega
      · obtain ⟨r, hr⟩ : ∃ r, (Utf8.decode s k).1 = r := ⟨_, rfl⟩
        obtain ⟨v, hv⟩ : ∃ v, (Utf8.decode s k).2 = v := ⟨_, rfl⟩
        have hr1 : 128 ≤ r := by rw [← hr]; exact (decode_high s k hlt (by rw [hb]; omega)).1
        have hr2 : r ≤ 2147483647 := by rw [← hr]; exact decode_le s k
        have hnx : ∀ ty, (Instr.next (.pointer (some ⟨w.heap.size, 0, none⟩)) true ty).run Tryd.prog (w.iter s k) = .ok (.tuple #[.bool true, .int .i64 k, .int .i32 (r : Int)]) (w.iter s (k + v)) := by
          intro ty
          have h := run_next_any (P := Tryd.prog) w s k ty hlt
          rw [hr, hv] at h
          exact h
        have HN : Hid (R = none) := by show _ = _; rw [← HR2.out, digs_no hkl (by rw [HB.out]; omega)]; rfl
        clear hb hr hv
        have g1 : ¬ (r : Int) < 48 := by omega
        have g2 : (57 : Int) < (r : Int) := by omega
        go_wp2_with fail
        go_ret2
        exact ⟨by rw [HN.out]; rfl, iter_below _ _ _⟩
    · have hnx : ∀ ty, (Instr.next (.pointer (some ⟨w.heap.size, 0, none⟩)) true ty).run Tryd.prog (w.iter s k) = _ := fun ty => run_next_end (P := Tryd.prog) w s k ty hlt
      have HE : Hid (R = some m) := by
        show _ = _
        have hkl : k = l.length := by have := HSL.out.2; omega
        rw [← HR2.out, digs_go (fun q hq => HD.out q hq (by omega)), if_pos rfl, HV.out, hkl, List.take_length]
      go_wp2_with fail
      go_ret2
      exact ⟨by rw [HE.out]; rfl, iter_below _ _ _⟩
theorem implFigures_any (s : ByteArray) (w : World) :
    Calls Tryd.prog 130 #[.string s, .int .i64 6] w fun e w' => e = .returned (.tuple #[.int .i64 ((numL s.data.toList).getD 0 : Nat), .bool (numL s.data.toList).isSome]) ∧ Below w.heap.size w w' := by
  have h := implFiguresM_any s 6 (Nat.le_refl _) w
  exact h
/-- What a part tells of: a kind, and a number. -/
def kindN (k : Int) (l : List UInt8) : Int × Nat := match numL l with | some n => (k, n) | none => (0, 0)
set_option maxHeartbeats 2000000 in
theorem implKindN_any (k : Int) (s : ByteArray) (w : World) :
    Calls Tryd.prog 115 #[.int .i64 k, .string s] w fun e w' => e = .returned (.tuple #[.int .i64 (kindN k s.data.toList).1, .int .i64 ((kindN k s.data.toList).2 : Nat)]) ∧ Below w.heap.size w w' := by
  have c1 := implFigures_any s w
  unfold kindN
  cases h : numL s.data.toList with
  | none =>
    rw [h] at c1
    go_enter Tryd.func115, Tryd.ntmps115
    go_wp2_with fail
    refine c1.mono ?_
    rintro e w1 ⟨rfl, hb⟩
    clear c1
    go_wp2_with fail
    go_ret2
    exact ⟨rfl, hb⟩
  | some n =>
    rw [h] at c1
    go_enter Tryd.func115, Tryd.ntmps115
    go_wp2_with fail
    refine c1.mono ?_
    rintro e w1 ⟨rfl, hb⟩
    clear c1
    go_wp2_with fail
    go_ret2
    exact ⟨rfl, hb⟩
end Go.Proofs.YtnnaphfeeobeladDoor
