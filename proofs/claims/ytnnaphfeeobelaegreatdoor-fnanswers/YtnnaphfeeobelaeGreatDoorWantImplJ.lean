/- Texts that stand in one: WantImpl, MoreImpl. -/
import Derived.Test.YtnnaphfeeobelaeGreatDoorBaseJ
import Derived.Test.YtnnaphfeeobelaeGreatDoorHeadPlainJ
import Derived.Defers
import Derived.Recover
namespace Go.Proofs.YtnnaphfeeobelaeGreatDoor
open Go.RowKit
/-- The panic with a code. -/
def pan (c : Int) : List PanicEntry := [{ v := .iface 77 (.int .i64 c), recovered := false }]
theorem want_yes (w : World) : Calls Tryz.prog 54 #[.bool true] w fun e w' => e = .returned (.tuple #[]) ∧ w' = w := by
  go_enter Tryz.func54, Tryz.ntmps54
  go_wp2
  exact bodyPost_end (results_none rfl _ _ _) rfl ⟨rfl, rfl⟩
theorem want_no (w : World) : Calls Tryz.prog 54 #[.bool false] w fun e w' => e = .panicked (pan 2) ∧ w' = w := by
  go_enter Tryz.func54, Tryz.ntmps54
  go_wp2
  exact ⟨rfl, rfl, rfl⟩
def blankB (b : Nat) : Bool := decide (32 ≤ b)
set_option maxRecDepth 100000 in
set_option maxHeartbeats 2000000 in
theorem noneBelow_any (s : ByteArray) (w : World) (hs : s.size ≤ 1048576) :
    Calls Tryz.prog 90 #[.string s] w fun e w' => e = .returned (.bool (allB blankB s)) ∧ w' = w := by
  obtain ⟨R, hR⟩ : ∃ R, allB blankB s = R := ⟨_, rfl⟩
  rw [hR]
  have HR : Hid (allB blankB s = R) := hR
  clear hR
  go_enter Tryz.func90, Tryz.ntmps90
  go_wp2
  go_loopw [3, 6] (fun _ i wr => Box (∃ k : Nat, k ≤ s.size ∧ i = .int .i64 k ∧ Hid (∀ q (hq : q < s.size), q < k → blankB s[q].toNat = true) ∧ wr = w))
    (fun _ i _ => s.size - (intOf i).toNat)
  case atStart => exact ⟨⟨0, by omega, rfl, fun q _ hq => absurd hq (Nat.not_lt_zero _), rfl⟩⟩
  case round =>
    obtain ⟨k, hk, rfl, HN, hwr⟩ := hrel.out
    clear hrel
    rw [hwr]
    clear hwr
    by_cases hlt : k < s.size
    · obtain ⟨b, hb⟩ : ∃ b, s[k] = b := ⟨_, rfl⟩
      have HB : Hid (s[k] = b) := hb
      have hbl : b.toNat < 256 := b.toNat_lt
      by_cases g1 : b.toNat < 32
      · have HP : Hid (R = false) := by show _ = _; rw [← HR.out, allB_no hlt (by rw [hb]; unfold blankB; exact decide_eq_false (by omega))]
        go_wp2
        go_ret
        exact ⟨by rw [HP.out]; rfl, rfl⟩
      · have HP : Hid (blankB b.toNat = true) := by show _ = _; unfold blankB; exact decide_eq_true (by omega)
        go_wp2
        go_roundw
        case rel =>
          try ((repeat apply Exists.intro); refine ⟨?_, rfl⟩)
          refine ⟨⟨k + 1, by omega, by go_num, fun q hq hqk => ?_, by first | rfl | trivial⟩⟩
          by_cases e : q = k
          · subst e; rw [HB.out]; exact HP.out
          · exact HN.out q hq (by omega)
        case measure => simp [intOf]; omega
    · have HP : Hid (R = true) := by show _ = _; rw [← HR.out, allB_go fun q hq => HN.out q hq (by omega)]
      go_wp2
      go_ret
      exact ⟨by rw [HP.out]; rfl, rfl⟩
end Go.Proofs.YtnnaphfeeobelaeGreatDoor

namespace Go.Proofs.YtnnaphfeeobelaeGreatDoor
open Go.RowKit
/-- A reader in a variable. -/
def RBx (w : World) (T : Nat) (line : ByteArray) (fv : Value) (input : ByteArray) (at_ : Int) : Prop := w.heap[T]? = some (.cells #[.string line, fv, .string input, .int .i64 at_] 55 (0, 0))
theorem RBx.lt {w : World} {T : Nat} {l : ByteArray} {v : Value} {t : ByteArray} {k : Int} (h : RBx w T l v t k) : T < w.heap.size := (Array.getElem?_eq_some_iff.1 h).1
theorem RBx.new (w : World) (l : ByteArray) (v : Value) (t : ByteArray) (k : Int) : RBx (w.alloc (.cells #[.string l, v, .string t, .int .i64 k] 55)) w.heap.size l v t k := heap_alloc_new w _
theorem RBx.on {w w' : World} {T : Nat} {l : ByteArray} {v : Value} {t : ByteArray} {k : Int} (h : RBx w T l v t k) (hb : Below w.heap.size w w') : RBx w' T l v t k := (hb.block T h.lt).trans h
theorem RBx.cells {w : World} {T : Nat} {l : ByteArray} {v : Value} {t : ByteArray} {k : Int} (h : RBx w T l v t k) : w.cell? ⟨T, 0, none⟩ = some (.string l) ∧ w.cell? ⟨T, 1, none⟩ = some v ∧ w.cell? ⟨T, 2, none⟩ = some (.string t) ∧ w.cell? ⟨T, 3, none⟩ = some (.int .i64 k) := by
  unfold RBx at h
  exact ⟨by simp [World.cell?, h], by simp [World.cell?, h], by simp [World.cell?, h], by simp [World.cell?, h]⟩
theorem RBx.thaw {w : World} {T : Nat} {l : ByteArray} {v : Value} {t : ByteArray} {k : Int} (h : RBx w T l v t k) (i : Nat) : w.frozen? ⟨T, i, none⟩ = false := by unfold RBx at h; simp [World.frozen?, h]
theorem RBx.setLine {w : World} {T : Nat} {l : ByteArray} {v : Value} {t : ByteArray} {k : Int} (h : RBx w T l v t k) (l' : ByteArray) : RBx (w.setCell ⟨T, 0, none⟩ (.string l')) T l' v t k := by
  unfold RBx at *
  simp only [World.setCell, Array.getElem?_modify, h]
  simp
theorem RBx.setFlds {w : World} {T : Nat} {l : ByteArray} {v : Value} {t : ByteArray} {k : Int} (h : RBx w T l v t k) (v' : Value) : RBx (w.setCell ⟨T, 1, none⟩ v') T l v' t k := by
  unfold RBx at *
  simp only [World.setCell, Array.getElem?_modify, h]
  simp
theorem RBx.setAt {w : World} {T : Nat} {l : ByteArray} {v : Value} {t : ByteArray} {k : Int} (h : RBx w T l v t k) (k' : Int) : RBx (w.setCell ⟨T, 3, none⟩ (.int .i64 k')) T l v t k' := by
  unfold RBx at *
  simp only [World.setCell, Array.getElem?_modify, h]
  simp
/-- The code where more is wanted. -/
def moreC (tot : Nat) (first : Bool) (s : ByteArray) : Int := if 300 < tot then 2 else if first = true ∧ ¬ (s.size ≤ 80 ∧ allB blankB s = true) then 2 else 1
set_option maxRecDepth 100000 in
set_option maxHeartbeats 4000000 in
theorem wantMore_any (w : World) (T : Nat) (l : ByteArray) (v : Value) (t : ByteArray) (k : Nat) (s : ByteArray) (h : RBx w T l v t (k : Int)) (hs : s.size ≤ 1048576) :
    Calls Tryz.prog 70 #[.pointer (some ⟨T, 0, none⟩), .string s] w fun e w' => e = .panicked (pan (moreC t.size (decide (k = 0)) s)) ∧ w' = w := by
  obtain ⟨x0, x1, x2, x3⟩ := h.cells
  have cY := want_yes w
  have cN := want_no w
  have cB := noneBelow_any s w hs
  unfold moreC
  by_cases h300 : 300 < t.size
  · rw [if_pos h300]
    have h3 : ¬ (t.size : Int) ≤ 300 := by omega
    clear cY cB h
    go_enter Tryz.func70, Tryz.ntmps70
    go_wp2_with fail
    refine cN.mono ?_
    rintro e w' ⟨rfl, hw⟩
    rw [hw]
    go_wp2_with fail
    exact ⟨rfl, rfl, rfl⟩
  rw [if_neg h300]
  have h3 : (t.size : Int) ≤ 300 := by omega
  by_cases hk : k = 0
  · rw [decide_eq_true hk]
    subst hk
    by_cases h80 : s.size ≤ 80
    · have h80i : (s.size : Int) ≤ 80 := by omega
      cases hB : allB blankB s with
      | true =>
        rw [hB] at cB
        rw [if_neg (by simp [h80])]
        clear cN h hB
        go_enter Tryz.func70, Tryz.ntmps70
        go_wp2_with fail
        refine cY.mono ?_
        rintro e w' ⟨rfl, hw⟩
        rw [hw]
        go_wp2_with fail
        refine cB.mono ?_
        rintro e w' ⟨rfl, hw⟩
        rw [hw]
        go_wp2_with fail
        refine cY.mono ?_
        rintro e w' ⟨rfl, hw⟩
        rw [hw]
        go_wp2_with fail
        exact ⟨rfl, rfl, rfl⟩
      | false =>
        rw [hB] at cB
        rw [if_pos ⟨rfl, by simp⟩]
        clear h hB
        go_enter Tryz.func70, Tryz.ntmps70
        go_wp2_with fail
        refine cY.mono ?_
        rintro e w' ⟨rfl, hw⟩
        rw [hw]
        go_wp2_with fail
        refine cB.mono ?_
        rintro e w' ⟨rfl, hw⟩
        rw [hw]
        go_wp2_with fail
        refine cN.mono ?_
        rintro e w' ⟨rfl, hw⟩
        rw [hw]
        go_wp2_with fail
        exact ⟨rfl, rfl, rfl⟩
    · have h80i : ¬ (s.size : Int) ≤ 80 := by omega
      rw [if_pos ⟨rfl, by omega⟩]
      clear h cB
      go_enter Tryz.func70, Tryz.ntmps70
      go_wp2_with fail
      refine cY.mono ?_
      rintro e w' ⟨rfl, hw⟩
      rw [hw]
      go_wp2_with fail
      refine cN.mono ?_
      rintro e w' ⟨rfl, hw⟩
      rw [hw]
      go_wp2_with fail
      exact ⟨rfl, rfl, rfl⟩
  · rw [decide_eq_false hk, if_neg (by simp)]
    have hki : ((k : Int) == 0) = false := by simp; omega
    clear h cB cN
    go_enter Tryz.func70, Tryz.ntmps70
    go_wp2_with fail
    refine cY.mono ?_
    rintro e w' ⟨rfl, hw⟩
    rw [hw]
    go_wp2_with fail
    exact ⟨rfl, rfl, rfl⟩
end Go.Proofs.YtnnaphfeeobelaeGreatDoor
