/- A reader of heads wants more. -/
import Derived.Test.YtlefccgdeafinadDoorWantImpl
namespace Go.Proofs.YtlefccgdeafinadDoor
open Go.RowKit
/-- A reader in a variable. -/
def RBx (w : World) (T : Nat) (line : ByteArray) (fv : Value) (input : ByteArray) (at_ : Int) : Prop := w.heap[T]? = some (.cells #[.string line, fv, .string input, .int .i64 at_] 56 (0, 0))
theorem RBx.lt {w : World} {T : Nat} {l : ByteArray} {v : Value} {t : ByteArray} {k : Int} (h : RBx w T l v t k) : T < w.heap.size := (Array.getElem?_eq_some_iff.1 h).1
theorem RBx.new (w : World) (l : ByteArray) (v : Value) (t : ByteArray) (k : Int) : RBx (w.alloc (.cells #[.string l, v, .string t, .int .i64 k] 56)) w.heap.size l v t k := heap_alloc_new w _
theorem RBx.on {w w' : World} {T : Nat} {l : ByteArray} {v : Value} {t : ByteArray} {k : Int} (h : RBx w T l v t k) (hb : Below w.heap.size w w') : RBx w' T l v t k := (hb.block T h.lt).trans h
theorem RBx.cells {w : World} {T : Nat} {l : ByteArray} {v : Value} {t : ByteArray} {k : Int} (h : RBx w T l v t k) : w.cell? ⟨T, 0, none⟩ = some (.string l) ∧ w.cell? ⟨T, 1, none⟩ = some v ∧ w.cell? ⟨T, 2, none⟩ = some (.string t) ∧ w.cell? ⟨T, 3, none⟩ = some (.int .i64 k) := by
  unfold RBx at h
  exact ⟨by simp [World.cell?, h], by simp [World.cell?, h], by simp [World.cell?, h], by simp [World.cell?, h]⟩
theorem RBx.thaw {w : World} {T : Nat} {l : ByteArray} {v : Value} {t : ByteArray} {k : Int} (h : RBx w T l v t k) (i : Nat) : w.frozen? ⟨T, i, none⟩ = false := by unfold RBx at h; simp [World.frozen?, h]
theorem RBx.setLine {w : World} {T : Nat} {l : ByteArray} {v : Value} {t : ByteArray} {k : Int} (h : RBx w T l v t k) (l' : ByteArray) : RBx (w.setCell ⟨T, 0, none⟩ (.string l')) T l' v t k := by
  unfold RBx at *
  simp only [World.setCell, Array.getElem?_modify, h]
  simp
theorem RBx.setFlds {w : World} {T : Nat} {l : ByteArray} {v : Value} {t : ByteArray} {k : Int} (h : RBx w T l v t k) (v' : Value) : RBx (w.setCell ⟨T, 1, none⟩ v') T l v' t k := by
  unfold RBx at *
  simp only [World.setCell, Array.getElem?_modify, h]
  simp
theorem RBx.setAt {w : World} {T : Nat} {l : ByteArray} {v : Value} {t : ByteArray} {k : Int} (h : RBx w T l v t k) (k' : Int) : RBx (w.setCell ⟨T, 3, none⟩ (.int .i64 k')) T l v t k' := by
  unfold RBx at *
  simp only [World.setCell, Array.getElem?_modify, h]
  simp
/-- The code where more is wanted. -/
def moreC (tot : Nat) (first : Bool) (s : ByteArray) : Int := if 300 < tot then 2 else if first = true ∧ ¬ (s.size ≤ 80 ∧ allB blankB s = true) then 2 else 1
set_option maxRecDepth 100000 in
set_option maxHeartbeats 4000000 in
theorem wantMore_any (w : World) (T : Nat) (l : ByteArray) (v : Value) (t : ByteArray) (k : Nat) (s : ByteArray) (h : RBx w T l v t (k : Int)) (hs : s.size ≤ 1048576) :
    Calls Tryd.prog 70 #[.pointer (some ⟨T, 0, none⟩), .string s] w fun e w' => e = .panicked (pan (moreC t.size (decide (k = 0)) s)) ∧ w' = w := by
  obtain ⟨x0, x1, x2, x3⟩ := h.cells
  have cY := want_yes w
  have cN := want_no w
  have cB := noneBelow_any s w hs
  unfold moreC
  by_cases h300 : 300 < t.size
  · rw [if_pos h300]
    have h3 : ¬ (t.size : Int) ≤ 300 := by omega
    clear cY cB h
    go_enter Tryd.func70, Tryd.ntmps70
    go_wp2_with fail
    refine cN.mono ?_
    rintro e w' ⟨rfl, hw⟩
    rw [hw]
    go_wp2_with fail
    exact ⟨rfl, rfl, rfl⟩
  rw [if_neg h300]
  have h3 : (t.size : Int) ≤ 300 := by omega
  by_cases hk : k = 0
  · rw [decide_eq_true hk]
    subst hk
    by_cases h80 : s.size ≤ 80
    · have h80i : (s.size : Int) ≤ 80 := by omega
      cases hB : allB blankB s with
      | true =>
        rw [hB] at cB
        rw [if_neg (by simp [h80])]
        clear cN h hB
        go_enter Tryd.func70, Tryd.ntmps70
        go_wp2_with fail
        refine cY.mono ?_
        rintro e w' ⟨rfl, hw⟩
        rw [hw]
        go_wp2_with fail
        refine cB.mono ?_
        rintro e w' ⟨rfl, hw⟩
        rw [hw]
        go_wp2_with fail
        refine cY.mono ?_
        rintro e w' ⟨rfl, hw⟩
        rw [hw]
        go_wp2_with fail
        exact ⟨rfl, rfl, rfl⟩
      | false =>
        rw [hB] at cB
        rw [if_pos ⟨rfl, by simp⟩]
        clear h hB
        go_enter Tryd.func70, Tryd.ntmps70
        go_wp2_with fail
        refine cY.mono ?_
        rintro e w' ⟨rfl, hw⟩
        rw [hw]
        go_wp2_with fail
        refine cB.mono ?_
        rintro e w' ⟨rfl, hw⟩
        rw [hw]
        go_wp2_with fail
        refine cN.mono ?_
        rintro e w' ⟨rfl, hw⟩
        rw [hw]
        go_wp2_with fail
        exact ⟨rfl, rfl, rfl⟩
    · have h80i : ¬ (s.size : Int) ≤ 80 := by omega
      rw [if_pos ⟨rfl, by omega⟩]
      clear h cB
      go_enter Tryd.func70, Tryd.ntmps70
      go_wp2_with fail
      refine cY.mono ?_
      rintro e w' ⟨rfl, hw⟩
      rw [hw]
      go_wp2_with fail
      refine cN.mono ?_
      rintro e w' ⟨rfl, hw⟩
      rw [hw]
      go_wp2_with fail
      exact ⟨rfl, rfl, rfl⟩
  · rw [decide_eq_false hk, if_neg (by simp)]
    have hki : ((k : Int) == 0) = false := by simp; omega
    clear h cB cN
    go_enter Tryd.func70, Tryd.ntmps70
    go_wp2_with fail
    refine cY.mono ?_
    rintro e w' ⟨rfl, hw⟩
    rw [hw]
    go_wp2_with fail
    exact ⟨rfl, rfl, rfl⟩
end Go.Proofs.YtlefccgdeafinadDoor
