/- Texts that stand in one: LowImpl, TrimBoth. -/
import Derived.Test.YtnnaphfeeobelaeDoorLowPlainJ
import Derived.Test.YtnnaphfeeobelaeDoorBase
import Derived.Lib.ConvBytes
import Derived.Deep.LoopGhost
namespace Go.Proofs.YtnnaphfeeobelaeDoor
open Go.RowKit
/-- '[]byte(t)' of a text: a new block with its bytes. -/
theorem bytesOf (t : ByteArray) (w : World) : ∃ (W : World) (cap : Nat) (cs : Array Value), (convert 9 22 (.string t)).run Tryd.prog w = .ok (.slice (some ⟨w.heap.size, 0, none⟩) t.size cap) W ∧ Below w.heap.size w W ∧
    W.heap[w.heap.size]? = some (.cells cs 5 (cs.size, cs.size + 1)) ∧ t.size ≤ cs.size ∧ ∀ j, j < t.size → cs[j]? = some (.int .u8 ((t.data.toList.getD j 0).toNat : Int)) := by
  refine ⟨_, _, _, Lib.run_convert_string_bytes w 9 22 5 t Tryd.underlying9 Tryd.underlying22 Tryd.underlying5, ?_, Lib.bytesWorld_at_new w 5 t, ?_, ?_⟩
  · exact ⟨rfl, rfl, rfl, by rw [Lib.bytesWorld_size]; omega, fun k hk => Lib.bytesWorld_at_old w 5 t k hk⟩
  · simp [Lib.bytesCells]
  · intro j hj
    have := Lib.bytesWorld_cell w 5 t j hj
    simpa [World.cell?, Lib.bytesWorld_at_new] using this
/-- A block holds these bytes, and has room behind them. -/
def Byt (w : World) (B : Nat) (l : List UInt8) : Prop := ∃ cs : Array Value, w.heap[B]? = some (.cells cs 5 (cs.size, cs.size + 1)) ∧ l.length ≤ cs.size ∧ ∀ j (hj : j < l.length), cs[j]? = some (.int .u8 (l[j].toNat : Int))
theorem Byt.cell {w : World} {B : Nat} {l : List UInt8} (h : Byt w B l) (j : Nat) (hj : j < l.length) : w.cell? ⟨B, j, none⟩ = some (.int .u8 (l[j].toNat : Int)) ∧ w.frozen? ⟨B, j, none⟩ = false := by
  obtain ⟨cs, h1, h2, h3⟩ := h
  refine ⟨by simp only [World.cell?, h1]; exact h3 j hj, ?_⟩
  simp only [World.frozen?, h1]
  simp
  omega
theorem Byt.set {w : World} {B : Nat} {l : List UInt8} (h : Byt w B l) (j : Nat) (x : UInt8) : Byt (w.setCell ⟨B, j, none⟩ (.int .u8 (x.toNat : Int))) B (l.set j x) := by
  obtain ⟨cs, h1, h2, h3⟩ := h
  refine ⟨cs.setIfInBounds j (.int .u8 (x.toNat : Int)), ?_, by rw [List.length_set, Array.size_setIfInBounds]; exact h2, ?_⟩
  · simp [World.setCell, Array.getElem?_modify, h1]
  · intro i hi
    rw [List.length_set] at hi
    by_cases e : j = i
    · subst e
      simp [Nat.lt_of_lt_of_le hi h2]
    · rw [Array.getElem?_setIfInBounds, if_neg e, h3 i hi, List.getElem_set_ne e]
theorem Byt.text {w : World} {B cap : Nat} {l : List UInt8} (h : Byt w B l) : (convert 22 9 (.slice (some ⟨B, 0, none⟩) l.length cap)).run Tryd.prog w = .ok (.string ⟨l.toArray⟩) w := by
  have := run_convert_bytes_back (P := Tryd.prog) w 22 9 5 ⟨B, 0, none⟩ cap l Tryd.underlying22 Tryd.underlying5 Tryd.underlying9 (fun j hj => by
    have h1 := (h.cell j hj).1
    have e : (⟨B, 0, none⟩ : Addr).add j = ⟨B, j, none⟩ := by cases j <;> simp [Addr.add]
    rw [e]
    exact h1)
  exact this
end Go.Proofs.YtnnaphfeeobelaeDoor

namespace Go.Proofs.YtnnaphfeeobelaeDoor
open Go.RowKit
theorem trimR_cons (b : UInt8) (r : List UInt8) : Lib.trimRightB (b :: r) 32 = if Lib.trimRightB r 32 = [] then (if b = 32 then [] else [b]) else b :: Lib.trimRightB r 32 := by
  unfold Lib.trimRightB
  rw [List.reverse_cons, List.dropWhile_append]
  by_cases h : r.reverse.dropWhile (· == 32) = []
  · rw [h]
    by_cases hb : b = 32
    · subst hb; simp
    · simp [hb]
  · rw [if_neg (by simpa using h), if_neg (by simpa using h)]
    simp
theorem trim_both : ∀ l : List UInt8, Lib.trimRightB (Lib.trimLeftB l 32) 32 = Lib.trimB l 32
  | [] => rfl
  | b :: r => by
    have ih := trim_both r
    unfold Lib.trimB at *
    rw [trimR_cons]
    by_cases hb : b = 32
    · subst hb
      have e : Lib.trimLeftB (32 :: r) 32 = Lib.trimLeftB r 32 := by unfold Lib.trimLeftB; simp
      rw [e, ih]
      by_cases h : Lib.trimRightB r 32 = []
      · rw [if_pos h, if_pos rfl, h]
      · rw [if_neg h]
        unfold Lib.trimLeftB
        simp
    · have e : Lib.trimLeftB (b :: r) 32 = b :: r := by unfold Lib.trimLeftB; simp [hb]
      rw [e, trimR_cons]
      by_cases h : Lib.trimRightB r 32 = []
      · rw [if_pos h, if_neg hb]
        unfold Lib.trimLeftB
        simp [hb]
      · rw [if_neg h]
        unfold Lib.trimLeftB
        simp [hb]
theorem trimL_blank {b : UInt8} {r : List UInt8} (h : b = 32) : Lib.trimLeftB (b :: r) 32 = Lib.trimLeftB r 32 := by subst h; unfold Lib.trimLeftB; simp
theorem trimL_none {b : UInt8} {r : List UInt8} (h : ¬ b = 32) : Lib.trimLeftB (b :: r) 32 = b :: r := by unfold Lib.trimLeftB; simp [h]
theorem trimR_blank (l : List UInt8) : Lib.trimRightB (l ++ [32]) 32 = Lib.trimRightB l 32 := by unfold Lib.trimRightB; simp
end Go.Proofs.YtnnaphfeeobelaeDoor
