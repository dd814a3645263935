/- A head, and the field of a body's length behind all others. Plain, no program. -/
import Derived.Test.YtnnaphfeeobelasDoorSmugPlain
namespace Go.Proofs.YtnnaphfeeobelasDoor
open Go.RowKit
theorem ans_wide {line : ByteArray} {L : List (ByteArray × ByteArray)} (h : HdSz line L) (n : Nat) (hn : n ≤ 400) : HdSw line (ansF L n) := by
  have hd := decB_size n (by omega)
  have hw := h.wide
  unfold HdSz at h
  have e1 : wgtT (ansF L n) = wgtT L + (14 + (decB n).size) := by
    unfold ansF wgtT
    simp
    rfl
  refine ⟨?_, hw.2.1, ?_⟩
  · rw [e1]
    unfold ansF
    rw [List.length_append, List.length_singleton]
    omega
  · intro f hf
    unfold ansF at hf
    rcases List.mem_append.1 hf with hf | hf
    · exact hw.2.2 f hf
    · simp at hf
      subst hf
      exact ⟨(show clN.size ≤ 1048576 by decide), by show (decB n).size ≤ _; omega⟩
end Go.Proofs.YtnnaphfeeobelasDoor
