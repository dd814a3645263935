/- Lines of a text: where the first end is. Plain, no program. -/
import Derived.Test.YtnnaphfeeobeladDoorHeadPlainJ
import Derived.Lib.IndexAny
import Derived.Lib.Strings
namespace Go.Proofs.YtnnaphfeeobeladDoor
open Go.RowKit
/-- No byte that ends a line. -/
def NoEnd (b : List UInt8) : Prop := ∀ x ∈ b, x ≠ 13 ∧ x ≠ 10
theorem indexAny_none : ∀ (b : List UInt8), NoEnd b → Lib.indexAny b [13, 10] = -1
  | [], _ => rfl
  | x :: b, h => by
    have hx := h x List.mem_cons_self
    have ih := indexAny_none b (fun y hy => h y (List.mem_cons_of_mem _ hy))
    unfold Lib.indexAny
    rw [if_neg (by simp [hx.1, hx.2]), ih]
    rfl
theorem indexAny_at : ∀ (b : List UInt8) (x : UInt8) (r : List UInt8), NoEnd b → (x = 13 ∨ x = 10) → Lib.indexAny (b ++ x :: r) [13, 10] = (b.length : Int)
  | [], x, r, _, hx => by
    simp only [List.nil_append]
    unfold Lib.indexAny
    rw [if_pos (by rcases hx with rfl | rfl <;> simp)]
    rfl
  | y :: b, x, r, h, hx => by
    have hy := h y List.mem_cons_self
    have ih := indexAny_at b x r (fun z hz => h z (List.mem_cons_of_mem _ hz)) hx
    simp only [List.cons_append]
    unfold Lib.indexAny
    rw [if_neg (by simp [hy.1, hy.2]), ih, if_neg (by simp)]
    simp
theorem size_le {t : ByteArray} {k : Nat} {l : List UInt8} (h : t.data.toList.drop k = l) : l.length = t.size - k := by
  rw [← h, List.length_drop, Lib.size_eq]
theorem from_data {t : ByteArray} {k : Nat} {l : List UInt8} (h : t.data.toList.drop k = l) : (t.extract k t.size).data.toList = l := by
  rw [Lib.extract_data, h, List.take_of_length_le (by rw [size_le h]; exact Nat.le_refl _)]
theorem mk_ext (s : ByteArray) {l : List UInt8} (h : s.data.toList = l) : s = ⟨l.toArray⟩ := by
  obtain ⟨⟨m⟩⟩ := s
  simp only at h
  rw [h]
end Go.Proofs.YtnnaphfeeobeladDoor
