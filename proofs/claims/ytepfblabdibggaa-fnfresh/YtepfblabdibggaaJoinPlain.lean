/- Texts, one behind the other; the plain reckoning; no program. -/
import Derived.Test.YtepfblabdibggaaStrs
namespace Go.Proofs.Ytepfblabdibggaa
open Go.RowKit
/-- The bytes of texts, one behind the other. -/
def jn (L : List ByteArray) : List UInt8 := L.flatMap (·.data.toList)
def jnB (L : List ByteArray) : ByteArray := ⟨(jn L).toArray⟩
theorem size_list (s : ByteArray) : s.data.toList.length = s.size := by rw [Array.length_toList]; rfl
theorem jn_append (L M : List ByteArray) : jn (L ++ M) = jn L ++ jn M := by simp [jn]
theorem jn_one (s : ByteArray) : jn [s] = s.data.toList := by simp [jn]
theorem jn_take_succ {L : List ByteArray} {k : Nat} (h : k < L.length) : jn (L.take (k + 1)) = jn (L.take k) ++ L[k].data.toList := by
  rw [List.take_succ_eq_append_getElem h, jn_append, jn_one]
theorem jn_len_succ {L : List ByteArray} {k : Nat} (h : k < L.length) : (jn (L.take (k + 1))).length = (jn (L.take k)).length + L[k].size := by
  rw [jn_take_succ h, List.length_append, size_list]
theorem jn_take_le (L : List ByteArray) (k : Nat) : (jn (L.take k)).length ≤ (jn L).length := by
  have h := jn_append (L.take k) (L.drop k)
  rw [List.take_append_drop] at h
  rw [h, List.length_append]
  omega
/-- What stands in the room when k texts are laid. -/
def jnTo (L : List ByteArray) (k : Nat) : List UInt8 := jn (L.take k) ++ List.replicate ((jn L).length - (jn (L.take k)).length) 0
theorem jnTo_zero (L : List ByteArray) : jnTo L 0 = List.replicate (jn L).length 0 := by simp [jnTo, jn]
theorem jnTo_length (L : List ByteArray) (k : Nat) : (jnTo L k).length = (jn L).length := by
  have := jn_take_le L k
  simp [jnTo]; omega
theorem jnTo_all (L : List ByteArray) : jnTo L L.length = jn L := by simp [jnTo]
theorem jnTo_succ {L : List ByteArray} {k : Nat} (h : k < L.length) : jnTo L (k + 1) = (jnTo L k).take (jn (L.take k)).length ++ L[k].data.toList ++ (jnTo L k).drop ((jn (L.take k)).length + L[k].size) := by
  have h1 := jn_len_succ h
  have h2 := jn_take_le L (k + 1)
  unfold jnTo
  rw [List.take_left, List.drop_append, List.drop_of_length_le (l := jn (L.take k)) (by omega), List.nil_append, List.drop_replicate, jn_take_succ h]
  congr 1
  rw [List.length_append, size_list]
  congr 1
  omega
end Go.Proofs.Ytepfblabdibggaa
