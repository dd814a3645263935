/- Texts that stand in one: ReadShort, Strs, JoinPlain. -/
import Derived.Test.YtepfblabdibggabDoorReadShortImplJ
import Derived.Test.YtepfblabdibggabDoorRowed
import Derived.Test.YtepfblabdibggabDoorBaseJ
namespace Go.Proofs.YtepfblabdibggabDoor
open Go.RowKit

set_option maxHeartbeats 1000000 in
theorem specReadShort_any (s : ByteArray) (a : Int) (w : World) (hs : s.size ≤ 1048576) :
    Calls Tryd.prog 64 #[.string s, .int .i64 a] w fun e w' => e = .returned (.tuple #[.string (rsText s a), .int .i64 (rsE s a : Nat), .bool (rsOk s a)]) ∧ Below w.heap.size w w' := by
  obtain ⟨n, e, b, hn, he, hb, h1, h2, h3⟩ := rs_cases s a
  have c1 := specReadVar_any s a w hs
  rw [hn, he, hb] at c1
  clear hn he hb
  rcases h3 with ⟨rfl, g1, g2, g3, g4, g5⟩ | ⟨g1, g3, g4, g5⟩
  · rw [g3, g4, g5]
    clear g3 g4 g5
    have hsl := fun w => run_slice_string (P := Tryd.prog) (w := w) 9 s .i64 .i64 (e : Int) ((e : Int) + (n : Int)) Tryd.underlying9 (by omega) (by omega) (by omega)
    go_enter Tryd.func64, Tryd.ntmps64
    go_wp2_with (go_at_call 63; refine c1.mono ?_; rintro e w' ⟨rfl, hb⟩)
    go_ret3
    exact ⟨rfl, hb⟩
  · rw [g3, g4, g5]
    clear g3 g4 g5
    rcases g1 with rfl | ⟨rfl, g1 | ⟨g1, g2⟩⟩
    all_goals
      go_enter Tryd.func64, Tryd.ntmps64
      go_wp2_with (go_at_call 63; refine c1.mono ?_; rintro e w' ⟨rfl, hb⟩)
      go_ret3
      exact ⟨rfl, hb⟩
end Go.Proofs.YtepfblabdibggabDoor

namespace Go.Proofs.YtepfblabdibggabDoor
open Go.RowKit
/-- The texts L lie at the address a, below the block B. -/
def LAt (w : World) (a : Option Addr) (L : List ByteArray) (B : Nat) : Prop :=
  ∀ j (hj : j < L.length), ∃ g off, a = some ⟨g, off, none⟩ ∧ g < B ∧ w.cell? ⟨g, off + j, none⟩ = some (.string L[j])
theorem LAt.below {w w' : World} {a : Option Addr} {L : List ByteArray} {B B' : Nat} (h : LAt w a L B) (hb : Below B' w w') (hB : B ≤ B') : LAt w' a L B := by
  intro j hj
  obtain ⟨g, off, ha, hg, h1⟩ := h j hj
  exact ⟨g, off, ha, hg, (hb.cell (Nat.lt_of_lt_of_le hg hB)).trans h1⟩
theorem LAt.mono {w : World} {a : Option Addr} {L : List ByteArray} {B B' : Nat} (h : LAt w a L B) (hB : B ≤ B') : LAt w a L B' := by
  intro j hj
  obtain ⟨g, off, ha, hg, r⟩ := h j hj
  exact ⟨g, off, ha, Nat.lt_of_lt_of_le hg hB, r⟩
theorem LAt.on {w w' : World} {a : Option Addr} {L : List ByteArray} (h : LAt w a L w.heap.size) (hb : Below w.heap.size w w') : LAt w' a L w'.heap.size := (h.below hb (Nat.le_refl _)).mono hb.size
theorem OwnV.strsAt {w : World} {base : Nat} {e : TypeId} {v : Value} {L : List ByteArray} (h : OwnV w base e v (strs L)) : ∃ a cap, v = .slice a L.length cap ∧ LAt w a L w.heap.size := by
  obtain ⟨a, cap, hv, hc⟩ := h.shape
  rw [strs_length] at hv
  refine ⟨a, cap, hv, fun j hj => ?_⟩
  obtain ⟨g, ha, hcell, _, _, hg⟩ := hc j (by rw [strs_length]; exact hj)
  rw [strs_at hj] at hcell
  exact ⟨g, 0, ha, hg, by simpa using hcell⟩
end Go.Proofs.YtepfblabdibggabDoor

namespace Go.Proofs.YtepfblabdibggabDoor
open Go.RowKit
/-- The bytes of texts, one behind the other. -/
def jn (L : List ByteArray) : List UInt8 := L.flatMap (·.data.toList)
def jnB (L : List ByteArray) : ByteArray := ⟨(jn L).toArray⟩
theorem size_list (s : ByteArray) : s.data.toList.length = s.size := by rw [Array.length_toList]; rfl
theorem jn_append (L M : List ByteArray) : jn (L ++ M) = jn L ++ jn M := by simp [jn]
theorem jn_one (s : ByteArray) : jn [s] = s.data.toList := by simp [jn]
theorem jn_take_succ {L : List ByteArray} {k : Nat} (h : k < L.length) : jn (L.take (k + 1)) = jn (L.take k) ++ L[k].data.toList := by
  rw [List.take_succ_eq_append_getElem h, jn_append, jn_one]
theorem jn_len_succ {L : List ByteArray} {k : Nat} (h : k < L.length) : (jn (L.take (k + 1))).length = (jn (L.take k)).length + L[k].size := by
  rw [jn_take_succ h, List.length_append, size_list]
theorem jn_take_le (L : List ByteArray) (k : Nat) : (jn (L.take k)).length ≤ (jn L).length := by
  have h := jn_append (L.take k) (L.drop k)
  rw [List.take_append_drop] at h
  rw [h, List.length_append]
  omega
/-- What stands in the room when k texts are laid. -/
def jnTo (L : List ByteArray) (k : Nat) : List UInt8 := jn (L.take k) ++ List.replicate ((jn L).length - (jn (L.take k)).length) 0
theorem jnTo_zero (L : List ByteArray) : jnTo L 0 = List.replicate (jn L).length 0 := by simp [jnTo, jn]
theorem jnTo_length (L : List ByteArray) (k : Nat) : (jnTo L k).length = (jn L).length := by
  have := jn_take_le L k
  simp [jnTo]; omega
theorem jnTo_all (L : List ByteArray) : jnTo L L.length = jn L := by simp [jnTo]
theorem jnTo_succ {L : List ByteArray} {k : Nat} (h : k < L.length) : jnTo L (k + 1) = (jnTo L k).take (jn (L.take k)).length ++ L[k].data.toList ++ (jnTo L k).drop ((jn (L.take k)).length + L[k].size) := by
  have h1 := jn_len_succ h
  have h2 := jn_take_le L (k + 1)
  unfold jnTo
  rw [List.take_left, List.drop_append, List.drop_of_length_le (l := jn (L.take k)) (by omega), List.nil_append, List.drop_replicate, jn_take_succ h]
  congr 1
  rw [List.length_append, size_list]
  congr 1
  omega
end Go.Proofs.YtepfblabdibggabDoor
