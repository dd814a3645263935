/- Texts that stand in one: EntActs, Strs, JoinPlain, AnewPlain. -/
import Derived.Test.YtepfblabdibggabDoorSealPlainJ
import Derived.Test.YtepfblabdibggabDoorActs
import Derived.Test.YtepfblabdibggabDoorRowed
import Derived.Test.YtepfblabdibggabDoorBase
import Derived.Test.YtepfblabdibggabDoorDiskPlainJ
namespace Go.Proofs.YtepfblabdibggabDoor
open Go.RowKit
def nKept : ByteArray := ⟨#[107, 101, 112, 116]⟩
def nNew : ByteArray := ⟨#[110, 101, 119]⟩
/-- What is done to keep a right entry. -/
def keepA (E : En) : List Ac := [⟨1, nKept, enFr E, ⟨#[]⟩⟩, ⟨2, nKept, ⟨#[]⟩, ⟨#[]⟩⟩]
def keepL (E : En) : List Ac := if enOk E = true then keepA E else []
theorem keepL_in {E : En} (h : enOk E = true) : keepL E = keepA E := if_pos h
theorem keepL_out {E : En} (h : enOk E = false) : keepL E = [] := by unfold keepL; rw [h]; rfl
theorem keepL_len (E : En) : (keepL E).length ≤ 2 := by
  unfold keepL; split
  · exact Nat.le_refl 2
  · exact Nat.zero_le 2
theorem ownA_new (w : World) (e : TypeId) (L : List Ac) (cs : Array Value) (hc : cs = (acl L).toArray) (hl : L.length ≤ maxLen) : OwnA (w.alloc (.cells cs e)) w.heap.size e (.slice (some ⟨w.heap.size, 0, none⟩) L.length L.length) L := by
  subst hc
  refine ⟨by rw [acl_length], .inr ⟨w.heap.size, L.length, _, rfl, Nat.le_refl _, heap_alloc_new w _, Nat.le_refl _, hl, by simp [acl_length], ?_⟩⟩
  exact List.take_of_length_le (by simp [acl_length])
theorem ownA_nil (w : World) (base : Nat) (e : TypeId) : OwnA w base e (.slice none 0 0) [] := World.ownsRow_nil _ _ _ _
end Go.Proofs.YtepfblabdibggabDoor

namespace Go.Proofs.YtepfblabdibggabDoor
open Go.RowKit
/-- The texts L lie at the address a, below the block B. -/
def LAt (w : World) (a : Option Addr) (L : List ByteArray) (B : Nat) : Prop :=
  ∀ j (hj : j < L.length), ∃ g off, a = some ⟨g, off, none⟩ ∧ g < B ∧ w.cell? ⟨g, off + j, none⟩ = some (.string L[j])
theorem LAt.below {w w' : World} {a : Option Addr} {L : List ByteArray} {B B' : Nat} (h : LAt w a L B) (hb : Below B' w w') (hB : B ≤ B') : LAt w' a L B := by
  intro j hj
  obtain ⟨g, off, ha, hg, h1⟩ := h j hj
  exact ⟨g, off, ha, hg, (hb.cell (Nat.lt_of_lt_of_le hg hB)).trans h1⟩
theorem LAt.mono {w : World} {a : Option Addr} {L : List ByteArray} {B B' : Nat} (h : LAt w a L B) (hB : B ≤ B') : LAt w a L B' := by
  intro j hj
  obtain ⟨g, off, ha, hg, r⟩ := h j hj
  exact ⟨g, off, ha, Nat.lt_of_lt_of_le hg hB, r⟩
theorem LAt.on {w w' : World} {a : Option Addr} {L : List ByteArray} (h : LAt w a L w.heap.size) (hb : Below w.heap.size w w') : LAt w' a L w'.heap.size := (h.below hb (Nat.le_refl _)).mono hb.size
theorem OwnV.strsAt {w : World} {base : Nat} {e : TypeId} {v : Value} {L : List ByteArray} (h : OwnV w base e v (strs L)) : ∃ a cap, v = .slice a L.length cap ∧ LAt w a L w.heap.size := by
  obtain ⟨a, cap, hv, hc⟩ := h.shape
  rw [strs_length] at hv
  refine ⟨a, cap, hv, fun j hj => ?_⟩
  obtain ⟨g, ha, hcell, _, _, hg⟩ := hc j (by rw [strs_length]; exact hj)
  rw [strs_at hj] at hcell
  exact ⟨g, 0, ha, hg, by simpa using hcell⟩
end Go.Proofs.YtepfblabdibggabDoor

namespace Go.Proofs.YtepfblabdibggabDoor
open Go.RowKit
/-- The bytes of texts, one behind the other. -/
def jn (L : List ByteArray) : List UInt8 := L.flatMap (·.data.toList)
def jnB (L : List ByteArray) : ByteArray := ⟨(jn L).toArray⟩
theorem size_list (s : ByteArray) : s.data.toList.length = s.size := by rw [Array.length_toList]; rfl
theorem jn_append (L M : List ByteArray) : jn (L ++ M) = jn L ++ jn M := by simp [jn]
theorem jn_one (s : ByteArray) : jn [s] = s.data.toList := by simp [jn]
theorem jn_take_succ {L : List ByteArray} {k : Nat} (h : k < L.length) : jn (L.take (k + 1)) = jn (L.take k) ++ L[k].data.toList := by
  rw [List.take_succ_eq_append_getElem h, jn_append, jn_one]
theorem jn_len_succ {L : List ByteArray} {k : Nat} (h : k < L.length) : (jn (L.take (k + 1))).length = (jn (L.take k)).length + L[k].size := by
  rw [jn_take_succ h, List.length_append, size_list]
theorem jn_take_le (L : List ByteArray) (k : Nat) : (jn (L.take k)).length ≤ (jn L).length := by
  have h := jn_append (L.take k) (L.drop k)
  rw [List.take_append_drop] at h
  rw [h, List.length_append]
  omega
/-- What stands in the room when k texts are laid. -/
def jnTo (L : List ByteArray) (k : Nat) : List UInt8 := jn (L.take k) ++ List.replicate ((jn L).length - (jn (L.take k)).length) 0
theorem jnTo_zero (L : List ByteArray) : jnTo L 0 = List.replicate (jn L).length 0 := by simp [jnTo, jn]
theorem jnTo_length (L : List ByteArray) (k : Nat) : (jnTo L k).length = (jn L).length := by
  have := jn_take_le L k
  simp [jnTo]; omega
theorem jnTo_all (L : List ByteArray) : jnTo L L.length = jn L := by simp [jnTo]
theorem jnTo_succ {L : List ByteArray} {k : Nat} (h : k < L.length) : jnTo L (k + 1) = (jnTo L k).take (jn (L.take k)).length ++ L[k].data.toList ++ (jnTo L k).drop ((jn (L.take k)).length + L[k].size) := by
  have h1 := jn_len_succ h
  have h2 := jn_take_le L (k + 1)
  unfold jnTo
  rw [List.take_left, List.drop_append, List.drop_of_length_le (l := jn (L.take k)) (by omega), List.nil_append, List.drop_replicate, jn_take_succ h]
  congr 1
  rw [List.length_append, size_list]
  congr 1
  omega
end Go.Proofs.YtepfblabdibggabDoor

namespace Go.Proofs.YtepfblabdibggabDoor
open Go.RowKit
def enAllOk (M : List En) : Bool := M.all enOk
/-- The frames of entries, one behind the other. -/
def frsB (M : List En) : ByteArray := jnB (M.map enFr)
def dropA : List Ac := [⟨4, nNew, ⟨#[]⟩, ⟨#[]⟩⟩]
def layA (t : ByteArray) : List Ac := [⟨1, nNew, t, ⟨#[]⟩⟩, ⟨2, nNew, ⟨#[]⟩, ⟨#[]⟩⟩, ⟨3, nNew, ⟨#[]⟩, nKept⟩]
/-- Right entries, laid anew. -/
def anewA (L : List Fil) (M : List En) : List Ac := (if (fileAt L nNew).2 = true then dropA else []) ++ layA (frsB M)
def anewB (L : List Fil) (M : List En) : Bool := dOk L && enAllOk M
def anewL (L : List Fil) (M : List En) : List Ac := if anewB L M = true then anewA L M else []
theorem anewL_in {L : List Fil} {M : List En} (h : anewB L M = true) : anewL L M = anewA L M := if_pos h
theorem anewL_out {L : List Fil} {M : List En} (h : anewB L M = false) : anewL L M = [] := by unfold anewL; rw [h]; rfl
theorem anewL_len (L : List Fil) (M : List En) : (anewL L M).length ≤ 4 := by
  unfold anewL anewA
  split
  · split <;> simp [dropA, layA]
  · simp
theorem anewB_at {L : List Fil} {M : List En} {k : Nat} (hk : k < M.length) (h : enOk M[k] = false) : anewB L M = false := by
  unfold anewB enAllOk
  have : M.all enOk = false := by rw [List.all_eq_false]; exact ⟨M[k], List.getElem_mem hk, by simp [h]⟩
  rw [this, Bool.and_false]
theorem enAllOk_take {M : List En} {k : Nat} (hk : k < M.length) (h : enAllOk (M.take k) = true) (h1 : enOk M[k] = true) : enAllOk (M.take (k + 1)) = true := by
  unfold enAllOk at *
  rw [List.take_succ_eq_append_getElem hk, List.all_append, h]
  simp [h1]
theorem frs_take {M : List En} {k : Nat} (hk : k < M.length) : frsB (M.take (k + 1)) = frsB (M.take k) ++ enFr M[k] := by
  unfold frsB
  rw [List.take_succ_eq_append_getElem hk, List.map_append, toList_injE]
  simp [jnB, jn]
theorem frs_len {M : List En} (h : enAllOk M = true) : (jn (M.map enFr)).length ≤ M.length * 470 := by
  induction M with
  | nil => simp [jn]
  | cons e M ih =>
    unfold enAllOk at h ih
    simp only [List.all_cons, Bool.and_eq_true] at h
    have h1 := ih h.2
    have h2 := (enFr_size h.1).2
    have e3 : (jn (List.map enFr (e :: M))).length = (enFr e).size + (jn (M.map enFr)).length := by
      rw [List.map_cons, show enFr e :: M.map enFr = [enFr e] ++ M.map enFr from rfl, jn_append, jn_one, List.length_append, size_list]
    rw [e3, List.length_cons]
    omega
theorem frs_size {M : List En} (h : enAllOk M = true) : (frsB M).size ≤ M.length * 470 := frs_len h
end Go.Proofs.YtepfblabdibggabDoor
