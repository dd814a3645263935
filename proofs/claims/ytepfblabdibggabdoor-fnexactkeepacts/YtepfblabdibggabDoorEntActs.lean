/- What is done to keep an entry; acts that are laid in a block of their own. -/
import Derived.Test.YtepfblabdibggabDoorEntFrame
import Derived.Test.YtepfblabdibggabDoorActs
namespace Go.Proofs.YtepfblabdibggabDoor
open Go.RowKit
def nKept : ByteArray := ⟨#[107, 101, 112, 116]⟩
def nNew : ByteArray := ⟨#[110, 101, 119]⟩
/-- What is done to keep a right entry. -/
def keepA (E : En) : List Ac := [⟨1, nKept, enFr E, ⟨#[]⟩⟩, ⟨2, nKept, ⟨#[]⟩, ⟨#[]⟩⟩]
def keepL (E : En) : List Ac := if enOk E = true then keepA E else []
theorem keepL_in {E : En} (h : enOk E = true) : keepL E = keepA E := if_pos h
theorem keepL_out {E : En} (h : enOk E = false) : keepL E = [] := by unfold keepL; rw [h]; rfl
theorem keepL_len (E : En) : (keepL E).length ≤ 2 := by
  unfold keepL; split
  · exact Nat.le_refl 2
  · exact Nat.zero_le 2
theorem ownA_new (w : World) (e : TypeId) (L : List Ac) (cs : Array Value) (hc : cs = (acl L).toArray) (hl : L.length ≤ maxLen) : OwnA (w.alloc (.cells cs e)) w.heap.size e (.slice (some ⟨w.heap.size, 0, none⟩) L.length L.length) L := by
  subst hc
  refine ⟨by rw [acl_length], .inr ⟨w.heap.size, L.length, _, rfl, Nat.le_refl _, heap_alloc_new w _, Nat.le_refl _, hl, by simp [acl_length], ?_⟩⟩
  exact List.take_of_length_le (by simp [acl_length])
theorem ownA_nil (w : World) (base : Nat) (e : TypeId) : OwnA w base e (.slice none 0 0) [] := World.ownsRow_nil _ _ _ _
end Go.Proofs.YtepfblabdibggabDoor
