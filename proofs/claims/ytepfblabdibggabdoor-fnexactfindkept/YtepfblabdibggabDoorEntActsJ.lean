/- Texts that stand in one: EntActs, KeptE. -/
import Derived.Test.YtepfblabdibggabDoorLawKitJ
import Derived.Test.YtepfblabdibggabDoorActs
import Derived.Test.YtepfblabdibggabDoorFindPlain
import Derived.Test.YtepfblabdibggabDoorSealPlainJ
namespace Go.Proofs.YtepfblabdibggabDoor
open Go.RowKit
def nKept : ByteArray := ⟨#[107, 101, 112, 116]⟩
def nNew : ByteArray := ⟨#[110, 101, 119]⟩
/-- What is done to keep a right entry. -/
def keepA (E : En) : List Ac := [⟨1, nKept, enFr E, ⟨#[]⟩⟩, ⟨2, nKept, ⟨#[]⟩, ⟨#[]⟩⟩]
def keepL (E : En) : List Ac := if enOk E = true then keepA E else []
theorem keepL_in {E : En} (h : enOk E = true) : keepL E = keepA E := if_pos h
theorem keepL_out {E : En} (h : enOk E = false) : keepL E = [] := by unfold keepL; rw [h]; rfl
theorem keepL_len (E : En) : (keepL E).length ≤ 2 := by
  unfold keepL; split
  · exact Nat.le_refl 2
  · exact Nat.zero_le 2
theorem ownA_new (w : World) (e : TypeId) (L : List Ac) (cs : Array Value) (hc : cs = (acl L).toArray) (hl : L.length ≤ maxLen) : OwnA (w.alloc (.cells cs e)) w.heap.size e (.slice (some ⟨w.heap.size, 0, none⟩) L.length L.length) L := by
  subst hc
  refine ⟨by rw [acl_length], .inr ⟨w.heap.size, L.length, _, rfl, Nat.le_refl _, heap_alloc_new w _, Nat.le_refl _, hl, by simp [acl_length], ?_⟩⟩
  exact List.take_of_length_le (by simp [acl_length])
theorem ownA_nil (w : World) (base : Nat) (e : TypeId) : OwnA w base e (.slice none 0 0) [] := World.ownsRow_nil _ _ _ _
end Go.Proofs.YtepfblabdibggabDoor

namespace Go.Proofs.YtepfblabdibggabDoor
open Go.RowKit
theorem ufF_sizes {s : ByteArray} (hs : s.size ≤ 1048576) : ∀ (f a : Nat), ∀ p ∈ ufF s f a, p.1.size ≤ 1048576
  | 0, a, p, hp => by simp [ufF] at hp
  | f + 1, a, p, hp => by
    cases hu : uf1 s a with
    | none => rw [ufF_none hu] at hp; cases hp
    | some q =>
      rw [ufF_some hu] at hp
      rcases List.mem_cons.1 hp with rfl | hp
      · unfold uf1 at hu
        cases hr : rv s.data.toList (a : Int) with
        | none => simp [hr] at hu
        | some z =>
          obtain ⟨n, e⟩ := z
          simp only [hr] at hu
          split at hu
          · simp only [Option.some.injEq] at hu
            subst hu
            show (s.extract (e + 4) (e + 4 + n)).size ≤ 1048576
            rw [ByteArray.size_extract]; omega
          · cases hu
      · exact ufF_sizes hs f q.2 p hp
theorem ufL_sizes {s : ByteArray} (hs : s.size ≤ 1048576) : ∀ x ∈ ufL s, x.size ≤ 1048576 := by
  intro x hx
  unfold ufL at hx
  split at hx
  · unfold recs at hx
    obtain ⟨p, hp, rfl⟩ := List.mem_map.1 hx
    exact ufF_sizes hs _ _ p hp
  · cases hx
/-- What FindKept answers. -/
def keptE (L : List Fil) : List En := if dOk L = true then findE (entsOf (ufL (fileAt L nKept).1)) else []
theorem keptE_len (L : List Fil) : (keptE L).length ≤ 20000 := by
  unfold keptE
  split
  · have h1 := findE_len (entsOf (ufL (fileAt L nKept).1))
    have h2 := ents_len (ufL (fileAt L nKept).1)
    have h3 := ufL_le (fileAt L nKept).1
    omega
  · exact Nat.zero_le _
end Go.Proofs.YtepfblabdibggabDoor
