/- slices.DeleteFunc of Clients: all that the predicate names go. Written by mkdelx.py. -/
import Derived.Test.YtcaakommnglnbaaGreatDoorHallKitJ
namespace Go.Proofs.YtcaakommnglnbaaGreatDoor
open Go.RowKit Go.Sort
theorem zeroCli_len (n : Nat) : (Builtin.zeroCells (Value.agg #[.int .i64 0, .string ⟨#[]⟩, .int .i64 0, .int .i64 0, .int .i64 0, .string ⟨#[]⟩, .int .i64 0]).cells n).toList.length = n * 7 := by simp [Builtin.zeroCells, Value.cells]
theorem zeroCli_one (n : Nat) : ∀ v ∈ (Builtin.zeroCells (Value.agg #[.int .i64 0, .string ⟨#[]⟩, .int .i64 0, .int .i64 0, .int .i64 0, .string ⟨#[]⟩, .int .i64 0]).cells n).toList, v.oneCell' = true := by
  intro v hv
  simp only [Builtin.zeroCells, Array.toList_map, List.mem_map] at hv
  obtain ⟨i, _, rfl⟩ := hv
  have h2 : (Value.agg #[.int .i64 0, .string ⟨#[]⟩, .int .i64 0, .int .i64 0, .int .i64 0, .string ⟨#[]⟩, .int .i64 0]).cells = #[.int .i64 0, .string ⟨#[]⟩, .int .i64 0, .int .i64 0, .int .i64 0, .string ⟨#[]⟩, .int .i64 0] := rfl
  rw [h2]
  have h3 : i % (#[Value.int .i64 0, .string ⟨#[]⟩, .int .i64 0, .int .i64 0, .int .i64 0, .string ⟨#[]⟩, .int .i64 0]).size = 0 ∨ i % (#[Value.int .i64 0, .string ⟨#[]⟩, .int .i64 0, .int .i64 0, .int .i64 0, .string ⟨#[]⟩, .int .i64 0]).size = 1 ∨ i % (#[Value.int .i64 0, .string ⟨#[]⟩, .int .i64 0, .int .i64 0, .int .i64 0, .string ⟨#[]⟩, .int .i64 0]).size = 2 ∨ i % (#[Value.int .i64 0, .string ⟨#[]⟩, .int .i64 0, .int .i64 0, .int .i64 0, .string ⟨#[]⟩, .int .i64 0]).size = 3 ∨ i % (#[Value.int .i64 0, .string ⟨#[]⟩, .int .i64 0, .int .i64 0, .int .i64 0, .string ⟨#[]⟩, .int .i64 0]).size = 4 ∨ i % (#[Value.int .i64 0, .string ⟨#[]⟩, .int .i64 0, .int .i64 0, .int .i64 0, .string ⟨#[]⟩, .int .i64 0]).size = 5 ∨ i % (#[Value.int .i64 0, .string ⟨#[]⟩, .int .i64 0, .int .i64 0, .int .i64 0, .string ⟨#[]⟩, .int .i64 0]).size = 6 := by simp; omega
  rcases h3 with h3 | h3 | h3 | h3 | h3 | h3 | h3 <;> rw [h3] <;> rfl
theorem OwnCli.row {w : World} {base G n c : Nat} {e : TypeId} {L : List Cli} (h : OwnCli w base e (.slice (some ⟨G, 0, none⟩) n c) L) : ∃ cur : List Value, w.heap[G]? = some (.cells cur.toArray e (0, 0)) ∧ base ≤ G ∧ n = L.length ∧ L.length ≤ c ∧ c ≤ maxLen ∧ cur.length = c * 7 ∧ cur.take (L.length * 7) = cltl L := by
  rcases h.2 with ⟨e1, _⟩ | ⟨g', cp, cur, e1, h1, h2, h3, h4, h5, h6⟩
  · cases e1
  · simp only [Value.slice.injEq, Option.some.injEq, Addr.mk.injEq, and_true] at e1
    obtain ⟨rfl, rfl, rfl⟩ := e1
    exact ⟨cur.toList, by simpa using h2, h1, rfl, h3, h4, by simpa using h5, h6⟩
theorem OwnCli.of_row {w : World} {base G c : Nat} {e : TypeId} {L : List Cli} {cur : List Value} (h2 : w.heap[G]? = some (.cells cur.toArray e (0, 0))) (h1 : base ≤ G) (h3 : L.length ≤ c) (h4 : c ≤ maxLen) (h5 : cur.length = c * 7) (h6 : cur.take (L.length * 7) = cltl L) : OwnCli w base e (.slice (some ⟨G, 0, none⟩) L.length c) L :=
  ⟨by rw [cltl_length], .inr ⟨G, c, cur.toArray, rfl, h1, h2, h3, h4, by simpa using h5, by simpa using h6⟩⟩
theorem OwnCli.cellP {w : World} {base G n c : Nat} {e : TypeId} {L : List Cli} (h : OwnCli w base e (.slice (some ⟨G, 0, none⟩) n c) L) (j : Nat) (hj : j < L.length) : w.cell? ⟨G, j * 7, none⟩ = some (.int .i64 L[j].id) ∧ w.cell? ⟨G, j * 7 + 1, none⟩ = some (.string L[j].key) ∧ w.cell? ⟨G, j * 7 + 2, none⟩ = some (.int .i64 L[j].fe) ∧ w.cell? ⟨G, j * 7 + 3, none⟩ = some (.int .i64 L[j].fr) ∧ w.cell? ⟨G, j * 7 + 4, none⟩ = some (.int .i64 L[j].st) ∧ w.cell? ⟨G, j * 7 + 5, none⟩ = some (.string L[j].got) ∧ w.cell? ⟨G, j * 7 + 6, none⟩ = some (.int .i64 L[j].ag) := by
  obtain ⟨a, cp, e1, hA⟩ := h.at
  simp only [Value.slice.injEq] at e1
  obtain ⟨rfl, _, _⟩ := e1
  obtain ⟨g, off, e2, _, q0, q1, q2, q3, q4, q5, q6⟩ := hA j hj
  simp only [Option.some.injEq, Addr.mk.injEq, and_true] at e2
  obtain ⟨rfl, rfl⟩ := e2
  rw [Nat.zero_add] at q0 q1 q2 q3 q4 q5 q6
  exact ⟨q0, q1, q2, q3, q4, q5, q6⟩
theorem Tryz.zeroXCli : ∀ w, (zeroValue 93).run Tryz.prog w = .ok (.agg #[.int .i64 0, .string ⟨#[]⟩, .int .i64 0, .int .i64 0, .int .i64 0, .string ⟨#[]⟩, .int .i64 0]) w := by intro w; kernel_rfl
end Go.Proofs.YtcaakommnglnbaaGreatDoor
