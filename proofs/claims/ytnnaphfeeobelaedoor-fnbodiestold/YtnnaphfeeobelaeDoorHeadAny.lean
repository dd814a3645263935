/- A head, right or not, is drawn. -/
import Derived.Test.YtnnaphfeeobelaeDoorHeadDrawJ
import Derived.Test.YtnnaphfeeobelaeDoorHeadTextPlainJ
namespace Go.Proofs.YtnnaphfeeobelaeDoor
open Go.RowKit Go.Sort
/-- A small head. -/
def SmD (line : ByteArray) (L : List (ByteArray × ByteArray)) : Prop := line.size ≤ 90 ∧ L.length ≤ 9 ∧ ∀ f ∈ L, f.1.size ≤ 30 ∧ f.2.size ≤ 70
theorem SmD.drawn {line : ByteArray} {L : List (ByteArray × ByteArray)} (h1 : line ∈ hlL) (h2 : ∀ f ∈ L, FdD f) (h3 : L.length ≤ 3) : SmD line L := by
  refine ⟨Nat.le_trans (hlL_len _ h1) (by omega), by omega, fun f hf => ⟨Nat.le_trans (fnL_len _ (h2 f hf).1) (by omega), Nat.le_trans (fvL_len _ (h2 f hf).2) (by omega)⟩⟩
theorem wgtT_small : ∀ (L : List (ByteArray × ByteArray)), (∀ f ∈ L, f.1.size ≤ 30 ∧ f.2.size ≤ 70) → wgtT L ≤ 100 * L.length
  | [], _ => by simp [wgtT]
  | f :: L, h => by
    have h1 := wgtT_small L (fun g hg => h g (List.mem_cons_of_mem _ hg))
    have h2 := h f List.mem_cons_self
    unfold wgtT at *
    simp only [List.map_cons, List.sum_cons, List.length_cons]
    omega
theorem SmD.sz {line : ByteArray} {L : List (ByteArray × ByteArray)} (h : SmD line L) : HdSz line L := by
  obtain ⟨h1, h2, h3⟩ := h
  have := wgtT_small L h3
  unfold HdSz
  omega
theorem SmD.line {line z : ByteArray} {L : List (ByteArray × ByteArray)} (h : SmD line L) (hz : z.size ≤ 90) : SmD z L := ⟨hz, h.2⟩
theorem SmD.mod {line : ByteArray} {L : List (ByteArray × ByteArray)} (h : SmD line L) (F : ByteArray × ByteArray → ByteArray × ByteArray) (hF : ∀ f : ByteArray × ByteArray, f.1.size ≤ 30 ∧ f.2.size ≤ 70 → (F f).1.size ≤ 30 ∧ (F f).2.size ≤ 70) : SmD line (L.modify 0 F) := by
  refine ⟨h.1, by rw [List.length_modify]; exact h.2.1, fun f hf => ?_⟩
  cases L with
  | nil => simp at hf
  | cons g L =>
    simp only [List.modify_zero_cons, List.mem_cons] at hf
    rcases hf with rfl | hf
    · exact hF g (h.2.2 g List.mem_cons_self)
    · exact h.2.2 f (List.mem_cons_of_mem _ hf)
theorem fdl_mod0 : ∀ (L : List (ByteArray × ByteArray)) (j : Nat) (x : ByteArray), (fdl L).set (j * 2) (.string x) = fdl (L.modify j fun f => (x, f.2))
  | [], j, x => by simp [fdl]
  | g :: L, 0, x => by simp [fdl_cons, fdCells]
  | g :: L, j + 1, x => by
    have ih := fdl_mod0 L j x
    rw [show (j + 1) * 2 = j * 2 + 1 + 1 by omega, fdl_cons, List.modify_succ_cons, fdl_cons, ← ih]
    simp [fdCells]
theorem fdl_mod1 : ∀ (L : List (ByteArray × ByteArray)) (j : Nat) (x : ByteArray), (fdl L).set (j * 2 + 1) (.string x) = fdl (L.modify j fun f => (f.1, x))
  | [], j, x => by simp [fdl]
  | g :: L, 0, x => by simp [fdl_cons, fdCells]
  | g :: L, j + 1, x => by
    have ih := fdl_mod1 L j x
    rw [show (j + 1) * 2 + 1 = (j * 2 + 1) + 1 + 1 by omega, fdl_cons, List.modify_succ_cons, fdl_cons, ← ih]
    simp [fdCells]
theorem OwnD.mod0 {w : World} {base : Nat} {e : TypeId} {g n cap : Nat} {L : List (ByteArray × ByteArray)} (h : OwnD w base e (.slice (some ⟨g, 0, none⟩) n cap) L) (hn : n = L.length) (x : ByteArray) :
    OwnD (w.setCell ⟨g, 0, none⟩ (.string x)) base e (.slice (some ⟨g, 0, none⟩) n cap) (L.modify 0 fun f => (x, f.2)) ∧ w.grownBy (w.setCell ⟨g, 0, none⟩ (.string x)) (some g) := by
  subst hn
  have h0 := World.ownsRow.stored h 0 (.string x)
  rw [fdl_mod0 L 0] at h0
  refine ⟨?_, h0.2⟩
  unfold OwnD
  rw [List.length_modify]
  exact h0.1
theorem OwnD.mod1 {w : World} {base : Nat} {e : TypeId} {g n cap : Nat} {L : List (ByteArray × ByteArray)} (h : OwnD w base e (.slice (some ⟨g, 0, none⟩) n cap) L) (hn : n = L.length) (x : ByteArray) :
    OwnD (w.setCell ⟨g, 1, none⟩ (.string x)) base e (.slice (some ⟨g, 0, none⟩) n cap) (L.modify 0 fun f => (f.1, x)) ∧ w.grownBy (w.setCell ⟨g, 1, none⟩ (.string x)) (some g) := by
  subst hn
  have h0 := World.ownsRow.stored h 1 (.string x)
  rw [fdl_mod1 L 0] at h0
  refine ⟨?_, h0.2⟩
  unfold OwnD
  rw [List.length_modify]
  exact h0.1
theorem OwnD.cell0 {w : World} {base : Nat} {e : TypeId} {v : Value} {L : List (ByteArray × ByteArray)} (h : OwnD w base e v L) (hL : 0 < L.length) :
    ∃ g c, v = .slice (some ⟨g, 0, none⟩) L.length c ∧ w.cell? ⟨g, 0, none⟩ = some (.string (L[0]).1) ∧ w.cell? ⟨g, 1, none⟩ = some (.string (L[0]).2) ∧ w.frozen? ⟨g, 0, none⟩ = false ∧ w.frozen? ⟨g, 1, none⟩ = false ∧ g < w.heap.size := by
  obtain ⟨a, c, rfl, hA⟩ := h.at
  obtain ⟨g, rfl, hg, _⟩ := row2_addrD (show w.ownsRow base e 2 (.slice a L.length c) L.length (fdl L) from h) hL
  obtain ⟨g', off, ha, _, c0, c1⟩ := hA 0 hL
  simp only [Option.some.injEq, Addr.mk.injEq, and_true] at ha
  obtain ⟨rfl, rfl⟩ := ha
  exact ⟨g, c, rfl, by simpa using c0, by simpa using c1, h.there rfl 0, h.there rfl 1, hg⟩
theorem frozen_xD {w : World} {X i : Nat} (h : w.frozen? ⟨X, i, none⟩ = false) (hX : X < w.heap.size) (o : Obj) : (w.alloc o).frozen? ⟨X, i, none⟩ = false := by
  rw [(((Below.refl w.heap.size w).alloc (Nat.le_refl _) o).frozen (p := ⟨X, i, none⟩) hX)]
  exact h
theorem litAt (w : World) (l : List ByteArray) (j : Nat) (hj : j < l.length) : (w.alloc (.cells (strs l).toArray 9)).cell? ⟨w.heap.size, j, none⟩ = some (.string l[j]) := by
  have h := heap_alloc_new w (Obj.cells (strs l).toArray 9)
  simp only [World.cell?, h]
  simp [strs, hj]
theorem lit5a (w : World) (sA : ByteArray) (j : Nat) (hj : j < 5) (hA : (sA.size : Int) = 21) : ∃ z : ByteArray, z.size ≤ 30 ∧ (w.alloc (.cells #[.string ⟨#[]⟩, .string ⟨#[65]⟩, .string ⟨#[97, 32, 98]⟩, .string sA, .string ⟨#[45]⟩] 9)).cell? ⟨w.heap.size, j, none⟩ = some (.string z) := by
  refine ⟨([⟨#[]⟩, ⟨#[65]⟩, ⟨#[97, 32, 98]⟩, sA, ⟨#[45]⟩] : List ByteArray)[j]'hj, ?_, litAt w [⟨#[]⟩, ⟨#[65]⟩, ⟨#[97, 32, 98]⟩, sA, ⟨#[45]⟩] j hj⟩
  have hall : ∀ q ∈ ([⟨#[]⟩, ⟨#[65]⟩, ⟨#[97, 32, 98]⟩, sA, ⟨#[45]⟩] : List ByteArray), q.size ≤ 30 := by
    intro q hq
    simp only [List.mem_cons, List.not_mem_nil, or_false] at hq
    rcases hq with rfl | rfl | rfl | rfl | rfl <;> first | decide | omega
  exact hall _ (List.getElem_mem _)
theorem lit5b (w : World) (sA sB : ByteArray) (j : Nat) (hj : j < 5) (hA : (sA.size : Int) = 60) (hB : (sB.size : Int) = 61) : ∃ z : ByteArray, z.size ≤ 70 ∧ (w.alloc (.cells #[.string ⟨#[32, 97]⟩, .string ⟨#[97, 32]⟩, .string sA, .string sB, .string ⟨#[10]⟩] 9)).cell? ⟨w.heap.size, j, none⟩ = some (.string z) := by
  refine ⟨([⟨#[32, 97]⟩, ⟨#[97, 32]⟩, sA, sB, ⟨#[10]⟩] : List ByteArray)[j]'hj, ?_, litAt w [⟨#[32, 97]⟩, ⟨#[97, 32]⟩, sA, sB, ⟨#[10]⟩] j hj⟩
  have hall : ∀ q ∈ ([⟨#[32, 97]⟩, ⟨#[97, 32]⟩, sA, sB, ⟨#[10]⟩] : List ByteArray), q.size ≤ 70 := by
    intro q hq
    simp only [List.mem_cons, List.not_mem_nil, or_false] at hq
    rcases hq with rfl | rfl | rfl | rfl | rfl <;> first | decide | omega
  exact hall _ (List.getElem_mem _)
/-- How many fields lie in the variable. -/
def lenAt (w : World) (T : Nat) : Nat := match w.cell? ⟨T, 1, none⟩ with | some (.slice _ n _) => n | _ => 0
end Go.Proofs.YtnnaphfeeobelaeDoor
