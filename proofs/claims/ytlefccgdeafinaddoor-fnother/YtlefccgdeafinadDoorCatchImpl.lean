/- A reader of heads catches its own panics. -/
import Derived.Test.YtlefccgdeafinadDoorReaderKit
import Derived.Tactics
import Derived.Tactics2
import Derived.Defers
import Derived.Recover
import Derived.Laws.Pointers
namespace Go.Proofs.YtlefccgdeafinadDoor
open Go.RowKit
theorem catch_panicking (p : Addr) (x c : Int) (older : List PanicEntry) (w : World) (hc : w.cell? p = some (.int .i64 x)) (hz : w.frozen? p = false) :
    CallsD Tryd.prog 47 #[.pointer (some p)] (.panicking ({ v := .iface 78 (.int .i64 c), recovered := false } :: older)) w fun e u' w' =>
      e = .returned (.tuple #[]) ∧ u' = .panicking ({ v := .iface 78 (.int .i64 c), recovered := true } :: older) ∧ w' = w.setCell p (.int .i64 c) := by
  have hTA : ∀ wi : World, (Instr.typeAssert (.iface 78 (.int .i64 c)) 20 78 false).run Tryd.prog wi = .ok (.int .i64 c) wi := fun _ => by kernel_rfl
  refine callsD_of_wpS Tryd.func47 rfl fun c₀ cs hu => ?_
  apply wpS_seq
  apply wpS_region
  simp [wpOpsS, go_sem, recoverD, hu, Tryd.ntmps47, Exit.thenS]
  apply wpS_seq
  apply wpS_region
  simp [wpOpsS, go_sem, Exit.thenS]
  refine wpS_cond (t := true) (by simp [Act.eval, Array.replicate]) ?_
  simp only [if_true]
  apply wpS_region
  simp [wpOpsS, go_sem, hTA, hc, hz, bodyPostS, results, Tryd.results47]
theorem catch_idle (p : Addr) (w : World) :
    CallsD Tryd.prog 47 #[.pointer (some p)] .returning w fun e u' w' => e = .returned (.tuple #[]) ∧ u' = .returning ∧ w' = w := by
  refine callsD_of_wpS Tryd.func47 rfl fun c₀ cs hu => ?_
  apply wpS_seq
  apply wpS_region
  simp [wpOpsS, go_sem, recoverD, hu, Tryd.ntmps47, Exit.thenS]
  apply wpS_seq
  apply wpS_region
  simp [wpOpsS, go_sem, Exit.thenS]
  refine wpS_cond (t := false) (by simp [Act.eval, Array.replicate]) ?_
  simp only [Bool.false_eq_true, if_false]
  refine wpS_of_wp (wp_skip ?_)
  cases c₀
  simp_all [bodyPostS, results, Tryd.results47]
/-- A new variable lies beside the reader. -/
theorem Rr.push {E : List (Nat × Obj)} {w0 : World} {T : Nat} {line : ByteArray} {v : Value} {L : List (ByteArray × ByteArray)} {t : ByteArray} {k : Nat} {w : World} (h : Rr E w0 T line v L t k w) (cs : Array Value) (e : TypeId) (he : e ≠ 34) : Rr ((w.heap.size, .cells cs e (0, 0)) :: E) w0 T line v L t k (w.alloc (.cells cs e)) := by
  have h1 := h.next ((Below.refl w.heap.size w).alloc (Nat.le_refl _) (.cells cs e))
  refine ⟨h1.bel, h1.hT, fun x hx => ?_, h1.box, h1.own, fun x hx => ?_⟩
  · rcases List.mem_cons.1 hx with rfl | hx
    · exact ⟨by have := h.box.lt; simp only; omega, fun cs' fr e' => by simp only [Obj.cells.injEq] at e'; exact he e'.2.1⟩
    · exact h.hE x hx
  · rcases List.mem_cons.1 hx with rfl | hx
    · exact heap_alloc_new w _
    · exact h1.ext x hx
theorem Rr.poke {E : List (Nat × Obj)} {w0 : World} {T C : Nat} {o : Obj} {line : ByteArray} {v : Value} {L : List (ByteArray × ByteArray)} {t : ByteArray} {k : Nat} {w : World} (h : Rr ((C, o) :: E) w0 T line v L t k w) (hC : w0.heap.size ≤ C) (hCE : ∀ x ∈ E, x.1 ≠ C) (i : Nat) (u : Value) : Rr E w0 T line v L t k (w.setCell ⟨C, i, none⟩ u) := by
  have hx := h.ext (C, o) List.mem_cons_self
  have hn := h.hE (C, o) List.mem_cons_self
  refine ⟨h.bel.trans ⟨rfl, rfl, rfl, by simp [World.setCell], fun j hj => Below.heap_setCell _ _ _ _ (by simp only; omega)⟩, h.hT, fun x hx => h.hE x (List.mem_cons_of_mem _ hx), ?_, ?_, fun x hx' => (Below.heap_setCell _ _ _ _ (by exact hCE x hx')).trans (h.ext x (List.mem_cons_of_mem _ hx'))⟩
  · exact (Below.heap_setCell _ _ _ _ (by exact fun e => hn.1 e.symm)).trans h.box
  · refine h.own.kept fun j hj => Below.heap_setCell _ _ _ _ ?_
    rintro rfl
    obtain ⟨cs, fr, hcs⟩ := own_field h.own _ hj
    exact hn.2 cs fr (Option.some.inj (hx.symm.trans hcs))
set_option maxRecDepth 100000 in
set_option maxHeartbeats 4000000 in
theorem read_of_ok {E : List (Nat × Obj)} {w0 : World} {T : Nat} {line line' : ByteArray} {v : Value} {L : List (ByteArray × ByteArray)} {t : ByteArray} {k k' : Nat} {w : World} (H : Rr E w0 T line v [] t k w) (hEC : ∀ x ∈ E, x.1 < w.heap.size)
    (hR : Calls Tryd.prog 48 #[.pointer (some ⟨T, 0, none⟩)] (w.alloc (.cells #[.int .i64 0] 3)) fun e w' => e = .returned (.tuple #[]) ∧ ∃ u, Rr ((w.heap.size, .cells #[.int .i64 0] 3 (0, 0)) :: E) w0 T line' u L t k' w') :
    Calls Tryd.prog 28 #[.pointer (some ⟨T, 0, none⟩)] w fun e w' => e = .returned (.int .i64 0) ∧ ∃ u, Rr E w0 T line' u L t k' w' := by
  have hmf : ∀ (fn : Fn) (first cap : Array Value) (w : World), (Instr.makeFunc fn first cap).run Tryd.prog w = .ok (.func fn first cap) w := fun _ _ _ _ => rfl
  have hws := H.bel.size
  clear H
  go_enter_defers Tryd.func28, Tryd.ntmps28
  go_wp2_with fail
  refine hR.mono ?_
  rintro e w2 ⟨rfl, u, H2⟩
  have hx := H2.ext _ List.mem_cons_self
  have hc : w2.cell? ⟨w.heap.size, 0, none⟩ = some (.int .i64 0) := by simp only at hx; simp [World.cell?, hx]
  have hz : w2.frozen? ⟨w.heap.size, 0, none⟩ = false := by simp only at hx; simp [World.frozen?, hx]
  have H3 := H2.poke hws (fun x hx e => by have := hEC x hx; omega) 0 (.int .i64 0)
  have hc2 : (w2.setCell ⟨w.heap.size, 0, none⟩ (.int .i64 0)).cell? ⟨w.heap.size, 0, none⟩ = some (.int .i64 0) := World.cell?_setCell_same _ _ _ hc
  clear hR H2 hx
  go_wp2_with fail
  refine leaves_cons (f := 47) (args := #[.pointer (some ⟨w.heap.size, 0, none⟩)]) (by simp) (by simp [go_sem]) ?_
  refine (catch_idle ⟨w.heap.size, 0, none⟩ _).mono ?_
  rintro e u' w'' ⟨rfl, rfl, rfl⟩
  simp [Leaves, settle, results, Tryd.results28, go_sem, hc2]
  exact ⟨_, H3⟩
set_option maxRecDepth 100000 in
set_option maxHeartbeats 4000000 in
theorem read_of_pan {E : List (Nat × Obj)} {w0 : World} {T : Nat} {line : ByteArray} {v : Value} {t : ByteArray} {k : Nat} {w : World} (c : Int) (H : Rr E w0 T line v [] t k w) (hEC : ∀ x ∈ E, x.1 < w.heap.size)
    (hR : Calls Tryd.prog 48 #[.pointer (some ⟨T, 0, none⟩)] (w.alloc (.cells #[.int .i64 0] 3)) fun e w' => e = .panicked (pan c) ∧ ∃ lx u M k', Rr ((w.heap.size, .cells #[.int .i64 0] 3 (0, 0)) :: E) w0 T lx u M t k' w') :
    Calls Tryd.prog 28 #[.pointer (some ⟨T, 0, none⟩)] w fun e w' => e = .returned (.int .i64 c) ∧ ∃ lx u M k', Rr E w0 T lx u M t k' w' := by
  have hmf : ∀ (fn : Fn) (first cap : Array Value) (w : World), (Instr.makeFunc fn first cap).run Tryd.prog w = .ok (.func fn first cap) w := fun _ _ _ _ => rfl
  have hws := H.bel.size
  clear H
  go_enter_defers Tryd.func28, Tryd.ntmps28
  go_wp2_with fail
  refine hR.mono ?_
  rintro e w2 ⟨rfl, lx, u, M, k', H2⟩
  have hx := H2.ext _ List.mem_cons_self
  have hc : w2.cell? ⟨w.heap.size, 0, none⟩ = some (.int .i64 0) := by simp only at hx; simp [World.cell?, hx]
  have hz : w2.frozen? ⟨w.heap.size, 0, none⟩ = false := by simp only at hx; simp [World.frozen?, hx]
  have H3 := H2.poke hws (fun x hx e => by have := hEC x hx; omega) 0 (.int .i64 c)
  have hc2 : (w2.setCell ⟨w.heap.size, 0, none⟩ (.int .i64 c)).cell? ⟨w.heap.size, 0, none⟩ = some (.int .i64 c) := World.cell?_setCell_same _ _ _ hc
  clear hR H2 hx
  unfold pan
  go_wp2_with fail
  refine leaves_cons (f := 47) (args := #[.pointer (some ⟨w.heap.size, 0, none⟩)]) (by simp) (by simp [go_sem]) ?_
  refine (catch_panicking ⟨w.heap.size, 0, none⟩ 0 c [] _ hc hz).mono ?_
  rintro e u' w'' ⟨rfl, rfl, rfl⟩
  simp [Leaves, settle, results, Tryd.results28, go_sem, hc2]
  exact ⟨_, _, _, _, H3⟩
end Go.Proofs.YtlefccgdeafinadDoor
