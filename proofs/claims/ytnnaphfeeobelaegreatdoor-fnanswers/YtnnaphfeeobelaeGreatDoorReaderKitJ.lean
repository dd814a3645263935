/- Texts that stand in one: ReaderKit, CatchImpl. -/
import Derived.Test.YtnnaphfeeobelaeGreatDoorWantImplJ
import Derived.Test.YtnnaphfeeobelaeGreatDoorHeadDraw
import Derived.Tactics
import Derived.Tactics2
import Derived.Defers
import Derived.Recover
import Derived.Laws.Pointers
namespace Go.Proofs.YtnnaphfeeobelaeGreatDoor
open Go.RowKit
structure Rr (E : List (Nat × Obj)) (w0 : World) (T : Nat) (line : ByteArray) (v : Value) (L : List (ByteArray × ByteArray)) (t : ByteArray) (k : Nat) (w : World) : Prop where
  bel : Below w0.heap.size w0 w
  hT : w0.heap.size ≤ T
  hE : ∀ x ∈ E, x.1 ≠ T ∧ ∀ cs fr, x.2 ≠ .cells cs 29 fr
  box : RBx w T line v t (k : Int)
  own : OwnD w w0.heap.size 29 v L
  ext : ∀ x ∈ E, w.heap[x.1]? = some x.2
theorem RBx.neD {w : World} {T : Nat} {l : ByteArray} {fv : Value} {t : ByteArray} {k : Int} (h : RBx w T l fv t k) {base : Nat} {u : Value} {L : List (ByteArray × ByteArray)} (ho : OwnD w base 29 u L) : ∀ j, u.ownBlock = some j → j ≠ T := by
  rintro j hj rfl
  rcases ho.2 with ⟨rfl, _⟩ | ⟨g, cap, cur, rfl, _, hg, _⟩
  · simp [Value.ownBlock] at hj
  · simp [Value.ownBlock] at hj
    subst hj
    have := h.symm.trans hg
    simp only [Option.some.injEq, Obj.cells.injEq] at this
    exact absurd this.2.1 (by decide)
theorem own_field {w : World} {base : Nat} {u : Value} {L : List (ByteArray × ByteArray)} (ho : OwnD w base 29 u L) : ∀ j, u.ownBlock = some j → ∃ cs fr, w.heap[j]? = some (.cells cs 29 fr) := by
  intro j hj
  rcases ho.2 with ⟨rfl, _⟩ | ⟨g, cap, cur, rfl, _, hg, _⟩
  · simp [Value.ownBlock] at hj
  · simp [Value.ownBlock] at hj
    subst hj
    exact ⟨_, _, hg⟩
theorem Rr.next {E : List (Nat × Obj)} {w0 : World} {T : Nat} {line : ByteArray} {v : Value} {L : List (ByteArray × ByteArray)} {t : ByteArray} {k : Nat} {w w' : World} (h : Rr E w0 T line v L t k w) (hb : Below w.heap.size w w') : Rr E w0 T line v L t k w' :=
  ⟨h.bel.trans (hb.mono h.bel.size), h.hT, h.hE, h.box.on hb, h.own.below hb (Nat.le_refl _), fun x hx => (hb.block _ (Array.getElem?_eq_some_iff.1 (h.ext x hx)).1).trans (h.ext x hx)⟩
theorem Rr.moved {E : List (Nat × Obj)} {w0 : World} {T : Nat} {line line' : ByteArray} {v : Value} {L : List (ByteArray × ByteArray)} {t : ByteArray} {k k' : Nat} {w w' : World} (h : Rr E w0 T line v L t k w) (hg : w.grownBy w' (some T)) (hx : RBx w' T line' v t (k' : Int)) : Rr E w0 T line' v L t k' w' :=
  ⟨h.bel.trans ⟨hg.os, hg.tape, hg.output, hg.size, fun j hj => hg.block j (Nat.lt_of_lt_of_le hj h.bel.size) (fun e => by have := h.hT; cases e; omega)⟩, h.hT, h.hE, hx,
    h.own.grown hg (fun j hj e => h.box.neD h.own j hj (by cases e; rfl)),
    fun x hx' => (hg.block _ (Array.getElem?_eq_some_iff.1 (h.ext x hx')).1 (fun e => (h.hE x hx').1 (by cases e; rfl))).trans (h.ext x hx')⟩
theorem setT_grown {w : World} (T i : Nat) (u : Value) : w.grownBy (w.setCell ⟨T, i, none⟩ u) (some T) :=
  ⟨rfl, rfl, rfl, by simp [World.setCell], fun j _ hne => Below.heap_setCell _ _ _ _ (fun e => hne (by simp only at e; rw [e]))⟩
theorem Rr.setLine {E : List (Nat × Obj)} {w0 : World} {T : Nat} {line : ByteArray} {v : Value} {L : List (ByteArray × ByteArray)} {t : ByteArray} {k : Nat} {w : World} (h : Rr E w0 T line v L t k w) (l' : ByteArray) : Rr E w0 T l' v L t k (w.setCell ⟨T, 0, none⟩ (.string l')) :=
  h.moved (setT_grown T 0 _) (h.box.setLine l')
/-- The row of fields has grown, and is stored back. -/
theorem Rr.gather {E : List (Nat × Obj)} {w0 : World} {T : Nat} {line : ByteArray} {v u : Value} {L M : List (ByteArray × ByteArray)} {t : ByteArray} {k : Nat} {w W w2 : World} (h : Rr E w0 T line v L t k w) (hW : Below w.heap.size w W) (hg : W.grownBy w2 v.ownBlock) (ho : OwnD w2 w0.heap.size 29 u M) :
    RBx w2 T line v t (k : Int) ∧ Rr E w0 T line u M t k (w2.setCell ⟨T, 1, none⟩ u) := by
  have h1 := h.next hW
  have bT : RBx w2 T line v t (k : Int) := (hg.block T h1.box.lt (fun e => h1.box.neD h1.own T e.symm rfl)).trans h1.box
  have bel : Below w0.heap.size w0 w2 := h1.bel.trans ⟨hg.os, hg.tape, hg.output, hg.size, fun j hj => hg.block j (Nat.lt_of_lt_of_le hj h1.bel.size) (fun e => by have := (h1.own.lt j e.symm).1; omega)⟩
  have ext : ∀ x ∈ E, w2.heap[x.1]? = some x.2 := fun x hx => (hg.block _ (Array.getElem?_eq_some_iff.1 (h1.ext x hx)).1 (fun e => by
    obtain ⟨cs, fr, hcs⟩ := own_field h1.own _ e.symm
    exact (h.hE x hx).2 cs fr (Option.some.inj ((h1.ext x hx).symm.trans hcs)))).trans (h1.ext x hx)
  refine ⟨bT, bel.trans ⟨rfl, rfl, rfl, by simp [World.setCell], fun j hj => Below.heap_setCell _ _ _ _ (by have := h.hT; simp only; omega)⟩, h.hT, h.hE, bT.setFlds u, ho.kept fun j hj => Below.heap_setCell _ _ _ _ (bT.neD ho j hj), fun x hx => (Below.heap_setCell _ _ _ _ (by exact (h.hE x hx).1)).trans (ext x hx)⟩
theorem Rr.at {E : List (Nat × Obj)} {w0 : World} {T : Nat} {line : ByteArray} {v : Value} {L : List (ByteArray × ByteArray)} {t : ByteArray} {k : Nat} {w : World} (h : Rr E w0 T line v L t k w) : ∃ a c, v = .slice a L.length c ∧ DAt w a L w.heap.size := h.own.at
end Go.Proofs.YtnnaphfeeobelaeGreatDoor

namespace Go.Proofs.YtnnaphfeeobelaeGreatDoor
open Go.RowKit
theorem catch_panicking (p : Addr) (x c : Int) (older : List PanicEntry) (w : World) (hc : w.cell? p = some (.int .i64 x)) (hz : w.frozen? p = false) :
    CallsD Tryz.prog 38 #[.pointer (some p)] (.panicking ({ v := .iface 77 (.int .i64 c), recovered := false } :: older)) w fun e u' w' =>
      e = .returned (.tuple #[]) ∧ u' = .panicking ({ v := .iface 77 (.int .i64 c), recovered := true } :: older) ∧ w' = w.setCell p (.int .i64 c) := by
  have hTA : ∀ wi : World, (Instr.typeAssert (.iface 77 (.int .i64 c)) 20 77 false).run Tryz.prog wi = .ok (.int .i64 c) wi := fun _ => by kernel_rfl
  refine callsD_of_wpS Tryz.func38 rfl fun c₀ cs hu => ?_
  apply wpS_seq
  apply wpS_region
  simp [wpOpsS, go_sem, recoverD, hu, Tryz.ntmps38, Exit.thenS]
  apply wpS_seq
  apply wpS_region
  simp [wpOpsS, go_sem, Exit.thenS]
  refine wpS_cond (t := true) (by simp [Act.eval, Array.replicate]) ?_
  simp only [if_true]
  apply wpS_region
  simp [wpOpsS, go_sem, hTA, hc, hz, bodyPostS, results, Tryz.results38]
theorem catch_idle (p : Addr) (w : World) :
    CallsD Tryz.prog 38 #[.pointer (some p)] .returning w fun e u' w' => e = .returned (.tuple #[]) ∧ u' = .returning ∧ w' = w := by
  refine callsD_of_wpS Tryz.func38 rfl fun c₀ cs hu => ?_
  apply wpS_seq
  apply wpS_region
  simp [wpOpsS, go_sem, recoverD, hu, Tryz.ntmps38, Exit.thenS]
  apply wpS_seq
  apply wpS_region
  simp [wpOpsS, go_sem, Exit.thenS]
  refine wpS_cond (t := false) (by simp [Act.eval, Array.replicate]) ?_
  simp only [Bool.false_eq_true, if_false]
  refine wpS_of_wp (wp_skip ?_)
  cases c₀
  simp_all [bodyPostS, results, Tryz.results38]
/-- A new variable lies beside the reader. -/
theorem Rr.push {E : List (Nat × Obj)} {w0 : World} {T : Nat} {line : ByteArray} {v : Value} {L : List (ByteArray × ByteArray)} {t : ByteArray} {k : Nat} {w : World} (h : Rr E w0 T line v L t k w) (cs : Array Value) (e : TypeId) (he : e ≠ 29) : Rr ((w.heap.size, .cells cs e (0, 0)) :: E) w0 T line v L t k (w.alloc (.cells cs e)) := by
  have h1 := h.next ((Below.refl w.heap.size w).alloc (Nat.le_refl _) (.cells cs e))
  refine ⟨h1.bel, h1.hT, fun x hx => ?_, h1.box, h1.own, fun x hx => ?_⟩
  · rcases List.mem_cons.1 hx with rfl | hx
    · exact ⟨by have := h.box.lt; simp only; omega, fun cs' fr e' => by simp only [Obj.cells.injEq] at e'; exact he e'.2.1⟩
    · exact h.hE x hx
  · rcases List.mem_cons.1 hx with rfl | hx
    · exact heap_alloc_new w _
    · exact h1.ext x hx
theorem Rr.poke {E : List (Nat × Obj)} {w0 : World} {T C : Nat} {o : Obj} {line : ByteArray} {v : Value} {L : List (ByteArray × ByteArray)} {t : ByteArray} {k : Nat} {w : World} (h : Rr ((C, o) :: E) w0 T line v L t k w) (hC : w0.heap.size ≤ C) (hCE : ∀ x ∈ E, x.1 ≠ C) (i : Nat) (u : Value) : Rr E w0 T line v L t k (w.setCell ⟨C, i, none⟩ u) := by
  have hx := h.ext (C, o) List.mem_cons_self
  have hn := h.hE (C, o) List.mem_cons_self
  refine ⟨h.bel.trans ⟨rfl, rfl, rfl, by simp [World.setCell], fun j hj => Below.heap_setCell _ _ _ _ (by simp only; omega)⟩, h.hT, fun x hx => h.hE x (List.mem_cons_of_mem _ hx), ?_, ?_, fun x hx' => (Below.heap_setCell _ _ _ _ (by exact hCE x hx')).trans (h.ext x (List.mem_cons_of_mem _ hx'))⟩
  · exact (Below.heap_setCell _ _ _ _ (by exact fun e => hn.1 e.symm)).trans h.box
  · refine h.own.kept fun j hj => Below.heap_setCell _ _ _ _ ?_
    rintro rfl
    obtain ⟨cs, fr, hcs⟩ := own_field h.own _ hj
    exact hn.2 cs fr (Option.some.inj (hx.symm.trans hcs))
set_option maxRecDepth 100000 in
set_option maxHeartbeats 4000000 in
theorem read_of_ok {E : List (Nat × Obj)} {w0 : World} {T : Nat} {line line' : ByteArray} {v : Value} {L : List (ByteArray × ByteArray)} {t : ByteArray} {k k' : Nat} {w : World} (H : Rr E w0 T line v [] t k w) (hEC : ∀ x ∈ E, x.1 < w.heap.size)
    (hR : Calls Tryz.prog 39 #[.pointer (some ⟨T, 0, none⟩)] (w.alloc (.cells #[.int .i64 0] 3)) fun e w' => e = .returned (.tuple #[]) ∧ ∃ u, Rr ((w.heap.size, .cells #[.int .i64 0] 3 (0, 0)) :: E) w0 T line' u L t k' w') :
    Calls Tryz.prog 22 #[.pointer (some ⟨T, 0, none⟩)] w fun e w' => e = .returned (.int .i64 0) ∧ ∃ u, Rr E w0 T line' u L t k' w' := by
  have hmf : ∀ (fn : Fn) (first cap : Array Value) (w : World), (Instr.makeFunc fn first cap).run Tryz.prog w = .ok (.func fn first cap) w := fun _ _ _ _ => rfl
  have hws := H.bel.size
  clear H
  go_enter_defers Tryz.func22, Tryz.ntmps22
  go_wp2_with fail
  refine hR.mono ?_
  rintro e w2 ⟨rfl, u, H2⟩
  have hx := H2.ext _ List.mem_cons_self
  have hc : w2.cell? ⟨w.heap.size, 0, none⟩ = some (.int .i64 0) := by simp only at hx; simp [World.cell?, hx]
  have hz : w2.frozen? ⟨w.heap.size, 0, none⟩ = false := by simp only at hx; simp [World.frozen?, hx]
  have H3 := H2.poke hws (fun x hx e => by have := hEC x hx; omega) 0 (.int .i64 0)
  have hc2 : (w2.setCell ⟨w.heap.size, 0, none⟩ (.int .i64 0)).cell? ⟨w.heap.size, 0, none⟩ = some (.int .i64 0) := World.cell?_setCell_same _ _ _ hc
  clear hR H2 hx
  go_wp2_with fail
  refine leaves_cons (f := 38) (args := #[.pointer (some ⟨w.heap.size, 0, none⟩)]) (by simp) (by simp [go_sem]) ?_
  refine (catch_idle ⟨w.heap.size, 0, none⟩ _).mono ?_
  rintro e u' w'' ⟨rfl, rfl, rfl⟩
  simp [Leaves, settle, results, Tryz.results22, go_sem, hc2]
  exact ⟨_, H3⟩
set_option maxRecDepth 100000 in
set_option maxHeartbeats 4000000 in
theorem read_of_pan {E : List (Nat × Obj)} {w0 : World} {T : Nat} {line : ByteArray} {v : Value} {t : ByteArray} {k : Nat} {w : World} (c : Int) (H : Rr E w0 T line v [] t k w) (hEC : ∀ x ∈ E, x.1 < w.heap.size)
    (hR : Calls Tryz.prog 39 #[.pointer (some ⟨T, 0, none⟩)] (w.alloc (.cells #[.int .i64 0] 3)) fun e w' => e = .panicked (pan c) ∧ ∃ lx u M k', Rr ((w.heap.size, .cells #[.int .i64 0] 3 (0, 0)) :: E) w0 T lx u M t k' w') :
    Calls Tryz.prog 22 #[.pointer (some ⟨T, 0, none⟩)] w fun e w' => e = .returned (.int .i64 c) ∧ ∃ lx u M k', Rr E w0 T lx u M t k' w' := by
  have hmf : ∀ (fn : Fn) (first cap : Array Value) (w : World), (Instr.makeFunc fn first cap).run Tryz.prog w = .ok (.func fn first cap) w := fun _ _ _ _ => rfl
  have hws := H.bel.size
  clear H
  go_enter_defers Tryz.func22, Tryz.ntmps22
  go_wp2_with fail
  refine hR.mono ?_
  rintro e w2 ⟨rfl, lx, u, M, k', H2⟩
  have hx := H2.ext _ List.mem_cons_self
  have hc : w2.cell? ⟨w.heap.size, 0, none⟩ = some (.int .i64 0) := by simp only at hx; simp [World.cell?, hx]
  have hz : w2.frozen? ⟨w.heap.size, 0, none⟩ = false := by simp only at hx; simp [World.frozen?, hx]
  have H3 := H2.poke hws (fun x hx e => by have := hEC x hx; omega) 0 (.int .i64 c)
  have hc2 : (w2.setCell ⟨w.heap.size, 0, none⟩ (.int .i64 c)).cell? ⟨w.heap.size, 0, none⟩ = some (.int .i64 c) := World.cell?_setCell_same _ _ _ hc
  clear hR H2 hx
  unfold pan
  go_wp2_with fail
  refine leaves_cons (f := 38) (args := #[.pointer (some ⟨w.heap.size, 0, none⟩)]) (by simp) (by simp [go_sem]) ?_
  refine (catch_panicking ⟨w.heap.size, 0, none⟩ 0 c [] _ hc hz).mono ?_
  rintro e u' w'' ⟨rfl, rfl, rfl⟩
  simp [Leaves, settle, results, Tryz.results22, go_sem, hc2]
  exact ⟨_, _, _, _, H3⟩
end Go.Proofs.YtnnaphfeeobelaeGreatDoor
