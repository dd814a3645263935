/- What the law on drawn acts has at hand. -/
import Derived.Test.YtiddmmmgmoofnaaCutDraw
import Derived.Test.YtiddmmmgmoofnaaDskKit
namespace Go.Proofs.Ytiddmmmgmoofnaa
open Go.RowKit Go.Sort

theorem Sm.wgt : ∀ {L : List Fil}, Sm L → wgt L ≤ L.length * 20010
  | [], _ => by simp [Go.Proofs.Ytiddmmmgmoofnaa.wgt]
  | f :: L, h => by
    have ih := Sm.wgt (L := L) fun g hg => h g (List.mem_cons_of_mem _ hg)
    have h1 := h f (List.mem_cons_self ..)
    simp only [Go.Proofs.Ytiddmmmgmoofnaa.wgt, List.length_cons]
    omega
theorem small_awg : ∀ {As : List Ac}, (∀ A ∈ As, A.small) → awg As ≤ As.length * 27
  | [], _ => by simp [awg]
  | A :: As, h => by
    have ih := small_awg (As := As) fun g hg => h g (List.mem_cons_of_mem _ hg)
    have h1 := h A (List.mem_cons_self ..)
    unfold Ac.small at h1
    simp only [awg, Ac.wg, List.length_cons]
    omega
theorem small_sized {As : List Ac} (h : ∀ A ∈ As, A.small) : SizedA As := by
  intro j hj
  have h1 := h _ (List.getElem_mem hj)
  unfold Ac.small at h1
  unfold Ac.Sized maxLen
  omega

/-- What the law has at hand all the while: the disk in its variable, the acts, what is left. -/
structure Hn (w0 : World) (D : Nat) (a : Option Addr) (m c : Nat) (L : List Fil) (b : Option Addr) (As : List Ac) (x : Option Addr) (l : List Int) (wi : World) : Prop where
  d : Dsk D a m c L wi
  acts : AAt wi b As wi.heap.size
  ints : IAt wi x l wi.heap.size
  bel : Below w0.heap.size w0 wi
theorem Hn.next {w0 : World} {D : Nat} {a : Option Addr} {m c : Nat} {L : List Fil} {b : Option Addr} {As : List Ac} {x : Option Addr} {l : List Int} {wi wj : World} (h : Hn w0 D a m c L b As x l wi) (hb : Below wi.heap.size wi wj) : Hn w0 D a m c L b As x l wj :=
  ⟨h.d.next hb, h.acts.on hb, h.ints.on hb, bthen h.bel hb⟩
end Go.Proofs.Ytiddmmmgmoofnaa
