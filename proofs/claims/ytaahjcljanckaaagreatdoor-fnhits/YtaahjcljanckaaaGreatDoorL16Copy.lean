/- The other text copies a proxy: its lists and its policy come up in whatever order. Written by mkprx2.py. -/
import Derived.Test.YtaahjcljanckaaaGreatDoorPrxBaseJ
import Derived.Test.YtaahjcljanckaaaGreatDoorCliLawJ
import Derived.Test.YtaahjcljanckaaaGreatDoorSkCopySpecJ
namespace Go.Proofs.YtaahjcljanckaaaGreatDoor
open Go.RowKit Go.Sort
def Kp (o : Option TypeId) (w w' : World) : Prop := ∀ (k : Nat) (cs : Array Value) (e : TypeId),w.heap[k]? = some (.cells cs e (0, 0)) → o ≠ some e → w'.heap[k]? = w.heap[k]?
theorem Kp.of_below {w w' : World} (h : Below w.heap.size w w') : Kp none w w' := fun k _ _ hk _ => h.block k (Array.getElem?_eq_some_iff.1 hk).1
theorem Kp.at {w w' : World} {o : Option TypeId} (h : Kp o w w') {k : Nat} {cs : Array Value} {e : TypeId} (hc : w.heap[k]? = some (.cells cs e (0, 0))) (hne : o ≠ some e) : w'.heap[k]? = w.heap[k]? := by
 unfold Kp at h
 exact h k cs e hc hne
theorem OwnN.kp {w w' : World} {b : Nat} {t : TypeId} {v : Value} {L : List En} {o : Option TypeId} (h : OwnN w b t v L) (hk : Kp o w w') (hne : o ≠ some t) : OwnN w' b t v L := h.kept fun k hb => by
 obtain ⟨cs,hc⟩ := h.type k hb
 exact hk.at hc hne
theorem OwnFet.kp {w w' : World} {b : Nat} {t : TypeId} {v : Value} {L : List Fet} {o : Option TypeId} (h : OwnFet w b t v L) (hk : Kp o w w') (hne : o ≠ some t) : OwnFet w' b t v L := h.kept fun k hb => by
 obtain ⟨cs,hc⟩ := h.type k hb
 exact hk.at hc hne
theorem OwnCli.kp {w w' : World} {b : Nat} {t : TypeId} {v : Value} {L : List Cli} {o : Option TypeId} (h : OwnCli w b t v L) (hk : Kp o w w') (hne : o ≠ some t) : OwnCli w' b t v L := h.kept fun k hb => by
 obtain ⟨cs,hc⟩ := h.type k hb
 exact hk.at hc hne
theorem POwn.kp {w w' : World} {lo hi : Nat} {v : Value} {P : Pol} {o : Option TypeId} (h : POwn w lo hi v P) (hk : Kp o w w') (h9 : o ≠ some 9) (hs : o ≠ some 24) (h3 : o ≠ some 3) : POwn w' lo hi v P := h.keptT fun k _ _ hlt hty => by
 obtain ⟨c,hc⟩ : ∃ c,w.heap[k]? = some c := ⟨w.heap[k],Array.getElem?_eq_getElem hlt⟩
 obtain ⟨cs,e,rfl,he⟩ := hty c hc
 refine hk.at hc (fun h => ?_)
 rcases he with rfl | rfl | rfl
 ·exact h9 h
 ·exact hs h
 ·exact h3 h
end Go.Proofs.YtaahjcljanckaaaGreatDoor
