/- A held stream whose readers are others. -/
import Derived.Test.YtmpnjijbahjinafHeldKit
namespace Go.Proofs.Ytmpnjijbahjinaf
open Go.RowKit Go.Sort

theorem Held.rdTo {w0 : World} {B : Nat} {l : Int} {S : Stm} {v v' : Value} {w w' : World} {L : List (Int × Int)} (h : Held w0 B l S v w) (ht : Tch (fun k => v.ownBlock = some k) w w') (ho : OwnP w' w0.heap.size 38 v' L) :
    HBox w' B l S.st S.text v ∧ Held w0 B l ⟨S.st, S.text, L⟩ v' (w'.setCell ⟨B, 4, none⟩ v') ∧ Tch (fun k => k = B ∨ v.ownBlock = some k) w (w'.setCell ⟨B, 4, none⟩ v') := by
  have hbox' : HBox w' B l S.st S.text v := h.box.kept (ht.2 B h.box.lt (fun e => ownP_notHeld h.own h.box B e rfl))
  exact ⟨hbox', ⟨(Tch.below h.below ht h.below.size (fun k e => (h.own.lt k e).1)).setCell h.hB _, h.hB, hbox'.setR v', ho.kept fun k hk => Below.heap_setCell _ _ _ _ (show k ≠ B from ownP_notHeld ho hbox' k hk)⟩, (ht.weak (fun k e => Or.inr e)).trans (tch_set _ _ _ _ (Or.inl rfl))⟩
end Go.Proofs.Ytmpnjijbahjinaf
