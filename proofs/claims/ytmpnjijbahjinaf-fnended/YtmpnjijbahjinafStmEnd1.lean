/- The program's StreamEnd, what is done to the held stream. -/
import Derived.Test.YtmpnjijbahjinafHeldRight
import Derived.Test.YtmpnjijbahjinafHoldImpl
import Derived.BigQuiet
namespace Go.Proofs.Ytmpnjijbahjinaf
open Go.RowKit Go.Sort

theorem end1_eg : ∀ args w, (callFunc 55 args).run Try.prog w = .ok (.enter 55 args) w := enters_of Try.func55 (by kernel_rfl) rfl
set_option maxRecDepth 100000 in
set_option maxHeartbeats 4000000 in
theorem end1_any (w0 : World) (B T : Nat) (S : Stm) (v : Value) (br : Bool) (W : World) (H : Held w0 B 1 S v W) (hT : W.heap[T]? = some (.cells #[.bool br] 4 (0, 0))) (hok : okM S = true) (_ : S.text.size ≤ 1048576) (_ : S.rd.length ≤ 1048576) :
    Calls Try.prog 55 (#[.pointer (some ⟨B, 2, none⟩)] ++ #[.pointer (some ⟨T, 0, none⟩)]) W fun e w' => ∃ ok S' v', e = .returned (.bool ok) ∧ Held w0 B 1 S' v' w' ∧ Tch (fun k => k = B ∨ v.ownBlock = some k) W w' ∧ (S', ok) = endM S br := by
  show Calls _ _ #[.pointer (some ⟨B, 2, none⟩), .pointer (some ⟨T, 0, none⟩)] _ _
  have hTB : T ≠ B := fun e => by
    have hb := H.box
    unfold HBox at hb
    rw [e, hb] at hT
    simp only [Option.some.injEq, Obj.cells.injEq] at hT
    exact absurd hT.2.1 (by decide)
  obtain ⟨b2, b3, b4⟩ := H.box.cells
  have z2 := H.box.thaw 2
  have p0 : W.cell? ⟨T, 0, none⟩ = some (.bool br) := by rw [cell_of_row W T 0 _ _ (0, 0) hT]; rfl
  by_cases hs : S.st = 1
  · rw [hs] at b2
    have hA := H.stTo 2
    have x2 := hA.box.cells.1
    have y2 := hA.box.thaw 2
    have p1 : (W.setCell ⟨B, 2, none⟩ (.int .i64 2)).cell? ⟨T, 0, none⟩ = some (.bool br) := (World.cell?_setCell_other _ _ _ _ (fun e => hTB (congrArg Addr.block e).symm)).trans p0
    cases br with
    | false =>
      have HP : Hid (∃ ok S' v', Ending.returned (.bool true) = .returned (.bool ok) ∧ Held w0 B 1 S' v' (W.setCell ⟨B, 2, none⟩ (.int .i64 2)) ∧ Tch (fun k => k = B ∨ v.ownBlock = some k) W (W.setCell ⟨B, 2, none⟩ (.int .i64 2)) ∧ (S', ok) = endM S false) := ⟨true, _, v, rfl, hA, tch_set _ _ _ _ (Or.inl rfl), by unfold endM; rw [hok]; simp [hs]⟩
      obtain ⟨G, hG⟩ : ∃ G : Ending → World → Prop, G = fun e w' => ∃ ok S' v', e = .returned (.bool ok) ∧ Held w0 B 1 S' v' w' ∧ Tch (fun k => k = B ∨ v.ownBlock = some k) W w' ∧ (S', ok) = endM S false := ⟨_, rfl⟩
      rw [← hG]
      have HQ : Hid (G (.returned (.bool true)) (W.setCell ⟨B, 2, none⟩ (.int .i64 2))) := by rw [hG]; exact HP.out
      clear HP hG hA H hT
      go_enter Try.func55, Try.ntmps55
      go_wp2_with fail
      exact HQ.out
    | true =>
      have hA2 := hA.stTo 3
      have HP : Hid (∃ ok S' v', Ending.returned (.bool true) = .returned (.bool ok) ∧ Held w0 B 1 S' v' ((W.setCell ⟨B, 2, none⟩ (.int .i64 2)).setCell ⟨B, 2, none⟩ (.int .i64 3)) ∧ Tch (fun k => k = B ∨ v.ownBlock = some k) W ((W.setCell ⟨B, 2, none⟩ (.int .i64 2)).setCell ⟨B, 2, none⟩ (.int .i64 3)) ∧ (S', ok) = endM S true) := ⟨true, _, v, rfl, hA2, (tch_set _ _ _ _ (Or.inl rfl)).trans (tch_set _ _ _ _ (Or.inl rfl)), by unfold endM; rw [hok]; simp [hs]⟩
      obtain ⟨G, hG⟩ : ∃ G : Ending → World → Prop, G = fun e w' => ∃ ok S' v', e = .returned (.bool ok) ∧ Held w0 B 1 S' v' w' ∧ Tch (fun k => k = B ∨ v.ownBlock = some k) W w' ∧ (S', ok) = endM S true := ⟨_, rfl⟩
      rw [← hG]
      have HQ : Hid (G (.returned (.bool true)) ((W.setCell ⟨B, 2, none⟩ (.int .i64 2)).setCell ⟨B, 2, none⟩ (.int .i64 3))) := by rw [hG]; exact HP.out
      clear HP hG hA hA2 H hT
      go_enter Try.func55, Try.ntmps55
      go_wp2_with fail
      exact HQ.out
  · have hs' : (S.st != 1) = true := by simp [hs]
    obtain ⟨G, hG⟩ : ∃ G : Ending → World → Prop, G = fun e w' => ∃ ok S' v', e = .returned (.bool ok) ∧ Held w0 B 1 S' v' w' ∧ Tch (fun k => k = B ∨ v.ownBlock = some k) W w' ∧ (S', ok) = endM S br := ⟨_, rfl⟩
    rw [← hG]
    have HQ : Hid (G (.returned (.bool false)) W) := by rw [hG]; exact ⟨false, S, v, rfl, H, Tch.of_below (Below.refl _ _), by unfold endM; rw [hok]; simp [hs]⟩
    clear hG H hT
    go_enter Try.func55, Try.ntmps55
    go_wp2_with fail
    exact HQ.out
end Go.Proofs.Ytmpnjijbahjinaf
