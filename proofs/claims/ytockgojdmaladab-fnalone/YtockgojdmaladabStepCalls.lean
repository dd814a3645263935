/- The small steps at the cells and at the task: the program's. -/
import Derived.Test.YtockgojdmaladabStepBase
import Derived.Test.YtockgojdmaladabNodeImpl
import Derived.Deep.RegionLaw
namespace Go.Proofs.Ytockgojdmaladab
open Go.RowKit Go.Sort

theorem SS.place {w0 : World} {S g m : Nat} {l : List Int} {t : Tk} {wi : World} (h : SS w0 S g m l t wi) {p : Nat} (hp : p < 63) :
    Calls Try.prog 51 #[.agg #[.slice (some ⟨g, 0, none⟩) m m, .int .i64 63], .int .i64 p] wi fun e w' => e = .returned (.pointer (some ⟨g, p, none⟩)) ∧ Below wi.heap.size wi w' :=
  cellAt_in wi g m 63 p h.hs h.hm hp

set_option maxRecDepth 100000 in
theorem load_any {w0 : World} {S g m : Nat} {l : List Int} {t : Tk} {wi : World} (H : SS w0 S g m l t wi) {p : Nat} (hp : p < 63) :
    Calls Try.prog 121 #[.pointer (some ⟨S, 0, none⟩), .int .i64 p] wi fun e w' => e = .returned (.int .i64 (l.getD p 0)) ∧ Below wi.heap.size wi w' := by
  have c1 := H.place hp
  obtain ⟨b0, b1⟩ := H.box.pair
  go_enter Try.func121, Try.ntmps121
  go_wp2_with fail
  refine c1.mono ?_
  rintro e w1 ⟨rfl, hb1⟩
  have c2 := cellLoad_any w1 g p _ ((H.next hb1).cell hp).1
  clear c1 H b0 b1
  go_wp2_with fail
  refine c2.mono ?_
  rintro e w2 ⟨rfl, rfl⟩
  clear c2
  go_wp2
  go_ret
  exact ⟨rfl, hb1⟩

set_option maxRecDepth 100000 in
theorem store_any {w0 : World} {S g m : Nat} {l : List Int} {t : Tk} {wi : World} (H : SS w0 S g m l t wi) {p : Nat} (hp : p < 63) (z : Int) :
    Calls Try.prog 133 #[.pointer (some ⟨S, 0, none⟩), .int .i64 p, .int .i64 z] wi fun e w' => e = .returned (.tuple #[]) ∧ SS w0 S g m (l.set p z) t w' := by
  have c1 := H.place hp
  obtain ⟨b0, b1⟩ := H.box.pair
  go_enter Try.func133, Try.ntmps133
  go_wp2_with fail
  refine c1.mono ?_
  rintro e w1 ⟨rfl, hb1⟩
  have H1 := H.next hb1
  have c2 := cellStore_any w1 g p _ z (H1.cell hp).1 (H1.cell hp).2
  have H2 : Hid (SS w0 S g m (l.set p z) t (w1.setCell ⟨g, p, none⟩ (.int .i64 z))) := H1.put hp z
  clear c1 H b0 b1 H1
  go_wp2_with fail
  refine c2.mono ?_
  rintro e w2 ⟨rfl, rfl⟩
  clear c2
  go_wp2
  go_end0
  exact ⟨rfl, H2.out⟩

set_option maxRecDepth 100000 in
theorem finish_any {w0 : World} {S g m : Nat} {l : List Int} {t : Tk} {wi : World} (H : SS w0 S g m l t wi) (z : Int) :
    Calls Try.prog 126 #[.pointer (some ⟨S, 0, none⟩), .int .i64 z] wi fun e w' => e = .returned (.tuple #[]) ∧ SS w0 S g m l { t with done := true, ans := z } w' := by
  obtain ⟨_, _, _, _, _, _, _, _, _, b9, b10⟩ := H.box.cells
  have y9 := H.box.thaw 11
  have H1 := H.setT 11 (.bool true) { t with done := true } (fun _ _ => rfl)
  obtain ⟨_, _, _, _, _, _, _, _, _, _, f10⟩ := H1.box.cells
  have y10 := H1.box.thaw 12
  have H2 : Hid (SS w0 S g m l { t with done := true, ans := z } ((wi.setCell ⟨S, 11, none⟩ (.bool true)).setCell ⟨S, 12, none⟩ (.int .i64 z))) := H1.setT 12 (.int .i64 z) { t with done := true, ans := z } (fun _ _ => rfl)
  clear H H1
  go_enter Try.func126, Try.ntmps126
  go_wp2
  go_end0
  exact ⟨rfl, H2.out⟩

set_option maxRecDepth 100000 in
theorem goOn_any {w0 : World} {S g m : Nat} {l : List Int} {t : Tk} {wi : World} (H : SS w0 S g m l t wi) (z : Int) :
    Calls Try.prog 120 #[.pointer (some ⟨S, 0, none⟩), .int .i64 z] wi fun e w' => e = .returned (.tuple #[]) ∧ SS w0 S g m l { t with cur := z, pc := 1 } w' := by
  obtain ⟨_, _, _, _, b4, _, b6, _⟩ := H.box.cells
  have y9 := H.box.thaw 8
  have H1 := H.setT 8 (.int .i64 z) { t with cur := z } (fun _ _ => rfl)
  obtain ⟨_, _, _, _, f4, _⟩ := H1.box.cells
  have y10 := H1.box.thaw 6
  have H2 : Hid (SS w0 S g m l { t with cur := z, pc := 1 } ((wi.setCell ⟨S, 8, none⟩ (.int .i64 z)).setCell ⟨S, 6, none⟩ (.int .i64 1))) := H1.setT 6 (.int .i64 1) { t with cur := z, pc := 1 } (fun _ _ => rfl)
  clear H H1
  go_enter Try.func120, Try.ntmps120
  go_wp2
  go_end0
  exact ⟨rfl, H2.out⟩

set_option maxRecDepth 100000 in
theorem again_any {w0 : World} {S g m : Nat} {l : List Int} {t : Tk} {wi : World} (H : SS w0 S g m l t wi) :
    Calls Try.prog 125 #[.pointer (some ⟨S, 0, none⟩)] wi fun e w' => e = .returned (.tuple #[]) ∧ SS w0 S g m l { t with pc := 0 } w' := by
  obtain ⟨_, _, _, _, b4, _⟩ := H.box.cells
  have y4 := H.box.thaw 6
  have H1 : Hid (SS w0 S g m l { t with pc := 0 } (wi.setCell ⟨S, 6, none⟩ (.int .i64 0))) := H.setT 6 (.int .i64 0) { t with pc := 0 } (fun _ _ => rfl)
  clear H
  go_enter Try.func125, Try.ntmps125
  go_wp2
  go_end0
  exact ⟨rfl, H1.out⟩
end Go.Proofs.Ytockgojdmaladab
