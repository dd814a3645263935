/- One step, by the table of its ways: the program's. -/
import Derived.Test.YtockgojdmaladabStepMeet
import Derived.Test.YtockgojdmaladabStepWays
import Derived.Laws.EntriesVeiled
namespace Go.Proofs.Ytockgojdmaladab
open Go.RowKit Go.Sort

set_option maxRecDepth 100000 in
set_option maxHeartbeats 4000000 in
theorem run_any {w0 : World} {S g m : Nat} {l : List Int} {t : Tk} {wi : World} (H : SS w0 S g m l t wi) (hok : t.ok = true) (hl : okC l = true) :
    Calls Try.prog 65 #[.pointer (some ⟨S, 0, none⟩)] wi fun e w' => e = .returned (.tuple #[]) ∧ SS w0 S g m (goL l t).1 (goL l t).2 w' := by
  obtain ⟨_, _, _, _, hpc, _⟩ := Tk.ok_iff.1 hok
  have hcs : t.pc = 0 ∨ t.pc = 1 ∨ t.pc = 2 ∨ t.pc = 3 ∨ t.pc = 4 ∨ t.pc = 5 ∨ t.pc = 6 := by omega
  have H7 : SS w0 S g m l t (wi.alloc (.cells #[.func (.func 92) #[.pointer (some ⟨S, 0, none⟩)] #[], .func (.func 93) #[.pointer (some ⟨S, 0, none⟩)] #[], .func (.func 94) #[.pointer (some ⟨S, 0, none⟩)] #[], .func (.func 95) #[.pointer (some ⟨S, 0, none⟩)] #[], .func (.func 96) #[.pointer (some ⟨S, 0, none⟩)] #[], .func (.func 97) #[.pointer (some ⟨S, 0, none⟩)] #[], .func (.func 98) #[.pointer (some ⟨S, 0, none⟩)] #[]] 124)) := H.next ((Below.refl _ _).alloc (Nat.le_refl _) _)
  obtain ⟨_, _, _, _, b4, _⟩ := H7.box.cells
  clear hpc H
  obtain ⟨M, hM⟩ : ∃ M, (goL l t).1 = M := ⟨_, rfl⟩
  obtain ⟨s, hs⟩ : ∃ s, (goL l t).2 = s := ⟨_, rfl⟩
  rw [hM, hs]
  rcases hcs with h | h | h | h | h | h | h
  · have C1 : Hid (Calls Try.prog 92 #[.pointer (some ⟨S, 0, none⟩)] (wi.alloc (.cells #[.func (.func 92) #[.pointer (some ⟨S, 0, none⟩)] #[], .func (.func 93) #[.pointer (some ⟨S, 0, none⟩)] #[], .func (.func 94) #[.pointer (some ⟨S, 0, none⟩)] #[], .func (.func 95) #[.pointer (some ⟨S, 0, none⟩)] #[], .func (.func 96) #[.pointer (some ⟨S, 0, none⟩)] #[], .func (.func 97) #[.pointer (some ⟨S, 0, none⟩)] #[], .func (.func 98) #[.pointer (some ⟨S, 0, none⟩)] #[]] 124)) fun e w' => e = .returned (.tuple #[]) ∧ SS w0 S g m M s w') := by
      show Calls _ _ _ _ (fun e w' => e = .returned (.tuple #[]) ∧ SS w0 S g m M s w')
      rw [← hM, ← hs]
      rw [goL0 h]; exact atHead_any H7 hl
    rw [h] at b4
    clear H7 hok hl h hM hs
    go_enter Try.func65, Try.ntmps65
    go_wp2_with fail
    refine Calls.mono C1.out ?_
    rintro e w1 ⟨rfl, H1⟩
    have H4 : Hid (SS w0 S g m M s w1) := H1
    clear H1 C1 b4
    go_wp2
    go_end0
    exact ⟨rfl, H4.out⟩
  · have C1 : Hid (Calls Try.prog 93 #[.pointer (some ⟨S, 0, none⟩)] (wi.alloc (.cells #[.func (.func 92) #[.pointer (some ⟨S, 0, none⟩)] #[], .func (.func 93) #[.pointer (some ⟨S, 0, none⟩)] #[], .func (.func 94) #[.pointer (some ⟨S, 0, none⟩)] #[], .func (.func 95) #[.pointer (some ⟨S, 0, none⟩)] #[], .func (.func 96) #[.pointer (some ⟨S, 0, none⟩)] #[], .func (.func 97) #[.pointer (some ⟨S, 0, none⟩)] #[], .func (.func 98) #[.pointer (some ⟨S, 0, none⟩)] #[]] 124)) fun e w' => e = .returned (.tuple #[]) ∧ SS w0 S g m M s w') := by
      show Calls _ _ _ _ (fun e w' => e = .returned (.tuple #[]) ∧ SS w0 S g m M s w')
      rw [← hM, ← hs]
      exact readWord_any H7 hok hl h
    rw [h] at b4
    clear H7 hok hl h hM hs
    go_enter Try.func65, Try.ntmps65
    go_wp2_with fail
    refine Calls.mono C1.out ?_
    rintro e w1 ⟨rfl, H1⟩
    have H4 : Hid (SS w0 S g m M s w1) := H1
    clear H1 C1 b4
    go_wp2
    go_end0
    exact ⟨rfl, H4.out⟩
  · have C1 : Hid (Calls Try.prog 94 #[.pointer (some ⟨S, 0, none⟩)] (wi.alloc (.cells #[.func (.func 92) #[.pointer (some ⟨S, 0, none⟩)] #[], .func (.func 93) #[.pointer (some ⟨S, 0, none⟩)] #[], .func (.func 94) #[.pointer (some ⟨S, 0, none⟩)] #[], .func (.func 95) #[.pointer (some ⟨S, 0, none⟩)] #[], .func (.func 96) #[.pointer (some ⟨S, 0, none⟩)] #[], .func (.func 97) #[.pointer (some ⟨S, 0, none⟩)] #[], .func (.func 98) #[.pointer (some ⟨S, 0, none⟩)] #[]] 124)) fun e w' => e = .returned (.tuple #[]) ∧ SS w0 S g m M s w') := by
      show Calls _ _ _ _ (fun e w' => e = .returned (.tuple #[]) ∧ SS w0 S g m M s w')
      rw [← hM, ← hs]
      rw [goL2 h]; exact pass_any H7 hok
    rw [h] at b4
    clear H7 hok hl h hM hs
    go_enter Try.func65, Try.ntmps65
    go_wp2_with fail
    refine Calls.mono C1.out ?_
    rintro e w1 ⟨rfl, H1⟩
    have H4 : Hid (SS w0 S g m M s w1) := H1
    clear H1 C1 b4
    go_wp2
    go_end0
    exact ⟨rfl, H4.out⟩
  · have C1 : Hid (Calls Try.prog 95 #[.pointer (some ⟨S, 0, none⟩)] (wi.alloc (.cells #[.func (.func 92) #[.pointer (some ⟨S, 0, none⟩)] #[], .func (.func 93) #[.pointer (some ⟨S, 0, none⟩)] #[], .func (.func 94) #[.pointer (some ⟨S, 0, none⟩)] #[], .func (.func 95) #[.pointer (some ⟨S, 0, none⟩)] #[], .func (.func 96) #[.pointer (some ⟨S, 0, none⟩)] #[], .func (.func 97) #[.pointer (some ⟨S, 0, none⟩)] #[], .func (.func 98) #[.pointer (some ⟨S, 0, none⟩)] #[]] 124)) fun e w' => e = .returned (.tuple #[]) ∧ SS w0 S g m M s w') := by
      show Calls _ _ _ _ (fun e w' => e = .returned (.tuple #[]) ∧ SS w0 S g m M s w')
      rw [← hM, ← hs]
      rw [goL3 h]; exact meet_any H7 hok hl
    rw [h] at b4
    clear H7 hok hl h hM hs
    go_enter Try.func65, Try.ntmps65
    go_wp2_with fail
    refine Calls.mono C1.out ?_
    rintro e w1 ⟨rfl, H1⟩
    have H4 : Hid (SS w0 S g m M s w1) := H1
    clear H1 C1 b4
    go_wp2
    go_end0
    exact ⟨rfl, H4.out⟩
  · have C1 : Hid (Calls Try.prog 96 #[.pointer (some ⟨S, 0, none⟩)] (wi.alloc (.cells #[.func (.func 92) #[.pointer (some ⟨S, 0, none⟩)] #[], .func (.func 93) #[.pointer (some ⟨S, 0, none⟩)] #[], .func (.func 94) #[.pointer (some ⟨S, 0, none⟩)] #[], .func (.func 95) #[.pointer (some ⟨S, 0, none⟩)] #[], .func (.func 96) #[.pointer (some ⟨S, 0, none⟩)] #[], .func (.func 97) #[.pointer (some ⟨S, 0, none⟩)] #[], .func (.func 98) #[.pointer (some ⟨S, 0, none⟩)] #[]] 124)) fun e w' => e = .returned (.tuple #[]) ∧ SS w0 S g m M s w') := by
      show Calls _ _ _ _ (fun e w' => e = .returned (.tuple #[]) ∧ SS w0 S g m M s w')
      rw [← hM, ← hs]
      rw [goL4 h rfl]; exact hang_any H7 hok
    rw [h] at b4
    clear H7 hok hl h hM hs
    go_enter Try.func65, Try.ntmps65
    go_wp2_with fail
    refine Calls.mono C1.out ?_
    rintro e w1 ⟨rfl, H1⟩
    have H4 : Hid (SS w0 S g m M s w1) := H1
    clear H1 C1 b4
    go_wp2
    go_end0
    exact ⟨rfl, H4.out⟩
  · have C1 : Hid (Calls Try.prog 97 #[.pointer (some ⟨S, 0, none⟩)] (wi.alloc (.cells #[.func (.func 92) #[.pointer (some ⟨S, 0, none⟩)] #[], .func (.func 93) #[.pointer (some ⟨S, 0, none⟩)] #[], .func (.func 94) #[.pointer (some ⟨S, 0, none⟩)] #[], .func (.func 95) #[.pointer (some ⟨S, 0, none⟩)] #[], .func (.func 96) #[.pointer (some ⟨S, 0, none⟩)] #[], .func (.func 97) #[.pointer (some ⟨S, 0, none⟩)] #[], .func (.func 98) #[.pointer (some ⟨S, 0, none⟩)] #[]] 124)) fun e w' => e = .returned (.tuple #[]) ∧ SS w0 S g m M s w') := by
      show Calls _ _ _ _ (fun e w' => e = .returned (.tuple #[]) ∧ SS w0 S g m M s w')
      rw [← hM, ← hs]
      rw [goL5 h rfl]; exact markGone_any H7 hok
    rw [h] at b4
    clear H7 hok hl h hM hs
    go_enter Try.func65, Try.ntmps65
    go_wp2_with fail
    refine Calls.mono C1.out ?_
    rintro e w1 ⟨rfl, H1⟩
    have H4 : Hid (SS w0 S g m M s w1) := H1
    clear H1 C1 b4
    go_wp2
    go_end0
    exact ⟨rfl, H4.out⟩
  · have C1 : Hid (Calls Try.prog 98 #[.pointer (some ⟨S, 0, none⟩)] (wi.alloc (.cells #[.func (.func 92) #[.pointer (some ⟨S, 0, none⟩)] #[], .func (.func 93) #[.pointer (some ⟨S, 0, none⟩)] #[], .func (.func 94) #[.pointer (some ⟨S, 0, none⟩)] #[], .func (.func 95) #[.pointer (some ⟨S, 0, none⟩)] #[], .func (.func 96) #[.pointer (some ⟨S, 0, none⟩)] #[], .func (.func 97) #[.pointer (some ⟨S, 0, none⟩)] #[], .func (.func 98) #[.pointer (some ⟨S, 0, none⟩)] #[]] 124)) fun e w' => e = .returned (.tuple #[]) ∧ SS w0 S g m M s w') := by
      show Calls _ _ _ _ (fun e w' => e = .returned (.tuple #[]) ∧ SS w0 S g m M s w')
      rw [← hM, ← hs]
      rw [goL6 h rfl]; exact lift_any H7 hok
    rw [h] at b4
    clear H7 hok hl h hM hs
    go_enter Try.func65, Try.ntmps65
    go_wp2_with fail
    refine Calls.mono C1.out ?_
    rintro e w1 ⟨rfl, H1⟩
    have H4 : Hid (SS w0 S g m M s w1) := H1
    clear H1 C1 b4
    go_wp2
    go_end0
    exact ⟨rfl, H4.out⟩
end Go.Proofs.Ytockgojdmaladab
