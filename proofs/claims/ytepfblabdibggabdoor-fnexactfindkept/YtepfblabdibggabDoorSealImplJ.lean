/- Texts that stand in one: SealImpl, UnframeRead. -/
import Derived.Test.YtepfblabdibggabDoorSealPlainJ
import Derived.Test.YtepfblabdibggabDoorBaseJ
import Derived.Test.YtepfblabdibggabDoorShelf
import Derived.Deep.RegionHeld3
import Derived.Deep.RegionLaw
import Derived.Lib.QuietBelow
import Derived.BigQuiet
import Derived.Test.YtepfblabdibggabDoorReadVar
namespace Go.Proofs.YtepfblabdibggabDoor
open Go.RowKit Go.Sort

theorem implSumOf_s (s : ByteArray) (w : World) (hs : s.size ≤ 1048580) (ht : Tab w) :
    Calls Tryd.prog 77 #[.string s] w fun e w' => e = .returned (.int .u32 (sumOf s : Nat)) ∧ w = w' := implSumOf_any s w hs ht


theorem cloneOf_any (s : ByteArray) (w : World) (hs : s.size ≤ 281474976710656) :
    Calls Tryd.prog 67 #[.string s] w fun e w' => e = .returned (.string s) ∧ Below w.heap.size w w' := by
  go_enter Tryd.func67, Tryd.ntmps67
  go_wp2_with (go_at_call 81; refine (Tryd.stringslite_Clone s _ hs).mono ?_; rintro e w' ⟨rfl, hb⟩)
  go_ret
  exact ⟨rfl, hb⟩

end Go.Proofs.YtepfblabdibggabDoor

namespace Go.Proofs.YtepfblabdibggabDoor
open Go.RowKit Go.Sort

set_option maxHeartbeats 2000000 in
set_option maxRecDepth 100000 in
theorem readFrame_any (s : ByteArray) (a : Nat) (w : World) (hs : s.size ≤ 20000) (ha : a ≤ s.size) (ht : Tab w) :
    Calls Tryd.prog 83 #[.string s, .int .i64 (a : Int)] w fun e w' => e = .returned (.tuple #[.string (ufT (uf1 s a)), .int .i64 (ufB (uf1 s a) : Nat), .bool (uf1 s a).isSome]) ∧ Below w.heap.size w w' := by
  obtain ⟨n, e, b, hn, he, hb, h3⟩ := uf_cases ha
  have c1 := implReadVar_any s (a : Int) w (by omega)
  rw [hn, he, hb] at c1
  clear hn he hb
  rcases h3 with ⟨rfl, rfl, rfl, hu⟩ | ⟨rfl, h1, h2, h4, hr⟩
  · rw [hu]
    clear hu
    go_enter Tryd.func83, Tryd.ntmps83
    go_wp2_with (go_at_call 85; refine c1.mono ?_; rintro e w' ⟨rfl, rfl⟩)
    go_ret3
    exact ⟨rfl, Below.refl _ _⟩
  · by_cases hn1 : 1 ≤ n
    · by_cases hn2 : n ≤ 9000
      · by_cases hn3 : e + 4 + n ≤ s.size
        · have HY : Hid (sumHolds s n e = true → uf1 s a = some (s.extract (e + 4) (e + 4 + n), e + 4 + n)) := fun h => uf1_yes hr ⟨hn1, hn2, hn3, h⟩
          have HN : Hid (sumHolds s n e = false → uf1 s a = none) := fun h => uf1_no hr (fun hh => by rw [h] at hh; simp at hh)
          clear hr
          have hsz : (s.extract (e + 4) (e + 4 + n)).size = n := by simp; omega
          have hsz2 : (s.extract e (e + 4)).size = 4 := by simp; omega
          have cS : ∀ d os, Calls Tryd.prog 77 #[.string (s.extract (e + 4) (e + 4 + n))] (grow (redrawn w d) os) fun e' w'' => e' = .returned (.int .u32 (sumOf (s.extract (e + 4) (e + 4 + n)) : Nat)) ∧ ∃ p : Regrown, w'' = grow (redrawn w p.d) p.os := fun d os => Calls.regrown_of ((implSumOf_s _ _ (by omega) (ht.below (below_regrown w d os) (Nat.le_refl _))).mono fun _ _ ⟨he, hw⟩ => ⟨he, hw ▸ Below.refl _ _⟩)
          have cB : ∀ d os, Calls Tryd.prog 78 #[.int .u32 (sumOf (s.extract (e + 4) (e + 4 + n)) : Nat)] (grow (redrawn w d) os) fun e' w'' => e' = .returned (.string ⟨(four (sumOf (s.extract (e + 4) (e + 4 + n)))).toArray⟩) ∧ ∃ p : Regrown, w'' = grow (redrawn w p.d) p.os := fun d os => Calls.regrown_of (bytes_any _ _ (sumOf_lt _))
          have cC := fun w => cloneOf_any (s.extract (e + 4) (e + 4 + n)) w (by omega)
          have hsl1 : ∀ w, (Instr.slice 9 (.string s) (some (.int .i64 ((e : Int) + 4))) (some (.int .i64 ((e : Int) + 4 + (n : Int)))) none).run Tryd.prog w = .ok (.string (s.extract (e + 4) (e + 4 + n))) w := fun w => by
            rw [run_slice_string (P := Tryd.prog) (w := w) 9 s .i64 .i64 ((e : Int) + 4) ((e : Int) + 4 + (n : Int)) Tryd.underlying9 (by omega) (by omega) (by omega)]
            rw [show ((e : Int) + 4).toNat = e + 4 by omega, show ((e : Int) + 4 + (n : Int)).toNat = e + 4 + n by omega]
          have hsl2 : ∀ w, (Instr.slice 9 (.string s) (some (.int .i64 (e : Int))) (some (.int .i64 ((e : Int) + 4))) none).run Tryd.prog w = .ok (.string (s.extract e (e + 4))) w := fun w => by
            rw [run_slice_string (P := Tryd.prog) (w := w) 9 s .i64 .i64 (e : Int) ((e : Int) + 4) Tryd.underlying9 (by omega) (by omega) (by omega)]
            rw [show ((e : Int) + 4).toNat = e + 4 by omega, show ((e : Int)).toNat = e by omega]
          have HS : Hid (sumHolds s n e = (four (sumOf (s.extract (e + 4) (e + 4 + n))) == (s.extract e (e + 4)).data.toList)) := rfl
          generalize s.extract (e + 4) (e + 4 + n) = x at HS HY hsz cS cB cC hsl1
          generalize s.extract e (e + 4) = y at HS hsz2 hsl2
          go_enter Tryd.func83, Tryd.ntmps83
          go_wp2_with (go_at_call 85; refine c1.mono ?_; rintro e w' ⟨rfl, rfl⟩)
          refine wp_region_quiet_below (by kernel_rfl) (by kernel_rfl) ?_
          repeat (first | go_big_quiet_step (first | exact cS _ _ | exact cB _ _) | quiet_step (first | exact cS _ _ | exact cB _ _))
          refine wpQuiet_nil ?_
          intro _ hw'
          obtain ⟨⟨dq, osq⟩, hw''⟩ := hw'
          subst hw''
          have HS2 : Hid (sumHolds s n e = (four (sumOf x) == y.toList)) := by show _ = _; rw [ByteArray.toList_eq]; exact HS.out
          clear HS
          cases hq : (four (sumOf x) == y.toList)
          · go_wp2
            go_ret3
            rw [HN.out (HS2.out.trans hq)]
            exact ⟨rfl, below_regrown _ _ _⟩
          · go_wp2_with (go_at_call 67; refine (cC _).mono ?_; rintro e w2 ⟨rfl, hb2⟩)
            go_ret3
            rw [HY.out (HS2.out.trans hq)]
            exact ⟨by simp [ufT, ufB], (below_regrown w dq osq).trans (hb2.mono (below_regrown w dq osq).size)⟩
        · rw [uf1_no hr (by omega)]
          clear hr
          go_enter Tryd.func83, Tryd.ntmps83
          go_wp2_with (go_at_call 85; refine c1.mono ?_; rintro e w' ⟨rfl, rfl⟩)
          go_ret3
          exact ⟨rfl, Below.refl _ _⟩
      · rw [uf1_no hr (by omega)]
        clear hr
        go_enter Tryd.func83, Tryd.ntmps83
        go_wp2_with (go_at_call 85; refine c1.mono ?_; rintro e w' ⟨rfl, rfl⟩)
        go_ret3
        exact ⟨rfl, Below.refl _ _⟩
    · rw [uf1_no hr (by omega)]
      clear hr
      go_enter Tryd.func83, Tryd.ntmps83
      go_wp2_with (go_at_call 85; refine c1.mono ?_; rintro e w' ⟨rfl, rfl⟩)
      go_ret3
      exact ⟨rfl, Below.refl _ _⟩
end Go.Proofs.YtepfblabdibggabDoor
