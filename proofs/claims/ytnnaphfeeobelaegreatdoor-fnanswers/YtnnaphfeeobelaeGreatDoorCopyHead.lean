/- The program copies a head's fields. -/
import Derived.Test.YtnnaphfeeobelaeGreatDoorHeadDraw
import Derived.Test.YtnnaphfeeobelaeGreatDoorHeadPlainJ
import Derived.Test.YtnnaphfeeobelaeGreatDoorShelf
namespace Go.Proofs.YtnnaphfeeobelaeGreatDoor
open Go.RowKit Go.Sort
theorem cloneR_any (s : ByteArray) (w : World) (hs : s.size ≤ 281474976710656) :
    Calls Tryz.prog 40 #[.string s] w fun e w' => e = .returned (.string s) ∧ Below w.heap.size w w' := by
  go_enter Tryz.func40, Tryz.ntmps40
  go_wp2_with (go_at_call 56; refine (Tryz.stringslite_Clone s _ hs).mono ?_; rintro e w' ⟨rfl, hb⟩)
  go_ret
  exact ⟨rfl, hb⟩
theorem gather_below {w W w2 : World} {base : Nat} {v : Value} {L : List (ByteArray × ByteArray)} (hw : Below base w W) (hB : base ≤ W.heap.size) (hg : W.grownBy w2 v.ownBlock) (ho : OwnD W base 29 v L) : Below base w w2 :=
  hw.trans ⟨hg.os, hg.tape, hg.output, hg.size, fun j hj => hg.block j (by omega) (fun e => by have := (ho.lt j e.symm).1; omega)⟩
set_option maxRecDepth 100000 in
set_option maxHeartbeats 8000000 in
theorem implCopied_any (w : World) (a : Option Addr) (c : Nat) (line : ByteArray) (L : List (ByteArray × ByteArray)) (hA : DAt w a L w.heap.size) (hz : HdSz line L) :
    Calls Tryz.prog 41 #[.slice a L.length c] w fun e w' => ∃ v, e = .returned v ∧ OwnD w' w.heap.size 29 v L ∧ Below w.heap.size w w' := by
  have hz' := hz
  unfold HdSz at hz'
  have hO0 : OwnD (w.alloc (.cells #[] 29)) w.heap.size 29 (.slice (some ⟨w.heap.size, 0, none⟩) 0 0) [] := World.ownsRow_lit (base := w.heap.size) (e := 29) (size := 2) w #[] 0 (Nat.le_refl _) (by simp [maxLen]) rfl
  have hb0 : Below w.heap.size w (w.alloc (.cells #[] 29)) := (Below.refl _ _).alloc (Nat.le_refl _) _
  have HO0 : Hid _ := hO0
  have HB0 : Hid _ := hb0
  have hLb : L.length ≤ 1048576 := by omega
  clear hO0 hb0 hz'
  go_enter Tryz.func41, Tryz.ntmps41
  go_wp2_with fail
  go_loopw [3, 5, 9] (fun s _ i wr => Box (∃ (k : Nat) (v : Value) (M : List (ByteArray × ByteArray)), k ≤ L.length ∧ i = .int .i64 k ∧ s = v ∧ Hid (L.take k = M) ∧ Hid (OwnD wr w.heap.size 29 v M) ∧ Hid (Below w.heap.size w wr)))
    (fun _ _ i _ => L.length - (intOf i).toNat)
  case atStart => exact ⟨⟨0, _, [], by omega, rfl, rfl, List.take_zero, HO0.out, HB0.out⟩⟩
  case round =>
    obtain ⟨k, v, M, hk, rfl, rfl, HM, HO, HB⟩ := hrel.out
    clear hrel HO0 HB0
    by_cases hlt : k < L.length
    · obtain ⟨g, off, hga, _, q0, q1⟩ := (hA.on HB.out) k hlt
      have hsz := hz.at k hlt
      obtain ⟨f, hf⟩ : ∃ f, L[k] = f := ⟨_, rfl⟩
      rw [hf] at q0 q1 hsz
      have HN : Hid (L.take (k + 1) = M ++ [f]) := by show _ = _; rw [List.take_succ_eq_append_getElem hlt, hf, HM.out]
      obtain ⟨aV, cV, hv, _⟩ := HO.out.at
      have hlk : M.length ≤ 1048576 := by rw [← HM.out, List.length_take]; omega
      obtain ⟨wx, hwx⟩ : ∃ x, wr.alloc (.cells #[.string f.1, .string f.2] 29) = x := ⟨_, rfl⟩
      have hbx : Below wr.heap.size wr wx := by rw [← hwx]; exact (Below.refl _ _).alloc (Nat.le_refl _) _
      have hX : HBx wx wr.heap.size 29 (.string f.1) (.string f.2) := by rw [← hwx]; exact HBx.new _ _ _ _
      have HX : Hid (wr.alloc (.cells #[.string f.1, .string f.2] 29) = wx) := hwx
      have hOx := HO.out.below hbx (Nat.le_refl _)
      have hBx : Below w.heap.size w wx := HB.out.trans (hbx.mono HB.out.size)
      have hdr : Below wx.heap.size wx wx.drew := ⟨rfl, rfl, rfl, Nat.le_refl _, fun _ _ => rfl⟩
      have hf1 : f.1.size ≤ 281474976710656 := by omega
      have hf2 : f.2.size ≤ 281474976710656 := by omega
      have HC : Hid (∀ wi, Calls Tryz.prog 40 #[.string f.1] wi fun e w' => e = .returned (.string f.1) ∧ Below wi.heap.size wi w') := fun wi => cloneR_any f.1 wi hf1
      have HC2 : Hid (∀ wi, Calls Tryz.prog 40 #[.string f.2] wi fun e w' => e = .returned (.string f.2) ∧ Below wi.heap.size wi w') := fun wi => cloneR_any f.2 wi hf2
      subst hga hv
      have hi1 : (0 : Int) ≤ (k : Int) := by omega
      have hi2 : (k : Int) < (L.length : Int) := by omega
      have HK : Hid (k < L.length) := hlt
      have hkb : k ≤ 1048576 := by omega
      obtain ⟨x0, x1⟩ := hX.cells
      have hws := hBx.size
      clear hf hsz hwx hlt hk hf1 hf2 hz
      go_wp2_with fail
      rw [HX.out]
      go_region_law (first
        | (go_simp; go_at_call 40; first
            | (refine (HC2.out _).mono ?_; rintro e w7 ⟨rfl, hb7⟩; have hD7 := hC7.trans (hb7.mono hC7.size); have hX7 := hX.on hD7; obtain ⟨z0, z1⟩ := hX7.cells; have hO7 := hOx.below hD7 (Nat.le_refl _); have hB7 := hBx.trans (hD7.mono hBx.size); have hs7 := hB7.size)
            | (refine (HC.out _).mono ?_; rintro e w6 ⟨rfl, hb6⟩; have hC7 := hdr.trans (hb6.mono hdr.size); have hX6 := hX.on hC7; obtain ⟨u0, u1⟩ := hX6.cells))
        | (refine step_snocD (by rfl) _ _ 30 (by rfl) w.heap.size 29 Tryz.underlying30 Tryz.infoFd _ M (by rfl) (by exact hO7.alloc _) w7.heap.size f (0, 0) (by rfl) (by exact heap_alloc_new w7 _) (by omega) (by simp; omega) ?_; intro g2 cap2 w8 hown2 hgr2))
      all_goals (
        have hB8 := gather_below (hB7.alloc hB7.size _) (by simp; omega) hgr2 (hO7.alloc _)
        have HO8 : Hid _ := hown2
        have HB8 : Hid _ := hB8
        clear hown2 hgr2 hB8 hX hX7 hX6 hOx hBx hO7 hB7 x0 x1 z0 z1 u0 u1 hb6 hb7 hC7 hD7 hdr q0 q1
        go_wp2_with fail
        refine ⟨?_, ?_⟩
        · exact ⟨⟨k + 1, _, _, HK.out, by go_num, rfl, HN, HO8.out, HB8.out⟩⟩
        · have := HK.out; simp [intOf]; omega)
    · have hi2 : ¬ (k : Int) < (L.length : Int) := by omega
      have hke : k = L.length := by omega
      have hO := HO.out
      rw [← HM.out, hke, List.take_length] at hO
      have HO2 : Hid _ := hO
      clear hO hke hz
      go_wp2_with fail
      go_ret
      exact ⟨_, rfl, HO2.out, HB.out⟩
end Go.Proofs.YtnnaphfeeobelaeGreatDoor
