/- The program's FieldOf. -/
import Derived.Test.YtnnaphfeeobeladDoorTargetPlainJ
import Derived.Test.YtnnaphfeeobeladDoorShelf
namespace Go.Proofs.YtnnaphfeeobeladDoor
open Go.RowKit Go.Sort
theorem cloneH_any (s : ByteArray) (w : World) (hs : s.size ≤ 281474976710656) :
    Calls Tryd.prog 81 #[.string s] w fun e w' => e = .returned (.string s) ∧ Below w.heap.size w w' := by
  go_enter Tryd.func81, Tryd.ntmps81
  go_wp2_with (go_at_call 104; refine (Tryd.stringslite_Clone s _ hs).mono ?_; rintro e w' ⟨rfl, hb⟩)
  go_ret
  exact ⟨rfl, hb⟩
theorem KBz_cells {w : World} {T : Nat} {e : TypeId} {l v : Value} (h : w.heap[T]? = some (.cells #[l, v] e (0, 0))) : w.cell? ⟨T, 0, none⟩ = some l ∧ w.cell? ⟨T, 1, none⟩ = some v :=
  ⟨by simp [World.cell?, h], by simp [World.cell?, h]⟩
set_option maxRecDepth 100000 in
set_option maxHeartbeats 4000000 in
theorem implValue_any (w : World) (a : Option Addr) (c : Nat) (line : ByteArray) (L : List (ByteArray × ByteArray)) (name : ByteArray) (hA : DAt w a L w.heap.size) (hz : HdSz line L) :
    Calls Tryd.prog 56 #[.slice a L.length c, .string name] w fun e w' => e = .returned (.tuple #[.string (fieldOfS L name).1, .bool (fieldOfS L name).2]) ∧ Below w.heap.size w w' := by
  have hz' := hz
  unfold HdSz at hz'
  obtain ⟨R, hR⟩ : ∃ R, fieldOfS L name = R := ⟨_, rfl⟩
  rw [hR]
  have HR : Hid (fieldOfS L name = R) := hR
  clear hR
  go_enter Tryd.func56, Tryd.ntmps56
  go_wp2_with fail
  go_loopw [7, 10] (fun _ i wr => Box (∃ (k : Nat), k ≤ L.length ∧ i = .int .i64 k ∧ Hid (∀ q (hq : q < L.length), q < k → eqT L[q].1 name = false) ∧ Below w.heap.size w wr))
    (fun _ i _ => L.length - (intOf i).toNat)
  case atStart => exact ⟨⟨0, by omega, rfl, fun q _ hq => absurd hq (Nat.not_lt_zero _), Below.refl _ _⟩⟩
  case round =>
    obtain ⟨k, hk, rfl, HN, hbr⟩ := hrel.out
    clear hrel
    by_cases hlt : k < L.length
    · obtain ⟨g, off, hga, _, q0, q1⟩ := (hA.on hbr) k hlt
      have hsz := hz.at k hlt
      obtain ⟨f, hf⟩ : ∃ f, L[k] = f := ⟨_, rfl⟩
      rw [hf] at q0 q1 hsz
      have HF : Hid (L[k] = f) := hf
      obtain ⟨wx, hwx⟩ : ∃ x, wr.alloc (.cells #[.string f.1, .string f.2] 34) = x := ⟨_, rfl⟩
      have hbx : Below wr.heap.size wr wx := by rw [← hwx]; exact (Below.refl _ _).alloc (Nat.le_refl _) _
      have hbrx := hbr.trans (hbx.mono hbr.size)
      have HX : Hid (wr.alloc (.cells #[.string f.1, .string f.2] 34) = wx) := hwx
      have cC := cloneH_any f.2 wx (by omega)
      subst hga
      have hi1 : (0 : Int) ≤ (k : Int) := by omega
      have hi2 : (k : Int) < (L.length : Int) := by omega
      have HK : Hid (k < L.length) := hlt
      have hkb : k ≤ 1048576 := by omega
      clear hf hsz hwx
      cases he : eqT f.1 name with
      | true =>
        have HP : Hid (R = (f.2, true)) := by show _ = _; rw [← HR.out]; exact fieldOf_some HN.out hlt HF.out he
        have he' : (f.1.toList == name.toList) = true := he
        clear he hz' hz
        go_wp2_with fail
        rw [HX.out]
        refine cC.mono ?_
        rintro e w2 ⟨rfl, hb2⟩
        go_wp2_with fail
        go_ret2
        exact ⟨by rw [HP.out]; rfl, hbrx.trans (hb2.mono hbrx.size)⟩
      | false =>
        have HE : Hid (eqT f.1 name = false) := he
        have he' : (f.1.toList == name.toList) = false := he
        clear he hz' hz cC
        go_wp2_with fail
        go_roundw
        case rel =>
          try ((repeat apply Exists.intro); refine ⟨?_, rfl⟩)
          refine ⟨⟨k + 1, HK.out, by go_num, fun q hq hqk => ?_, by rw [HX.out]; exact hbrx⟩⟩
          by_cases e : q = k
          · subst e; rw [HF.out]; exact HE.out
          · exact HN.out q hq (by omega)
        case measure => have := HK.out; simp [intOf]; omega
    · have hi2 : ¬ (k : Int) < (L.length : Int) := by omega
      have HP : Hid (R = (⟨#[]⟩, false)) := by show _ = _; rw [← HR.out]; exact fieldOf_none fun q hq => HN.out q hq (by omega)
      clear hz' hz
      go_wp2_with fail
      go_ret2
      exact ⟨by rw [HP.out]; rfl, hbr⟩
set_option maxHeartbeats 4000000 in
theorem implWireF_any (w : World) (a : Option Addr) (c n : Nat) (line : ByteArray) :
    Calls Tryd.prog 50 #[.agg #[.string line, .slice a n c]] w fun e w' => e = .returned (.agg #[.string line, .slice a n c]) ∧ Below w.heap.size w w' := by
  go_enter Tryd.func50, Tryd.ntmps50
  go_wp2
  refine bodyPost_ret (v := .agg #[.string line, .slice a n c]) (by simp [results, Tryd.results50, go_sem]) rfl ⟨rfl, ?_⟩
  exact ((Below.refl w.heap.size w).alloc (Nat.le_refl _) _).alloc (by simp) _
set_option maxRecDepth 100000 in
set_option maxHeartbeats 4000000 in
theorem implFieldOf_any (w : World) (a : Option Addr) (c : Nat) (line : ByteArray) (L : List (ByteArray × ByteArray)) (name : ByteArray) (hA : DAt w a L w.heap.size) (hz : HdSz line L) (_ : name.size ≤ 1048576) :
    Calls Tryd.prog 17 #[.agg #[.string line, .slice a L.length c], .string name] w fun e w' => e = .returned (.tuple #[.string (fieldOfS L name).1, .bool (fieldOfS L name).2]) ∧ Below w.heap.size w w' := by
  obtain ⟨wb, hwb⟩ : ∃ wb, w.alloc (.cells #[.string line, .slice a L.length c] 27) = wb := ⟨_, rfl⟩
  have hb : Below w.heap.size w wb := by rw [← hwb]; exact (Below.refl _ _).alloc (Nat.le_refl _) _
  have hX : wb.heap[w.heap.size]? = some (.cells #[.string line, .slice a L.length c] 27 (0, 0)) := by rw [← hwb]; exact heap_alloc_new w _
  have hAb := hA.on hb
  have HW : Hid (w.alloc (.cells #[.string line, .slice a L.length c] 27) = wb) := hwb
  obtain ⟨b0, b1⟩ := KBz_cells hX
  rw [← hwb] at b0 b1
  have hfd : ∀ wi : World, (Instr.field 64 (.agg #[.string line, .slice a L.length c]) 1).run Tryd.prog wi = .ok (.slice a L.length c) wi := fun _ => by kernel_rfl
  clear hwb hA hX
  go_enter Tryd.func17, Tryd.ntmps17
  go_wp2_with fail
  rw [HW.out] at b0 b1 ⊢
  refine (implWireF_any wb a c L.length line).mono ?_
  rintro e w1 ⟨rfl, hb1⟩
  have cO := implValue_any w1 a c line L name (hAb.on hb1) hz
  clear b0 b1
  go_wp2_with fail
  refine cO.mono ?_
  rintro e w2 ⟨rfl, hb2⟩
  go_wp2_with fail
  go_ret2
  exact ⟨rfl, hb.trans ((hb1.trans (hb2.mono hb1.size)).mono hb.size)⟩
end Go.Proofs.YtnnaphfeeobeladDoor
