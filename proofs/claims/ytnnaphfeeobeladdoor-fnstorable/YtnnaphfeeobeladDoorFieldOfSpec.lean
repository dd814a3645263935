/- The other text's FieldOf. -/
import Derived.Test.YtnnaphfeeobeladDoorTargetPlainJ
import Derived.Lib.QuietBelow
import Derived.BigQuiet
namespace Go.Proofs.YtnnaphfeeobeladDoor
open Go.RowKit Go.Sort
/-- A head in a variable. -/
def KBy (w : World) (T : Nat) (l v : Value) : Prop := w.heap[T]? = some (.cells #[l, v] 27 (0, 0))
theorem KBy.lt {w : World} {T : Nat} {l v : Value} (h : KBy w T l v) : T < w.heap.size := (Array.getElem?_eq_some_iff.1 h).1
theorem KBy.on {w w' : World} {T : Nat} {l v : Value} (h : KBy w T l v) (hb : Below w.heap.size w w') : KBy w' T l v := (hb.block T h.lt).trans h
theorem KBy.cells {w : World} {T : Nat} {l v : Value} (h : KBy w T l v) : w.cell? ⟨T, 0, none⟩ = some l ∧ w.cell? ⟨T, 1, none⟩ = some v := by
  unfold KBy at h
  exact ⟨by simp [World.cell?, h], by simp [World.cell?, h]⟩
set_option maxRecDepth 100000 in
set_option maxHeartbeats 4000000 in
theorem specFieldOf_any (w : World) (a : Option Addr) (c : Nat) (line : ByteArray) (L : List (ByteArray × ByteArray)) (name : ByteArray) (hA : DAt w a L w.heap.size) (hz : HdSz line L) (_ : name.size ≤ 1048576) :
    Calls Tryd.prog 18 #[.agg #[.string line, .slice a L.length c], .string name] w fun e w' => e = .returned (.tuple #[.string (fieldOfS L name).1, .bool (fieldOfS L name).2]) ∧ Below w.heap.size w w' := by
  obtain ⟨wb, hwb⟩ : ∃ wb, w.alloc (.cells #[.string line, .slice a L.length c] 27) = wb := ⟨_, rfl⟩
  have hb : Below w.heap.size w wb := by rw [← hwb]; exact (Below.refl _ _).alloc (Nat.le_refl _) _
  have hX : KBy wb w.heap.size (.string line) (.slice a L.length c) := by rw [← hwb]; exact heap_alloc_new w _
  have hAb := hA.on hb
  have HW : Hid (w.alloc (.cells #[.string line, .slice a L.length c] 27) = wb) := hwb
  obtain ⟨b0, b1⟩ := hX.cells
  rw [← hwb] at b0 b1
  have hz' := hz
  unfold HdSz at hz'
  obtain ⟨R, hR⟩ : ∃ R, fieldOfS L name = R := ⟨_, rfl⟩
  rw [hR]
  have HR : Hid (fieldOfS L name = R) := hR
  clear hwb hA hR
  go_enter Tryd.func18, Tryd.ntmps18
  go_wp2
  rw [HW.out] at b0 b1 ⊢
  clear b0 b1
  go_loopw [6] (fun i wr => Box (∃ (k : Nat), k ≤ L.length ∧ i = .int .i64 k ∧ Hid (∀ q (hq : q < L.length), q < k → eqT L[q].1 name = false) ∧ Below wb.heap.size wb wr))
    (fun i _ => L.length - (intOf i).toNat)
  case atStart => exact ⟨⟨0, by omega, rfl, fun q _ hq => absurd hq (Nat.not_lt_zero _), Below.refl _ _⟩⟩
  case round =>
    obtain ⟨k, hk, rfl, HN, hbr⟩ := hrel.out
    clear hrel
    have hXr := hX.on hbr
    obtain ⟨x0, x1⟩ := hXr.cells
    by_cases hlt : k < L.length
    · obtain ⟨g, off, hga, _, q0, q1⟩ := (hAb.on hbr) k hlt
      obtain ⟨f, hf⟩ : ∃ f, L[k] = f := ⟨_, rfl⟩
      rw [hf] at q0 q1
      have HF : Hid (L[k] = f) := hf
      subst hga
      have hi1 : (0 : Int) ≤ (k : Int) := by omega
      have hi2 : (k : Int) < (L.length : Int) := by omega
      have HK : Hid (k < L.length) := hlt
      have hkb : k ≤ 1048576 := by omega
      clear hf
      cases he : eqT f.1 name with
      | true =>
        have HP : Hid (R = (f.2, true)) := by show _ = _; rw [← HR.out]; exact fieldOf_some HN.out hlt HF.out he
        have he' : (f.1.toList == name.toList) = true := he
        clear he hz' hz
        go_wp2
        go_ret2
        exact ⟨by rw [HP.out]; rfl, hb.trans (hbr.mono hb.size)⟩
      | false =>
        have HE : Hid (eqT f.1 name = false) := he
        have he' : (f.1.toList == name.toList) = false := he
        clear he hz' hz
        go_wp2
        go_roundw
        case rel =>
          try ((repeat apply Exists.intro); refine ⟨?_, rfl⟩)
          refine ⟨⟨k + 1, HK.out, by go_num, fun q hq hqk => ?_, hbr⟩⟩
          by_cases e : q = k
          · subst e; rw [HF.out]; exact HE.out
          · exact HN.out q hq (by omega)
        case measure => have := HK.out; simp [intOf]; omega
    · have hi2 : ¬ (k : Int) < (L.length : Int) := by omega
      have HP : Hid (R = (⟨#[]⟩, false)) := by show _ = _; rw [← HR.out]; exact fieldOf_none fun q hq => HN.out q hq (by omega)
      clear hz' hz
      go_wp2
      go_ret2
      exact ⟨by rw [HP.out]; rfl, hb.trans (hbr.mono hb.size)⟩
end Go.Proofs.YtnnaphfeeobeladDoor
