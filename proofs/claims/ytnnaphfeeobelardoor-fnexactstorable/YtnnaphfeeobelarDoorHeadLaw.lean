/- What a law does with heads: it weighs them, copies them, compares them. -/
import Derived.Test.YtnnaphfeeobelarDoorFieldLaw
import Derived.Test.YtnnaphfeeobelarDoorTouch
namespace Go.Proofs.YtnnaphfeeobelarDoor
open Go.RowKit Go.Sort

/-- A head: its line, its fields. -/
structure Hd where
  line : ByteArray
  flds : List (ByteArray × ByteArray)
def HBx (w : World) (T : Nat) (e : TypeId) (l v : Value) : Prop := w.heap[T]? = some (.cells #[l, v] e (0, 0))
theorem HBx.lt {w : World} {T : Nat} {e : TypeId} {l v : Value} (h : HBx w T e l v) : T < w.heap.size := (Array.getElem?_eq_some_iff.1 h).1
theorem HBx.new (w : World) (e : TypeId) (l v : Value) : HBx (w.alloc (.cells #[l, v] e)) w.heap.size e l v := heap_alloc_new w _
theorem HBx.kept {w w' : World} {T : Nat} {e : TypeId} {l v : Value} (h : HBx w T e l v) (hk : w'.heap[T]? = w.heap[T]?) : HBx w' T e l v := hk.trans h
theorem HBx.on {w w' : World} {T : Nat} {e : TypeId} {l v : Value} (h : HBx w T e l v) (hb : Below w.heap.size w w') : HBx w' T e l v := h.kept (hb.block T h.lt)
theorem HBx.thaw {w : World} {T : Nat} {e : TypeId} {l v : Value} (h : HBx w T e l v) (i : Nat) : w.frozen? ⟨T, i, none⟩ = false := by unfold HBx at h; simp [World.frozen?, h]
theorem HBx.cells {w : World} {T : Nat} {e : TypeId} {l v : Value} (h : HBx w T e l v) : w.cell? ⟨T, 0, none⟩ = some l ∧ w.cell? ⟨T, 1, none⟩ = some v := by
  unfold HBx at h
  exact ⟨by simp [World.cell?, h], by simp [World.cell?, h]⟩
theorem HBx.put {w : World} {T : Nat} {e : TypeId} {l v : Value} (h : HBx w T e l v) (x y : Value) : HBx ((w.setCell ⟨T, 0, none⟩ x).setCell ⟨T, 1, none⟩ y) T e x y := by
  unfold HBx at *
  simp only [World.setCell, Array.getElem?_modify, h]
  simp
theorem HBx.set1 {w : World} {T : Nat} {e : TypeId} {l v : Value} (h : HBx w T e l v) (y : Value) : HBx (w.setCell ⟨T, 1, none⟩ y) T e l y := by
  unfold HBx at *
  simp only [World.setCell, Array.getElem?_modify, h]
  simp
theorem put2_other (w : World) (T : Nat) (x y : Value) (k : Nat) (hk : k ≠ T) : ((w.setCell ⟨T, 0, none⟩ x).setCell ⟨T, 1, none⟩ y).heap[k]? = w.heap[k]? := by
  rw [Below.heap_setCell _ _ _ _ (by exact hk), Below.heap_setCell _ _ _ _ (by exact hk)]
theorem HBx.neD {w : World} {T : Nat} {e : TypeId} {l v : Value} (h : HBx w T e l v) (he : e ≠ 87) {base : Nat} {u : Value} {L : List (ByteArray × ByteArray)} (ho : OwnD w base 87 u L) : ∀ k, u.ownBlock = some k → k ≠ T := by
  rintro k hk rfl
  rcases ho.2 with ⟨rfl, _⟩ | ⟨g, cap, cur, rfl, _, hg, _⟩
  · simp [Value.ownBlock] at hk
  · simp [Value.ownBlock] at hk
    subst hk
    have := h.symm.trans hg
    simp only [Option.some.injEq, Obj.cells.injEq] at this
    exact he this.2.1
theorem Hd.one (L : List (ByteArray × ByteArray)) (k : Nat) : wgtD (L.take k) ≤ wgtD L := by
  have h : wgtD L = wgtD (L.take k) + wgtD (L.drop k) := by
    unfold wgtD
    rw [← List.sum_append, ← List.map_append, List.take_append_drop]
  omega
set_option maxHeartbeats 2000000 in
theorem szFieldS_any (w : World) (a : Option Addr) (cap : Nat) (L : List (ByteArray × ByteArray)) (left : Int) (h0 : 0 ≤ left) (h1 : left ≤ 1048576) (hL : DAt w a L w.heap.size) (hs : ∀ j (hj : j < L.length), L[j].1.size ≤ maxLen ∧ L[j].2.size ≤ maxLen) (hm : L.length ≤ maxLen) :
    Calls Tryd.prog 30 #[.slice a L.length cap, .int .i64 left] w fun e w' => ∃ r : Int, e = .returned (.int .i64 r) ∧ (r = -1 ∨ 0 ≤ r ∧ r + (L.length : Int) + (wgtD L : Int) = left) ∧ Below w.heap.size w w' := by
  unfold maxLen at hm
  by_cases hA : left - L.length < 0
  · go_enter Tryd.func30, Tryd.ntmps30
    go_wp2
    go_ret
    exact ⟨_, rfl, .inl rfl, Below.refl _ _⟩
  · go_enter Tryd.func30, Tryd.ntmps30
    go_wp2_with fail
    go_loopw [1, 5] (fun n i wr => Box (∃ (k : Nat) (r : Int), k ≤ L.length ∧ i = .int .i64 k ∧ n = .int .i64 r ∧ 0 ≤ r ∧ r ≤ 1048576 ∧ Hid (r + (L.length : Int) + (wgtD (L.take k) : Int) = left) ∧ Below w.heap.size w wr))
      (fun _ i _ => L.length - (intOf i).toNat)
    case atStart => exact ⟨⟨0, left - L.length, by omega, rfl, rfl, by omega, by omega, by simp [wgtD, Hid], Below.refl _ _⟩⟩
    case round =>
      obtain ⟨k, r, hk, rfl, rfl, hr0, hr1, HR, hbr⟩ := hrel.out
      clear hrel
      by_cases hlt : k < L.length
      · obtain ⟨g, off, hga, _, q0, q1⟩ := (hL.below hbr (Nat.le_refl _)) k hlt
        have hsz := hs k hlt
        have hstep := wgtD_take L k hlt
        obtain ⟨f, hf⟩ : ∃ f, L[k] = f := ⟨_, rfl⟩
        rw [hf] at q0 q1 hsz hstep
        have c1 := szField_any wr f r hr0 hr1 hsz.1 hsz.2
        have HST : Hid (wgtD (L.take (k + 1)) = wgtD (L.take k) + (f.1.size + f.2.size) ∧ k < L.length) := ⟨hstep, hlt⟩
        subst hga
        have hi1 : (0 : Int) ≤ (k : Int) := by omega
        have hi2 : (k : Int) < (L.length : Int) := by omega
        clear hf hstep hsz
        go_wp2_with fail
        refine c1.mono ?_
        rintro e w2 ⟨r2, rfl, hr2, hb2⟩
        have hbb := hbr.trans (hb2.mono hbr.size)
        clear c1
        rcases hr2 with rfl | ⟨hr20, hr21⟩
        · go_wp2_with fail
          go_ret
          exact ⟨_, rfl, .inl rfl, hbb⟩
        · have hneg : ¬ r2 < 0 := by omega
          have HR2 : Hid (r2 + (L.length : Int) + (wgtD (L.take (k + 1)) : Int) = left) := by show _ = _; have := HR.out; have := HST.out.1; omega
          have hr2b : r2 ≤ 1048576 := by omega
          clear hr21
          go_wp2_with fail
          go_roundw
          case rel =>
            try ((repeat apply Exists.intro); refine ⟨?_, rfl⟩)
            exact ⟨⟨k + 1, r2, by have := HST.out.2; omega, by go_num, rfl, hr20, hr2b, HR2, hbb⟩⟩
          case measure => have := HST.out.2; simp [intOf]; omega
      · have hi2 : ¬ (k : Int) < (L.length : Int) := by omega
        have hke : k = L.length := by omega
        go_wp2_with fail
        go_ret
        refine ⟨_, rfl, .inr ⟨hr0, ?_⟩, hbr⟩
        have h := HR.out
        rw [hke, List.take_length] at h
        exact h
set_option maxHeartbeats 2000000 in
theorem eqHead_same (w : World) (a b : Option Addr) (c d : Nat) (H : Hd) (hA : DAt w a H.flds w.heap.size) (hB : DAt w b H.flds w.heap.size) (hl : H.flds.length ≤ 1048576) :
    Calls Tryd.prog 15 #[.agg #[.string H.line, .slice a H.flds.length c], .agg #[.string H.line, .slice b H.flds.length d]] w fun e w' => e = .returned (.bool true) ∧ Below w.heap.size w w' := by
  obtain ⟨line, L⟩ := H
  dsimp only at *
  obtain ⟨w0, hw0⟩ : ∃ x, w.alloc (.cells #[.string line, .slice a L.length c] 35) = x := ⟨_, rfl⟩
  obtain ⟨w1, hw1⟩ : ∃ x, w0.alloc (.cells #[.string line, .slice b L.length d] 35) = x := ⟨_, rfl⟩
  have hb0 : Below w.heap.size w w0 := by rw [← hw0]; exact (Below.refl _ _).alloc (Nat.le_refl _) _
  have hb1 : Below w0.heap.size w0 w1 := by rw [← hw1]; exact (Below.refl _ _).alloc (Nat.le_refl _) _
  have s0 : w0.heap.size = w.heap.size + 1 := by rw [← hw0]; simp
  have hX : HBx w1 w.heap.size 35 (.string line) (.slice a L.length c) := by
    have h : HBx w0 w.heap.size 35 (.string line) (.slice a L.length c) := by rw [← hw0]; exact HBx.new _ _ _ _
    exact h.on hb1
  have hY : HBx w1 (w.heap.size + 1) 35 (.string line) (.slice b L.length d) := by rw [← hw1, ← s0]; exact HBx.new _ _ _ _
  have hbw : Below w.heap.size w w1 := hb0.trans (hb1.mono hb0.size)
  obtain ⟨x0, x1⟩ := hX.cells
  obtain ⟨y0, y1⟩ := hY.cells
  have HW : Hid ((w.alloc (.cells #[.string line, .slice a L.length c] 35)).alloc (.cells #[.string line, .slice b L.length d] 35) = w1) := by rw [hw0]; exact hw1
  have e1 := eqFieldS_same w1 a b c d L (hA.on hbw) (hB.on hbw) (by omega)
  rw [← hw1, ← hw0] at x0 x1 y0 y1
  clear hw0 hw1 s0 hb0 hb1
  go_enter Tryd.func15, Tryd.ntmps15
  go_wp2_with fail
  rw [HW.out] at x0 x1 y0 y1 ⊢
  refine e1.mono ?_
  rintro e w2 ⟨rfl, hb2⟩
  go_wp2_with fail
  go_ret
  exact ⟨rfl, hbw.trans (hb2.mono hbw.size)⟩
set_option maxHeartbeats 2000000 in
theorem toHead_any (w : World) (a : Option Addr) (c : Nat) (H : Hd) (hA : DAt w a H.flds w.heap.size) (hl : H.flds.length ≤ 1048576) :
    Calls Tryd.prog 13 #[.agg #[.string H.line, .slice a H.flds.length c]] w fun e w' => ∃ v, e = .returned (.agg #[.string H.line, v]) ∧ OwnD w' w.heap.size 87 v H.flds ∧ Below w.heap.size w w' := by
  obtain ⟨line, L⟩ := H
  dsimp only at *
  obtain ⟨w0, hw0⟩ : ∃ x, w.alloc (.cells #[.string line, .slice a L.length c] 30) = x := ⟨_, rfl⟩
  obtain ⟨w1, hw1⟩ : ∃ x, w0.alloc (.cells #[.string ⟨#[]⟩, .slice none 0 0] 35) = x := ⟨_, rfl⟩
  obtain ⟨w2, hw2⟩ : ∃ x, w1.alloc (.cells #[.string line, .slice none 0 0] 35) = x := ⟨_, rfl⟩
  have hb0 : Below w.heap.size w w0 := by rw [← hw0]; exact (Below.refl _ _).alloc (Nat.le_refl _) _
  have hb1 : Below w0.heap.size w0 w1 := by rw [← hw1]; exact (Below.refl _ _).alloc (Nat.le_refl _) _
  have hb2 : Below w1.heap.size w1 w2 := by rw [← hw2]; exact (Below.refl _ _).alloc (Nat.le_refl _) _
  have s0 : w0.heap.size = w.heap.size + 1 := by rw [← hw0]; simp
  have s1 : w1.heap.size = w.heap.size + 2 := by rw [← hw1]; simp; omega
  have s2 : w2.heap.size = w.heap.size + 3 := by rw [← hw2]; simp; omega
  have hb12 : Below w0.heap.size w0 w2 := hb1.trans (hb2.mono hb1.size)
  have hbw : Below w.heap.size w w2 := hb0.trans (hb12.mono hb0.size)
  have hB : HBx w2 w.heap.size 30 (.string line) (.slice a L.length c) := by
    have h : HBx w0 w.heap.size 30 (.string line) (.slice a L.length c) := by rw [← hw0]; exact HBx.new _ _ _ _
    exact h.on hb12
  have hR : HBx w2 (w.heap.size + 1) 35 (.string ⟨#[]⟩) (.slice none 0 0) := by
    have h : HBx w1 (w.heap.size + 1) 35 (.string ⟨#[]⟩) (.slice none 0 0) := by rw [← hw1, ← s0]; exact HBx.new _ _ _ _
    exact h.on hb2
  have hT : HBx w2 (w.heap.size + 2) 35 (.string line) (.slice none 0 0) := by rw [← hw2, ← s1]; exact HBx.new _ _ _ _
  have HW : Hid (((w.alloc (.cells #[.string line, .slice a L.length c] 30)).alloc (.cells #[.string ⟨#[]⟩, .slice none 0 0] 35)).alloc (.cells #[.string line, .slice none 0 0] 35) = w2) := by rw [hw0, hw1]; exact hw2
  obtain ⟨b0, b1⟩ := hB.cells
  have c1 := toFieldS_any w2 a c L (hA.on hbw) hl
  rw [← hw2, ← hw1, ← hw0] at b0 b1
  have HS2 : Hid (w2.heap.size = w.heap.size + 3) := s2
  clear hw0 hw1 hw2 s0 s1 s2 hb0 hb1 hb2 hb12
  go_enter Tryd.func13, Tryd.ntmps13
  go_wp2_with fail
  rw [HW.out] at b0 b1 ⊢
  refine c1.mono ?_
  rintro e w3 ⟨v3, rfl, ho3, hb3⟩
  obtain ⟨a3, k3, rfl, _⟩ := ho3.at
  have hT3 := hT.on hb3
  have hR3 := hR.on hb3
  have hbw3 := hbw.trans (hb3.mono hbw.size)
  have x1 := hT3.cells.2
  have xf := hT3.thaw 1
  obtain ⟨y0, y1⟩ := (hT3.set1 (.slice a3 L.length k3)).cells
  have hR4 : HBx (w3.setCell ⟨w.heap.size + 2, 1, none⟩ (.slice a3 L.length k3)) (w.heap.size + 1) 35 (.string ⟨#[]⟩) (.slice none 0 0) := hR3.kept (Below.heap_setCell _ _ _ _ (show w.heap.size + 1 ≠ w.heap.size + 2 by omega))
  obtain ⟨r0, r1⟩ := hR4.cells
  obtain ⟨f0, f1⟩ := (⟨hR4.thaw 0, hR4.thaw 1⟩ : _ ∧ _)
  have ho4 : OwnD (w3.setCell ⟨w.heap.size + 2, 1, none⟩ (.slice a3 L.length k3)) w2.heap.size 87 (.slice a3 L.length k3) L := ho3.kept fun k hk => Below.heap_setCell _ _ _ _ (hT3.neD (by decide) ho3 k hk)
  have hbw4 : Below w.heap.size w (w3.setCell ⟨w.heap.size + 2, 1, none⟩ (.slice a3 L.length k3)) := hbw3.setCell (show w.heap.size ≤ w.heap.size + 2 by omega) _
  have HO : Hid (OwnD (w3.setCell ⟨w.heap.size + 2, 1, none⟩ (.slice a3 L.length k3)) w2.heap.size 87 (.slice a3 L.length k3) L) := ho4
  clear c1 b0 b1 ho3 ho4 hT hR hB hT3 hR3 hA
  go_wp2_with fail
  obtain ⟨q0, q1⟩ := (hR4.put (.string line) (.slice a3 L.length k3)).cells
  refine bodyPost_ret (v := .agg #[.string line, .slice a3 L.length k3]) (by simp [results, Tryd.results13, go_sem, q0, q1]) rfl ⟨_, rfl, ?_, (hbw4.setCell (show w.heap.size ≤ w.heap.size + 1 by omega) _).setCell (show w.heap.size ≤ w.heap.size + 1 by omega) _⟩
  exact (HO.out.kept fun k hk => put2_other _ _ _ _ k (hR4.neD (by decide) HO.out k hk)).mono (by have := HS2.out; omega)
end Go.Proofs.YtnnaphfeeobelarDoor
