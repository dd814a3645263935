/- The program's ReadHead: of a text whose reading comes to its end, and of one whose reading panics. -/
import Derived.Test.YtnnaphfeeobelaeGreatDoorCopyHead
import Derived.Test.YtnnaphfeeobelaeGreatDoorReaderKitJ
namespace Go.Proofs.YtnnaphfeeobelaeGreatDoor
open Go.RowKit Go.Sort
set_option maxRecDepth 100000 in
set_option maxHeartbeats 8000000 in
theorem implHead_any (w : World) (a : Option Addr) (c : Nat) (line : ByteArray) (L : List (ByteArray × ByteArray)) (hA : DAt w a L w.heap.size) (hz : HdSz line L) :
    Calls Tryz.prog 23 #[.agg #[.string line, .slice a L.length c]] w fun e w' => ∃ v, e = .returned (.agg #[.string line, v]) ∧ OwnD w' w.heap.size 29 v L ∧ Below w.heap.size w w' := by
  obtain ⟨w1, hw1⟩ : ∃ x, w.alloc (.cells #[.string line, .slice a L.length c] 53) = x := ⟨_, rfl⟩
  have hb1 : Below w.heap.size w w1 := by rw [← hw1]; exact (Below.refl _ _).alloc (Nat.le_refl _) _
  have hX1 : HBx w1 w.heap.size 53 (.string line) (.slice a L.length c) := by rw [← hw1]; exact HBx.new _ _ _ _
  have s1 : w1.heap.size = w.heap.size + 1 := by rw [← hw1]; simp
  obtain ⟨w2, hw2⟩ : ∃ x, w1.alloc (.cells #[.string ⟨#[]⟩, .slice none 0 0] 32) = x := ⟨_, rfl⟩
  have hb2 : Below w1.heap.size w1 w2 := by rw [← hw2]; exact (Below.refl _ _).alloc (Nat.le_refl _) _
  have hR2 : HBx w2 (w.heap.size + 1) 32 (.string ⟨#[]⟩) (.slice none 0 0) := by rw [← hw2, ← s1]; exact HBx.new _ _ _ _
  have hX2 := hX1.on hb2
  have hb12 := hb1.trans (hb2.mono hb1.size)
  have hA2 := hA.on hb12
  have HW : Hid ((w.alloc (.cells #[.string line, .slice a L.length c] 53)).alloc (.cells #[.string ⟨#[]⟩, .slice none 0 0] 32) = w2) := by rw [hw1]; exact hw2
  have s2 : w2.heap.size = w.heap.size + 2 := by rw [← hw2]; simp; omega
  have HS2 : Hid (w2.heap.size = w.heap.size + 2) := s2
  have hlz : line.size ≤ 281474976710656 := by unfold HdSz at hz; omega
  have HCL : Hid (∀ wi, Calls Tryz.prog 40 #[.string line] wi fun e w' => e = .returned (.string line) ∧ Below wi.heap.size wi w') := fun wi => cloneR_any line wi hlz
  have HCP : Hid (∀ wi, DAt wi a L wi.heap.size → Calls Tryz.prog 41 #[.slice a L.length c] wi fun e w' => ∃ v, e = .returned v ∧ OwnD w' wi.heap.size 29 v L ∧ Below wi.heap.size wi w') := fun wi h => implCopied_any wi a c line L h hz
  obtain ⟨x0, x1⟩ := hX2.cells
  rw [← HW.out] at x0 x1
  have hdr : Below w2.heap.size w2 w2.drew := ⟨rfl, rfl, rfl, Nat.le_refl _, fun _ _ => rfl⟩
  clear hw1 hw2 hb1 hb2 hX1 s1 hA hz hlz s2
  go_enter Tryz.func23, Tryz.ntmps23
  go_wp2_with fail
  rw [HW.out] at x0 x1 ⊢
  go_region_law (first
    | (go_simp; go_at_call 40; refine (HCL.out _).mono ?_; rintro e w3 ⟨rfl, hb3⟩; have hC3 := hdr.trans (hb3.mono hdr.size); obtain ⟨u0, u1⟩ := (hX2.on hC3).cells)
    | (go_simp; go_at_call 41; refine (HCP.out _ (hA2.on hC3)).mono ?_; rintro e w4 ⟨v4, rfl, ho4, hb4⟩; obtain ⟨a4, c4, rfl, _⟩ := ho4.at; have hD4 := hC3.trans (hb4.mono hC3.size); obtain ⟨z0, z1⟩ := (hX2.on hD4).cells; have hR4 := hR2.on hD4; obtain ⟨r0, r1⟩ := hR4.cells; have f0 := hR4.thaw 0; have f1 := hR4.thaw 1))
  all_goals (
    have HP : Hid (HBx w4 (w.heap.size + 1) 32 (.string ⟨#[]⟩) (.slice none 0 0) ∧ OwnD w4 w.heap.size 29 (.slice a4 L.length c4) L ∧ Below w.heap.size w w4) := ⟨hR4, ho4.mono (by have := HS2.out; have := hC3.size; omega), hb12.trans (hD4.mono hb12.size)⟩
    clear ho4 hb4 hb3 hC3 hD4 hR4 hR2 hX2 hA2 x0 x1 u0 u1 z0 z1 r0 r1 f0 f1 hdr
    go_wp2_with fail
    obtain ⟨hR, ho, hb⟩ := HP.out
    obtain ⟨q0, q1⟩ := (hR.put (.string line) (.slice a4 L.length c4)).cells
    refine bodyPost_ret (v := .agg #[.string line, .slice a4 L.length c4]) (by simp [results, Tryz.results23, go_sem, q0, q1]) rfl ⟨_, rfl, ?_, ?_⟩
    · exact ho.kept fun k hk => put2_other _ _ _ _ k (hR.neD (by decide) ho k hk)
    · exact (hb.setCell (p := ⟨w.heap.size + 1, 0, none⟩) (Nat.le_succ _) _).setCell (p := ⟨w.heap.size + 1, 1, none⟩) (Nat.le_succ _) _)
/-- What lies beside the reader: the answer's variable. -/
def besideR (w : World) : List (Nat × Obj) := [(w.heap.size, .cells #[.string ⟨#[]⟩, .slice none 0 0] 32 (0, 0))]
def readW (w : World) (t : ByteArray) : World := (w.alloc (.cells #[.string ⟨#[]⟩, .slice none 0 0] 32)).alloc (.cells #[.string ⟨#[]⟩, .slice none 0 0, .string t, .int .i64 0] 55)
theorem readW_rr (w : World) (t : ByteArray) : Rr (besideR w) w (w.heap.size + 1) ⟨#[]⟩ (.slice none 0 0) [] t 0 (readW w t) := by
  have hs : (w.alloc (.cells #[.string ⟨#[]⟩, .slice none 0 0] 32)).heap.size = w.heap.size + 1 := by simp
  have hb1 : Below w.heap.size w (w.alloc (.cells #[.string ⟨#[]⟩, .slice none 0 0] 32)) := (Below.refl _ _).alloc (Nat.le_refl _) _
  have hb2 := (Below.refl (w.alloc (.cells #[.string ⟨#[]⟩, .slice none 0 0] 32)).heap.size (w.alloc (.cells #[.string ⟨#[]⟩, .slice none 0 0] 32))).alloc (Nat.le_refl _) (.cells #[.string ⟨#[]⟩, .slice none 0 0, .string t, .int .i64 0] 55)
  refine ⟨hb1.trans (hb2.mono (by omega)), Nat.le_succ _, fun x hx => ?_, ?_, ⟨rfl, .inl ⟨rfl, rfl⟩⟩, fun x hx => ?_⟩
  · rw [besideR, List.mem_singleton] at hx
    subst hx
    exact ⟨by simp, fun cs fr e => by simp only [Obj.cells.injEq] at e; exact absurd e.2.1 (by decide)⟩
  · have := RBx.new (w.alloc (.cells #[.string ⟨#[]⟩, .slice none 0 0] 32)) ⟨#[]⟩ (.slice none 0 0) t 0
    rw [hs] at this
    exact this
  · rw [besideR, List.mem_singleton] at hx
    subst hx
    exact (hb2.block _ (by simp)).trans (heap_alloc_new w _)
theorem beside_lt (w : World) (t : ByteArray) : ∀ x ∈ besideR w, x.1 < (readW w t).heap.size := by
  intro x hx
  rw [besideR, List.mem_singleton] at hx
  subst hx
  unfold readW
  simp
  omega
set_option maxRecDepth 100000 in
set_option maxHeartbeats 8000000 in
theorem readHead_pan (w : World) (t : ByteArray) (c : Int) (hc : ¬ c = 0)
    (hR : Calls Tryz.prog 22 #[.pointer (some ⟨w.heap.size + 1, 0, none⟩)] (readW w t) fun e w' => e = .returned (.int .i64 c) ∧ ∃ lx u M k', Rr (besideR w) w (w.heap.size + 1) lx u M t k' w') :
    Calls Tryz.prog 9 #[.string t] w fun e w' => e = .returned (.tuple #[.agg #[.string ⟨#[]⟩, .slice none 0 0], .int .i64 0, .int .i64 c]) ∧ Below w.heap.size w w' := by
  have hci : (c != 0) = true := by simp [hc]
  have HW : Hid ((w.alloc (.cells #[.string ⟨#[]⟩, .slice none 0 0] 32)).alloc (.cells #[.string ⟨#[]⟩, .slice none 0 0, .string t, .int .i64 0] 55) = readW w t) := rfl
  generalize readW w t = wr at hR HW
  go_enter Tryz.func9, Tryz.ntmps9
  go_wp2_with fail
  rw [HW.out]
  refine hR.mono ?_
  rintro e w3 ⟨rfl, lx, u, M, k', H3⟩
  have hx := H3.ext _ (List.mem_singleton.2 rfl)
  have hRb : HBx w3 w.heap.size 32 (.string ⟨#[]⟩) (.slice none 0 0) := hx
  obtain ⟨r0, r1⟩ := hRb.cells
  have f0 := hRb.thaw 0
  have f1 := hRb.thaw 1
  have HB : Hid (Below w.heap.size w w3 ∧ HBx w3 w.heap.size 32 (.string ⟨#[]⟩) (.slice none 0 0)) := ⟨H3.bel, hRb⟩
  clear hR H3 hx hRb HW hc
  go_wp2_with fail
  obtain ⟨hb, hRb⟩ := HB.out
  obtain ⟨q0, q1⟩ := (hRb.put (.string ⟨#[]⟩) (.slice none 0 0)).cells
  refine bodyPost_ret (v := .tuple #[.agg #[.string ⟨#[]⟩, .slice none 0 0], .int .i64 0, .int .i64 c]) (by simp [results, Tryz.results9, go_sem, q0, q1]) rfl ⟨rfl, ?_⟩
  exact (hb.setCell (p := ⟨w.heap.size, 0, none⟩) (Nat.le_refl _) _).setCell (p := ⟨w.heap.size, 1, none⟩) (Nat.le_refl _) _
set_option maxRecDepth 100000 in
set_option maxHeartbeats 8000000 in
theorem readHead_ok (w : World) (t L0 : ByteArray) (fs : List (ByteArray × ByteArray)) (K : Nat) (hz : HdSz L0 fs)
    (hR : Calls Tryz.prog 22 #[.pointer (some ⟨w.heap.size + 1, 0, none⟩)] (readW w t) fun e w' => e = .returned (.int .i64 0) ∧ ∃ u, Rr (besideR w) w (w.heap.size + 1) L0 u fs t K w') :
    Calls Tryz.prog 9 #[.string t] w fun e w' => ∃ v, e = .returned (.tuple #[.agg #[.string L0, v], .int .i64 (K : Int), .int .i64 0]) ∧ OwnD w' w.heap.size 29 v fs ∧ Below w.heap.size w w' := by
  have HW : Hid ((w.alloc (.cells #[.string ⟨#[]⟩, .slice none 0 0] 32)).alloc (.cells #[.string ⟨#[]⟩, .slice none 0 0, .string t, .int .i64 0] 55) = readW w t) := rfl
  generalize readW w t = wr at hR HW
  go_enter Tryz.func9, Tryz.ntmps9
  go_wp2_with fail
  rw [HW.out]
  refine hR.mono ?_
  rintro e w3 ⟨rfl, u, H3⟩
  obtain ⟨a, c, rfl, _⟩ := H3.at
  obtain ⟨y0, y1, y2, y3⟩ := H3.box.cells
  have hdr : Below w3.heap.size w3 w3.drew := ⟨rfl, rfl, rfl, Nat.le_refl _, fun _ _ => rfl⟩
  have H4 := H3.next hdr
  have HC : Hid (∀ wi, DAt wi a fs wi.heap.size → Calls Tryz.prog 23 #[.agg #[.string L0, .slice a fs.length c]] wi fun e w' => ∃ v, e = .returned (.agg #[.string L0, v]) ∧ OwnD w' wi.heap.size 29 v fs ∧ Below wi.heap.size wi w') := fun wi h => implHead_any wi a c L0 fs h hz
  obtain ⟨a', c', hv', hA4⟩ := H4.at
  simp only [Value.slice.injEq, true_and] at hv'
  obtain ⟨rfl, rfl⟩ := hv'
  clear hR HW hz
  go_wp2_with fail
  go_region_law (go_simp; go_at_call 23; refine (HC.out _ hA4).mono ?_; rintro e w5 ⟨v5, rfl, ho5, hb5⟩; obtain ⟨a5, c5, rfl, _⟩ := ho5.at; have H5 := H4.next hb5; obtain ⟨z0, z1, z2, z3⟩ := H5.box.cells; have hRb : HBx w5 w.heap.size 32 (.string ⟨#[]⟩) (.slice none 0 0) := H5.ext _ (List.mem_singleton.2 rfl); obtain ⟨r0, r1⟩ := hRb.cells; have f0 := hRb.thaw 0; have f1 := hRb.thaw 1)
  all_goals (
    have HP : Hid (HBx w5 w.heap.size 32 (.string ⟨#[]⟩) (.slice none 0 0) ∧ OwnD w5 w.heap.size 29 (.slice a5 fs.length c5) fs ∧ Below w.heap.size w w5) := ⟨hRb, ho5.mono H4.bel.size, H5.bel⟩
    clear ho5 hb5 H5 H4 H3 hRb y0 y1 y2 y3 z0 z1 z2 z3 r0 r1 f0 f1 hdr hA4
    go_wp2_with fail
    obtain ⟨hR, ho, hb⟩ := HP.out
    obtain ⟨q0, q1⟩ := (hR.put (.string L0) (.slice a5 fs.length c5)).cells
    refine bodyPost_ret (v := .tuple #[.agg #[.string L0, .slice a5 fs.length c5], .int .i64 (K : Int), .int .i64 0]) (by simp [results, Tryz.results9, go_sem, q0, q1]) rfl ⟨_, rfl, ?_, ?_⟩
    · exact ho.kept fun k hk => put2_other _ _ _ _ k (hR.neD (by decide) ho k hk)
    · exact (hb.setCell (p := ⟨w.heap.size, 0, none⟩) (Nat.le_refl _) _).setCell (p := ⟨w.heap.size, 1, none⟩) (Nat.le_refl _) _)
end Go.Proofs.YtnnaphfeeobelaeGreatDoor
