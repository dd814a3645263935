/- The program copies an entry. Written by hand (round 18). -/
import Derived.Test.YtonaaimefcgcnaaPrxCopyKit
import Derived.Deep.AppendLies
import Derived.Deep.RegionLaw
namespace Go.Proofs.Ytonaaimefcgcnaa
open Go.RowKit Go.Sort
/-- 'append(v, f)' of one entry onto entries that are owned, at a step of a statement that leaves its order open; f lies in the block B. -/
theorem step_snocN {P : Program} {ops : Array Oper} {o : Oper} {a : Act} {K : Act → World → Prop} {Q : Exit → Act → World → Prop} {E' : Prop} {w : World} (hgd : o.guard = none) (s x : Operand) (t : TypeId)
    (ho : o.op = .call { callee := .builtin .append, args := #[s, x], argTypes := #[t, t] }) (base : Nat) (e : TypeId) (ht : P.underlying t = some (.slice e))
    (hinfo : (P.info? e).map (fun i => (i.zero, i.size, i.bytes)) = some (some (.agg #[.string ⟨#[]⟩, .int .i64 0, .int .i64 0, .string ⟨#[]⟩]), 4, 48)) (v : Value) (L : List En) (hs : a.eval s = v) (hown : OwnN w base e v L)
    (B : Nat) (f : En) (fr : Nat × Nat) (hx : a.eval x = .slice (some ⟨B, 0, none⟩) 1 1) (hB : w.heap[B]? = some (.cells #[.string f.key, .int .i64 f.st, .int .i64 f.lf, .string f.bd] e fr)) (hlen : L.length < 10000000) (hbase : base ≤ w.heap.size)
    (h : ∀ g cap w', OwnN w' base e (.slice (some ⟨g, 0, none⟩) (L.length + 1) cap) (L ++ [f]) → w.grownBy w' v.ownBlock → K (a.put o.dst (.slice (some ⟨g, 0, none⟩) (L.length + 1) cap)) w') :
    if Region.wanted o (yielded ops a.tmps) = true then Oper.wp P o a w K Q else E' := by
  obtain ⟨i0, hi, hz0, hz1, hz2⟩ := info_parts hinfo
  refine step_append_lies w hgd s x t ho base e i0 _ 4 48 ht hi hz0 hz1 hz2 rfl (by decide) v L.length (enl L) hs hown ⟨B, 0, none⟩ 1 1 (enl [f]) hx rfl (fun j u hu => World.news_of_block hB j u (by simpa [enl, En.cells] using hu)) ?_ (by decide) (by unfold maxLen; omega) (by omega) hbase w.heap.size rfl ?_
  · intro u hu
    simp [enl, En.cells] at hu
    rcases hu with rfl | rfl | rfl | rfl <;> rfl
  · intro g cap w' h1 h2 _ _
    refine h g cap w' ?_ h2
    unfold OwnN
    rw [show enl (L ++ [f]) = enl L ++ enl [f] by simp [enl], List.length_append, List.length_singleton]
    exact h1
set_option maxRecDepth 100000 in
set_option maxHeartbeats 4000000 in
theorem entryCopy_any (w : World) (x : En) (hs0 : x.key.size ≤ 1048576) (hs1 : x.bd.size ≤ 1048576) :
    Calls Try.prog 90 #[.agg #[.string x.key, .int .i64 x.st, .int .i64 x.lf, .string x.bd]] w fun e w' => e = .returned (.agg #[.string x.key, .int .i64 x.st, .int .i64 x.lf, .string x.bd]) ∧ Below w.heap.size w w' := by
  obtain ⟨T, hT⟩ : ∃ T, w.heap.size = T := ⟨_, rfl⟩
  obtain ⟨w0, hw0⟩ : ∃ y, w.alloc (.cells #[.string x.key, .int .i64 x.st, .int .i64 x.lf, .string x.bd] 101) = y := ⟨_, rfl⟩
  obtain ⟨wx, hwx⟩ : ∃ y, w0.alloc (.cells #[.string ⟨#[]⟩, .int .i64 0, .int .i64 0, .string ⟨#[]⟩] 101) = y := ⟨_, rfl⟩
  have hb0 : Below w.heap.size w w0 := by rw [← hw0]; exact (Below.refl _ _).alloc (Nat.le_refl _) _
  have hbx : Below w0.heap.size w0 wx := by rw [← hwx]; exact (Below.refl _ _).alloc (Nat.le_refl _) _
  have s0 : w0.heap.size = T + 1 := by rw [← hw0]; simp [hT]
  have sx : wx.heap.size = T + 2 := by rw [← hwx]; simp; omega
  have hX0 : EnB w0 T 101 x := by rw [← hw0, ← hT]; exact EnB.new _ _ _
  have hXB : EnB wx T 101 x := hX0.on hbx
  have hRB : wx.heap[T + 1]? = some (.cells #[.string ⟨#[]⟩, .int .i64 0, .int .i64 0, .string ⟨#[]⟩] 101 (0, 0)) := by rw [← hwx, ← s0]; exact heap_alloc_new _ _
  have HXW : Hid ((w.alloc (.cells #[.string x.key, .int .i64 x.st, .int .i64 x.lf, .string x.bd] 101)).alloc (.cells #[.string ⟨#[]⟩, .int .i64 0, .int .i64 0, .string ⟨#[]⟩] 101) = wx) := by show _ = _; rw [hw0]; exact hwx
  have HBX : Hid (Below w.heap.size w wx ∧ w.heap.size = T ∧ wx.heap.size = T + 2) := ⟨hb0.trans (hbx.mono hb0.size), hT, sx⟩
  have hdx : Below wx.heap.size wx wx.drew := ⟨rfl, rfl, rfl, Nat.le_refl _, fun _ _ => rfl⟩
  have HCL0 : Hid (∀ wi, Calls Try.prog 91 #[.string x.key] wi fun e w' => e = .returned (.string x.key) ∧ Below wi.heap.size wi w') := fun wi => cloneP_any x.key wi hs0
  have HCL1 : Hid (∀ wi, Calls Try.prog 91 #[.string x.bd] wi fun e w' => e = .returned (.string x.bd) ∧ Below wi.heap.size wi w') := fun wi => cloneP_any x.bd wi hs1
  have KX : ∀ W, EnB W T 101 x → W.cell? ⟨T, 0, none⟩ = some (.string x.key) ∧ W.cell? ⟨T, 3, none⟩ = some (.string x.bd) := fun W h => ⟨h.cells.1, h.cells.2.2.2⟩
  have HD : Hid (∀ W, Below wx.heap.size wx W → EnB W T 101 x ∧ W.heap[T + 1]? = some (.cells #[.string ⟨#[]⟩, .int .i64 0, .int .i64 0, .string ⟨#[]⟩] 101 (0, 0))) := fun W h => ⟨hXB.on h, (h.block _ (Array.getElem?_eq_some_iff.1 hRB).1).trans hRB⟩
  have hXD := KX _ (HD.out _ hdx).1
  rw [hT]
  clear hw0 hwx hb0 hbx s0 sx hX0 hXB hRB hs0 hs1
  go_enter Try.func90, Try.ntmps90
  go_upto_region 1 with fail
  rw [HXW.out]
  go_region_held3 (fun W => W.cell? ⟨T, 0, none⟩ = some (.string x.key) ∧ W.cell? ⟨T, 3, none⟩ = some (.string x.bd)) (first | with_reducible exact hXD | with_reducible exact KX _ hD6 | with_reducible exact KX _ hD7 | with_reducible exact hK8 | with_reducible exact hK9)
    (first | (go_at_call 91; first
      | (with_reducible refine (HCL0.out _).mono ?_; rintro e w6 ⟨rfl, hb6⟩; have hC6 := hdx.trans (hb6.mono hdx.size); have hD6 := (HD.out _ hC6).1)
      | (with_reducible refine (HCL1.out _).mono ?_; rintro e w7 ⟨rfl, hb7⟩; have hC7 := hC6.trans (hb7.mono hC6.size); have hD7 := (HD.out _ hC7).1; obtain ⟨d0, d1⟩ := KX _ hD7; have f0 := hD7.thaw 0; have f1 := hD7.thaw 3; have hK8 := KX _ hD7.same1; have hK9 := KX _ hD7.same)))
  have hE9 : EnB ((w7.setCell ⟨T, 0, none⟩ (.string x.key)).setCell ⟨T, 3, none⟩ (.string x.bd)) T 101 x := hD7.same
  have hR9 : ((w7.setCell ⟨T, 0, none⟩ (.string x.key)).setCell ⟨T, 3, none⟩ (.string x.bd)).heap[T + 1]? = some (.cells #[.string ⟨#[]⟩, .int .i64 0, .int .i64 0, .string ⟨#[]⟩] 101 (0, 0)) := by
    rw [Below.heap_setCell _ _ _ _ (by show T + 1 ≠ T; omega), Below.heap_setCell _ _ _ _ (by show T + 1 ≠ T; omega)]
    exact (HD.out _ hC7).2
  have hB9 : Below T w ((w7.setCell ⟨T, 0, none⟩ (.string x.key)).setCell ⟨T, 3, none⟩ (.string x.bd)) := by
    have h := HBX.out.1.trans (hC7.mono HBX.out.1.size)
    rw [HBX.out.2.1] at h
    exact (h.setCell (Nat.le_refl _) _).setCell (Nat.le_refl _) _
  obtain ⟨w9, hw9⟩ : ∃ y, (w7.setCell ⟨T, 0, none⟩ (.string x.key)).setCell ⟨T, 3, none⟩ (.string x.bd) = y := ⟨_, rfl⟩
  rw [hw9] at hE9 hR9 hB9 ⊢
  obtain ⟨u0, u1, u2, u3⟩ := hE9.cells
  have r0 : w9.cell? ⟨T + 1, 0, none⟩ = some (.string ⟨#[]⟩) := by rw [cell_of_row w9 (T + 1) 0 _ _ (0, 0) hR9]; rfl
  have r1 : w9.cell? ⟨T + 1, 1, none⟩ = some (.int .i64 0) := by rw [cell_of_row w9 (T + 1) 1 _ _ (0, 0) hR9]; rfl
  have r2 : w9.cell? ⟨T + 1, 2, none⟩ = some (.int .i64 0) := by rw [cell_of_row w9 (T + 1) 2 _ _ (0, 0) hR9]; rfl
  have r3 : w9.cell? ⟨T + 1, 3, none⟩ = some (.string ⟨#[]⟩) := by rw [cell_of_row w9 (T + 1) 3 _ _ (0, 0) hR9]; rfl
  have tt : ∀ i, w9.frozen? ⟨T + 1, i, none⟩ = false := fun i => by simp [World.frozen?, hR9]
  have t0 := tt 0
  have t1 := tt 1
  have t2 := tt 2
  have t3 := tt 3
  have HF : Hid (EnB ((((w9.setCell ⟨T + 1, 0, none⟩ (.string x.key)).setCell ⟨T + 1, 1, none⟩ (.int .i64 x.st)).setCell ⟨T + 1, 2, none⟩ (.int .i64 x.lf)).setCell ⟨T + 1, 3, none⟩ (.string x.bd)) (T + 1) 101 x) := by
    show EnB _ _ _ _
    unfold EnB
    simp only [World.setCell, Array.getElem?_modify, hR9]
    simp
  have HG : Hid (Below T w ((((w9.setCell ⟨T + 1, 0, none⟩ (.string x.key)).setCell ⟨T + 1, 1, none⟩ (.int .i64 x.st)).setCell ⟨T + 1, 2, none⟩ (.int .i64 x.lf)).setCell ⟨T + 1, 3, none⟩ (.string x.bd))) := (((hB9.setCell (by show T ≤ T + 1; omega) _).setCell (by show T ≤ T + 1; omega) _).setCell (by show T ≤ T + 1; omega) _).setCell (by show T ≤ T + 1; omega) _
  clear hXD hD6 hD7 hC6 hC7 hb6 hb7 d0 d1 f0 f1 hK8 hK9 hE9 hR9 hB9 hw9 HD KX hdx HCL0 HCL1 tt
  go_wp2_with fail
  obtain ⟨q0, q1, q2, q3⟩ := HF.out.cells
  exact bodyPost_ret (v := .agg #[.string x.key, .int .i64 x.st, .int .i64 x.lf, .string x.bd]) (by simp [results, Try.results90, go_sem, q0, q1, q2, q3]) rfl ⟨rfl, HG.out⟩
end Go.Proofs.Ytonaaimefcgcnaa
