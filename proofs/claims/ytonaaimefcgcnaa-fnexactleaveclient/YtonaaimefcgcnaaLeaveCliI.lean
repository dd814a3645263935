/- A client leaves: the program's. Written by mkprx5.py. -/
import Derived.Test.YtonaaimefcgcnaaPrxCopyI
import Derived.Test.YtonaaimefcgcnaaDelCli
namespace Go.Proofs.Ytonaaimefcgcnaa
open Go.RowKit Go.Sort
def leaveR (R : Prx) (id : Int) : Prx := ⟨R.now, R.ents, R.pol, R.fes, keepX (fun c : Cli => decide (c.id = id)) R.cls, R.hits⟩
theorem clwg_keep (p : Cli → Bool) : ∀ L : List Cli, (keepX p L).length + clwg (keepX p L) ≤ L.length + clwg L
  | [] => by simp [keepX, clwg]
  | c :: L => by
    have ih := clwg_keep p L
    unfold keepX at *
    cases h : p c
    · simp only [List.filter_cons, h, Bool.not_false, if_true, List.length_cons, clwg]; omega
    · simp only [List.filter_cons, h, Bool.not_true, List.length_cons, clwg]; simp only [Bool.false_eq_true, if_false]; omega
theorem leaveR_sz {R : Prx} (id : Int) (h : PxSz R) : PxSz (leaveR R id) := by
  unfold PxSz wgtX at *
  have := clwg_keep (fun c : Cli => decide (c.id = id)) R.cls
  unfold leaveR
  dsimp only
  omega
/-- The clients alone have changed. -/
theorem PxOwn.tchC {w w2 : World} {lo hi : Nat} {X : Pc} {R : Prx} {v2 : Value} {L2 : List Cli} (h : PxOwn w lo hi X R) (ht : Tch (fun k => X.c.ownBlock = some k) w w2) (ho : OwnCli w2 lo 68 v2 L2) : PxOwn w2 lo w2.heap.size ⟨X.e, X.w, X.m, X.k, X.f, v2⟩ ⟨R.now, R.ents, R.pol, R.fes, L2, R.hits⟩ := by
  have hg : w.grownBy w2 X.c.ownBlock := ⟨ht.1.os, ht.1.tape, ht.1.output, ht.1.size, fun k hk hn => ht.2 k hk (fun e => hn e.symm)⟩
  exact h.setC hg ho
theorem leaveX_eg : ∀ args w, (callFunc 59 args).run Try.prog w = .ok (.enter 59 args) w := enters_of Try.func59 (by kernel_rfl) rfl
set_option maxHeartbeats 2000000 in
theorem leaveX_any (T : Nat) (x : Cli) (id : Int) (w : World) (hT : w.heap[T]? = some (.cells #[.int .i64 id] 3 (0, 0))) :
    Calls Try.prog 59 (#[.agg #[.int .i64 x.id, .string x.key, .int .i64 x.fe, .int .i64 x.fr, .int .i64 x.st, .string x.got, .int .i64 x.ag]] ++ #[.pointer (some ⟨T, 0, none⟩)]) w fun e w' => e = .returned (.bool (decide (x.id = id))) ∧ Below w.heap.size w w' := by
  show Calls _ _ #[.agg #[.int .i64 x.id, .string x.key, .int .i64 x.fe, .int .i64 x.fr, .int .i64 x.st, .string x.got, .int .i64 x.ag], .pointer (some ⟨T, 0, none⟩)] _ _
  have hb1 : Below w.heap.size w (w.alloc (.cells #[.int .i64 x.id, .string x.key, .int .i64 x.fe, .int .i64 x.fr, .int .i64 x.st, .string x.got, .int .i64 x.ag] 68)) := (Below.refl _ _).alloc (Nat.le_refl _) _
  have p0 : (w.alloc (.cells #[.int .i64 x.id, .string x.key, .int .i64 x.fe, .int .i64 x.fr, .int .i64 x.st, .string x.got, .int .i64 x.ag] 68)).cell? ⟨T, 0, none⟩ = some (.int .i64 id) := by rw [cell_of_row _ T 0 _ _ (0, 0) ((hb1.block T (Array.getElem?_eq_some_iff.1 hT).1).trans hT)]; rfl
  have HD : Hid (decide (x.id = id) = (x.id == id)) := by show _ = _; by_cases h : x.id = id <;> simp [h]
  go_enter Try.func59, Try.ntmps59
  go_wp2_with fail
  go_ret
  exact ⟨by rw [HD.out]; rfl, hb1⟩
/-- The clients that have another number stay. -/
theorem delCli_call (w : World) (base T : Nat) (v : Value) (L : List Cli) (id : Int) (ho : OwnCli w base 68 v L) (hm : L.length ≤ 1048576) (hTb : T < base) (hT : w.heap[T]? = some (.cells #[.int .i64 id] 3 (0, 0))) :
    Calls Try.prog 58 #[v, .func (.func 59) #[] #[.pointer (some ⟨T, 0, none⟩)]] w fun e w' => ∃ d0 d1, e = .returned (.slice d0 (keepX (fun c : Cli => decide (c.id = id)) L).length d1) ∧ OwnCli w' base 68 (.slice d0 (keepX (fun c : Cli => decide (c.id = id)) L).length d1) (keepX (fun c : Cli => decide (c.id = id)) L) ∧ Tch (fun k => v.ownBlock = some k) w w' := by
  refine (deleteCli_any 59 #[.pointer (some ⟨T, 0, none⟩)] (fun c => decide (c.id = id)) leaveX_eg w base v L ho hm (fun W' x ht => leaveX_any T x id W' (by rw [ht.2 T (Array.getElem?_eq_some_iff.1 hT).1 (fun e => by have := (ho.lt T e).1; omega)]; exact hT))).mono ?_
  rintro e w' ⟨v', rfl, h1, h2⟩
  obtain ⟨d0, d1, rfl, _⟩ := h1.at
  exact ⟨d0, d1, rfl, h1, h2⟩
set_option maxRecDepth 100000 in
set_option maxHeartbeats 8000000 in
theorem implLeaveClient_any (w : World) (X : Pc) (R : Prx) (id : Int) (hA : PxAt w X R w.heap.size) (hsz : PxSz R) :
    Calls Try.prog 22 #[.agg #[.int .i64 R.now, X.e, X.w, X.m, X.k, .int .i64 R.pol.sk.added, X.f, X.c, .int .i64 R.hits], .int .i64 id] w fun e w' => ∃ Y : Pc, e = .returned (.agg #[.int .i64 (leaveR R id).now, Y.e, Y.w, Y.m, Y.k, .int .i64 (leaveR R id).pol.sk.added, Y.f, Y.c, .int .i64 (leaveR R id).hits]) ∧ PxOwn w' w.heap.size w'.heap.size Y (leaveR R id) ∧ Below w.heap.size w w' := by
  have l4 := hsz.parts.2.2.2
  obtain ⟨M, hM⟩ : ∃ M, keepX (fun c : Cli => decide (c.id = id)) R.cls = M := ⟨_, rfl⟩
  rw [show leaveR R id = ⟨R.now, R.ents, R.pol, R.fes, M, R.hits⟩ by unfold leaveR; rw [hM]]
  dsimp only
  have HM : Hid (keepX (fun c : Cli => decide (c.id = id)) R.cls = M) := hM
  clear hM
  obtain ⟨A, hAA⟩ : ∃ A, w.heap.size = A := ⟨_, rfl⟩
  obtain ⟨w0, hw0⟩ : ∃ x, w.alloc (.cells #[.int .i64 R.now, X.e, X.w, X.m, X.k, .int .i64 R.pol.sk.added, X.f, X.c, .int .i64 R.hits] 51) = x := ⟨_, rfl⟩
  obtain ⟨wi, hwi⟩ : ∃ x, w0.alloc (.cells #[.int .i64 id] 3) = x := ⟨_, rfl⟩
  obtain ⟨w1, hw1⟩ : ∃ x, wi.alloc (.cells #[.int .i64 0, .slice none 0 0, .slice none 0 0, .slice none 0 0, .slice none 0 0, .int .i64 0, .slice none 0 0, .slice none 0 0, .int .i64 0] 51) = x := ⟨_, rfl⟩
  have hb0 : Below w.heap.size w w0 := by rw [← hw0]; exact (Below.refl _ _).alloc (Nat.le_refl _) _
  have hbi : Below w0.heap.size w0 wi := by rw [← hwi]; exact (Below.refl _ _).alloc (Nat.le_refl _) _
  have hb01 : Below wi.heap.size wi w1 := by rw [← hw1]; exact (Below.refl _ _).alloc (Nat.le_refl _) _
  have s0 : w0.heap.size = A + 1 := by rw [← hw0, ← hAA]; simp
  have si : wi.heap.size = A + 2 := by rw [← hwi]; simp; omega
  have s1 : w1.heap.size = A + 3 := by rw [← hw1]; simp; omega
  have hb1 : Below A w w1 := by rw [← hAA]; exact (hb0.trans (hbi.mono hb0.size)).trans (hb01.mono (by omega))
  have hB : NB w1 A 51 (.int .i64 R.now) X.e X.w X.m X.k (.int .i64 R.pol.sk.added) X.f X.c (.int .i64 R.hits) := by
    have h : NB w0 A 51 (.int .i64 R.now) X.e X.w X.m X.k (.int .i64 R.pol.sk.added) X.f X.c (.int .i64 R.hits) := by rw [← hw0, ← hAA]; exact NB.new _ _ _ _ _ _ _ _ _ _ _
    exact (h.on hbi).on hb01
  have hT : w1.heap[A + 1]? = some (.cells #[.int .i64 id] 3 (0, 0)) := by
    have h : wi.heap[A + 1]? = some (.cells #[.int .i64 id] 3 (0, 0)) := by rw [← hwi, ← s0]; exact heap_alloc_new _ _
    exact (hb01.block _ (by omega)).trans h
  have hR : NB w1 (A + 2) 51 (.int .i64 0) (.slice none 0 0) (.slice none 0 0) (.slice none 0 0) (.slice none 0 0) (.int .i64 0) (.slice none 0 0) (.slice none 0 0) (.int .i64 0) := by rw [← hw1, ← si]; exact NB.new _ _ _ _ _ _ _ _ _ _ _
  have HW : Hid (((w.alloc (.cells #[.int .i64 R.now, X.e, X.w, X.m, X.k, .int .i64 R.pol.sk.added, X.f, X.c, .int .i64 R.hits] 51)).alloc (.cells #[.int .i64 id] 3)).alloc (.cells #[.int .i64 0, .slice none 0 0, .slice none 0 0, .slice none 0 0, .slice none 0 0, .int .i64 0, .slice none 0 0, .slice none 0 0, .int .i64 0] 51) = w1) := by rw [hw0, hwi]; exact hw1
  have hA1 : PxAt w1 X R w1.heap.size := hA.on (by rw [hAA]; exact hb1)
  have c1 := proxyCopy_any w1 X R hA1 hsz
  obtain ⟨b0, b1, b2, b3, b4, b5, b6, b7, b8⟩ := hB.cells
  rw [← hw1, ← hwi, ← hw0] at b0 b1 b2 b3 b4 b5 b6 b7 b8
  have HAA : Hid (w.heap.size = A ∧ w1.heap.size = A + 3) := ⟨hAA, s1⟩
  clear hw0 hw1 hwi hb0 hbi hb01 s0 si s1 hA hA1
  go_enter Try.func22, Try.ntmps22
  go_wp2_with fail
  rw [HW.out] at b0 b1 b2 b3 b4 b5 b6 b7 b8 ⊢
  refine c1.mono ?_
  rintro e w2 ⟨Y, he, ho, hb2⟩
  clear c1
  obtain ⟨e0, e1, x0, x1, m0, m1, k0, k1, f0, f1, c0, c1, rfl⟩ := ho.slices
  dsimp only at he
  subst he
  obtain ⟨w3, hw3⟩ : ∃ x, w2.alloc (.cells #[.int .i64 R.now, .slice e0 R.ents.length e1, .slice x0 R.pol.win.length x1, .slice m0 R.pol.main.length m1, .slice k0 R.pol.sk.rows.length k1, .int .i64 R.pol.sk.added, .slice f0 R.fes.length f1, .slice c0 R.cls.length c1, .int .i64 R.hits] 51) = x := ⟨_, rfl⟩
  have hb3 : Below w2.heap.size w2 w3 := by rw [← hw3]; exact (Below.refl _ _).alloc (Nat.le_refl _) _
  obtain ⟨N, hN⟩ : ∃ N, w2.heap.size = N := ⟨_, rfl⟩
  have hN3 : NB w3 N 51 (.int .i64 R.now) (.slice e0 R.ents.length e1) (.slice x0 R.pol.win.length x1) (.slice m0 R.pol.main.length m1) (.slice k0 R.pol.sk.rows.length k1) (.int .i64 R.pol.sk.added) (.slice f0 R.fes.length f1) (.slice c0 R.cls.length c1) (.int .i64 R.hits) := by rw [← hw3, ← hN]; exact NB.new _ _ _ _ _ _ _ _ _ _ _
  have hO3 : PxOwn w3 w1.heap.size N ⟨.slice e0 R.ents.length e1, .slice x0 R.pol.win.length x1, .slice m0 R.pol.main.length m1, .slice k0 R.pol.sk.rows.length k1, .slice f0 R.fes.length f1, .slice c0 R.cls.length c1⟩ R := by rw [← hN]; exact ho.below hb3 (Nat.le_refl _)
  have hR3 : NB w3 (A + 2) 51 (.int .i64 0) (.slice none 0 0) (.slice none 0 0) (.slice none 0 0) (.slice none 0 0) (.int .i64 0) (.slice none 0 0) (.slice none 0 0) (.int .i64 0) := (hR.on hb2).on hb3
  have hT3 : w3.heap[A + 1]? = some (.cells #[.int .i64 id] 3 (0, 0)) := (hb3.block _ (by have := HAA.out; have := hb2.size; omega)).trans ((hb2.block _ (by have := HAA.out; omega)).trans hT)
  have hB3 : Below A w w3 := (hb1.trans (hb2.mono (by have := HAA.out; omega))).trans (hb3.mono (by have := HAA.out; have := hb2.size; omega))
  have hc1 := delCli_call w3 w1.heap.size (A + 1) _ R.cls id hO3.c l4 (by have := HAA.out; omega) hT3
  rw [HM.out] at hc1
  obtain ⟨y7⟩ : Nonempty (w3.cell? ⟨N, 7, none⟩ = some (.slice c0 R.cls.length c1)) := ⟨hN3.cells.2.2.2.2.2.2.2.1⟩
  have hmf : ∀ (fn : Fn) (first cap : Array Value) (w : World), (Instr.makeFunc fn first cap).run Try.prog w = .ok (.func fn first cap) w := fun _ _ _ _ => rfl
  have HNL : Hid (A + 3 ≤ N ∧ w1.heap.size ≤ N) := ⟨by have := HAA.out; have := hb2.size; omega, by have := hb2.size; omega⟩
  have HIN : Hid (NB w3 N 51 (.int .i64 R.now) (.slice e0 R.ents.length e1) (.slice x0 R.pol.win.length x1) (.slice m0 R.pol.main.length m1) (.slice k0 R.pol.sk.rows.length k1) (.int .i64 R.pol.sk.added) (.slice f0 R.fes.length f1) (.slice c0 R.cls.length c1) (.int .i64 R.hits) ∧ PxOwn w3 w1.heap.size N ⟨.slice e0 R.ents.length e1, .slice x0 R.pol.win.length x1, .slice m0 R.pol.main.length m1, .slice k0 R.pol.sk.rows.length k1, .slice f0 R.fes.length f1, .slice c0 R.cls.length c1⟩ R ∧ NB w3 (A + 2) 51 (.int .i64 0) (.slice none 0 0) (.slice none 0 0) (.slice none 0 0) (.slice none 0 0) (.int .i64 0) (.slice none 0 0) (.slice none 0 0) (.int .i64 0) ∧ Below A w w3) := ⟨hN3, hO3, hR3, hB3⟩
  have HW3 : Hid (w2.alloc (.cells #[.int .i64 R.now, .slice e0 R.ents.length e1, .slice x0 R.pol.win.length x1, .slice m0 R.pol.main.length m1, .slice k0 R.pol.sk.rows.length k1, .int .i64 R.pol.sk.added, .slice f0 R.fes.length f1, .slice c0 R.cls.length c1, .int .i64 R.hits] 51) = w3) := hw3
  rw [← hw3] at y7
  clear hw3 hb3 hN3 hO3 hR3 hT3 hB3 ho hR hT hB hb1 hb2 b0 b1 b2 b3 b4 b5 b6 b7 b8
  go_wp2_with fail
  rw [HW3.out] at y7 ⊢
  refine hc1.mono ?_
  rintro e w4 ⟨d0, d1, rfl, hd, ht⟩
  obtain ⟨hN3, hO3, hR3, hB3⟩ := HIN.out
  have hty : ∀ T t cs, w3.heap[T]? = some (.cells cs t (0, 0)) → t = 51 → ¬ (Value.slice c0 R.cls.length c1).ownBlock = some T := fun T t cs hT ht' e => by
    obtain ⟨cs', hc⟩ := hO3.c.type T e
    rw [hT] at hc
    simp only [Option.some.injEq, Obj.cells.injEq] at hc
    rw [ht'] at hc
    exact absurd hc.2.1 (by decide)
  have hN4 := hN3.kept (ht.2 N hN3.lt (hty N _ _ hN3 rfl))
  have hR4 := hR3.kept (ht.2 (A + 2) hR3.lt (hty (A + 2) _ _ hR3 rfl))
  have hO4 := hO3.tchC ht hd
  have hB4 : Below A w w4 := Tch.below hB3 ht (Nat.le_trans (by have := HNL.out; omega) (Nat.le_of_lt hN3.lt)) (fun k hk => by have := (hO3.c.lt k hk).1; have := HAA.out; omega)
  have x7 := hN4.cells.2.2.2.2.2.2.2.1
  have xt := hN4.thaw 7
  obtain ⟨w5, hw5⟩ : ∃ x, w4.setCell ⟨N, 7, none⟩ (.slice d0 M.length d1) = x := ⟨_, rfl⟩
  have hN5 : NB w5 N 51 (.int .i64 R.now) (.slice e0 R.ents.length e1) (.slice x0 R.pol.win.length x1) (.slice m0 R.pol.main.length m1) (.slice k0 R.pol.sk.rows.length k1) (.int .i64 R.pol.sk.added) (.slice f0 R.fes.length f1) (.slice d0 M.length d1) (.int .i64 R.hits) := by rw [← hw5]; exact hN4.set7 _
  have hR5 : NB w5 (A + 2) 51 (.int .i64 0) (.slice none 0 0) (.slice none 0 0) (.slice none 0 0) (.slice none 0 0) (.int .i64 0) (.slice none 0 0) (.slice none 0 0) (.int .i64 0) := by rw [← hw5]; exact hR4.far 7 _ (by have := HNL.out; omega)
  have hO5 : PxOwn w5 w1.heap.size w4.heap.size ⟨.slice e0 R.ents.length e1, .slice x0 R.pol.win.length x1, .slice m0 R.pol.main.length m1, .slice k0 R.pol.sk.rows.length k1, .slice f0 R.fes.length f1, .slice d0 M.length d1⟩ ⟨R.now, R.ents, R.pol, R.fes, M, R.hits⟩ := by rw [← hw5]; exact hO4.box hN4 (by unfold PxT; decide) (fun k hk => Below.heap_setCell _ _ _ _ (by exact hk))
  have hB5 : Below A w w5 := by rw [← hw5]; exact hB4.setCell (by have := HNL.out; show A ≤ N; omega) _
  have hs5 : w5.heap.size = w4.heap.size := by rw [← hw5]; simp
  obtain ⟨y0, y1, y2, y3, y4, y5, y6, y7, y8⟩ := hN5.cells
  obtain ⟨r0, r1, r2, r3, r4, r5, r6, r7, r8⟩ := hR5.cells
  have t0 := hR5.thaw 0
  have t1 := hR5.thaw 1
  have t2 := hR5.thaw 2
  have t3 := hR5.thaw 3
  have t4 := hR5.thaw 4
  have t5 := hR5.thaw 5
  have t6 := hR5.thaw 6
  have t7 := hR5.thaw 7
  have t8 := hR5.thaw 8
  have HOA : Hid (PxOwn (((((((((w5.setCell ⟨A + 2, 0, none⟩ (.int .i64 R.now)).setCell ⟨A + 2, 1, none⟩ (.slice e0 R.ents.length e1)).setCell ⟨A + 2, 2, none⟩ (.slice x0 R.pol.win.length x1)).setCell ⟨A + 2, 3, none⟩ (.slice m0 R.pol.main.length m1)).setCell ⟨A + 2, 4, none⟩ (.slice k0 R.pol.sk.rows.length k1)).setCell ⟨A + 2, 5, none⟩ (.int .i64 R.pol.sk.added)).setCell ⟨A + 2, 6, none⟩ (.slice f0 R.fes.length f1)).setCell ⟨A + 2, 7, none⟩ (.slice d0 M.length d1)).setCell ⟨A + 2, 8, none⟩ (.int .i64 R.hits)) w1.heap.size w4.heap.size ⟨.slice e0 R.ents.length e1, .slice x0 R.pol.win.length x1, .slice m0 R.pol.main.length m1, .slice k0 R.pol.sk.rows.length k1, .slice f0 R.fes.length f1, .slice d0 M.length d1⟩ ⟨R.now, R.ents, R.pol, R.fes, M, R.hits⟩) := hO5.box hR5 (by unfold PxT; decide) (fun k hk => put9_other w5 (A + 2) (.int .i64 R.now) (.slice e0 R.ents.length e1) (.slice x0 R.pol.win.length x1) (.slice m0 R.pol.main.length m1) (.slice k0 R.pol.sk.rows.length k1) (.int .i64 R.pol.sk.added) (.slice f0 R.fes.length f1) (.slice d0 M.length d1) (.int .i64 R.hits) k hk)
  have HBF : Hid (Below A w (((((((((w5.setCell ⟨A + 2, 0, none⟩ (.int .i64 R.now)).setCell ⟨A + 2, 1, none⟩ (.slice e0 R.ents.length e1)).setCell ⟨A + 2, 2, none⟩ (.slice x0 R.pol.win.length x1)).setCell ⟨A + 2, 3, none⟩ (.slice m0 R.pol.main.length m1)).setCell ⟨A + 2, 4, none⟩ (.slice k0 R.pol.sk.rows.length k1)).setCell ⟨A + 2, 5, none⟩ (.int .i64 R.pol.sk.added)).setCell ⟨A + 2, 6, none⟩ (.slice f0 R.fes.length f1)).setCell ⟨A + 2, 7, none⟩ (.slice d0 M.length d1)).setCell ⟨A + 2, 8, none⟩ (.int .i64 R.hits))) := Below.put9 hB5 (T := A + 2) (by omega) (.int .i64 R.now) (.slice e0 R.ents.length e1) (.slice x0 R.pol.win.length x1) (.slice m0 R.pol.main.length m1) (.slice k0 R.pol.sk.rows.length k1) (.int .i64 R.pol.sk.added) (.slice f0 R.fes.length f1) (.slice d0 M.length d1) (.int .i64 R.hits)
  have HPQ : Hid (NB w5 (A + 2) 51 (.int .i64 0) (.slice none 0 0) (.slice none 0 0) (.slice none 0 0) (.slice none 0 0) (.int .i64 0) (.slice none 0 0) (.slice none 0 0) (.int .i64 0)) := hR5
  have HSZ : Hid (w4.heap.size ≤ (((((((((w5.setCell ⟨A + 2, 0, none⟩ (.int .i64 R.now)).setCell ⟨A + 2, 1, none⟩ (.slice e0 R.ents.length e1)).setCell ⟨A + 2, 2, none⟩ (.slice x0 R.pol.win.length x1)).setCell ⟨A + 2, 3, none⟩ (.slice m0 R.pol.main.length m1)).setCell ⟨A + 2, 4, none⟩ (.slice k0 R.pol.sk.rows.length k1)).setCell ⟨A + 2, 5, none⟩ (.int .i64 R.pol.sk.added)).setCell ⟨A + 2, 6, none⟩ (.slice f0 R.fes.length f1)).setCell ⟨A + 2, 7, none⟩ (.slice d0 M.length d1)).setCell ⟨A + 2, 8, none⟩ (.int .i64 R.hits)).heap.size) := by show _ ≤ _; rw [put9_size, hs5]; exact Nat.le_refl _
  have HW5 : Hid (w4.setCell ⟨N, 7, none⟩ (.slice d0 M.length d1) = w5) := hw5
  have HALL : Hid _ := (fun (_ : Unit) => And.intro HW5.out (And.intro HOA.out (And.intro HBF.out (And.intro HPQ.out HSZ.out))))
  rw [← hw5] at y0 y1 y2 y3 y4 y5 y6 y7 y8 r0 r1 r2 r3 r4 r5 r6 r7 r8 t0 t1 t2 t3 t4 t5 t6 t7 t8
  clear hw5 hN3 hO3 hR3 hB3 hty hN4 hR4 hO4 hB4 hN5 hR5 hO5 hB5 hs5 HOA HBF HPQ HSZ HW5 HIN hd ht y7
  go_wp2_with fail
  obtain ⟨hWX, hOX, hBX, hPX, hSX⟩ := HALL.out ()
  rw [hWX]
  obtain ⟨q0, q1, q2, q3, q4, q5, q6, q7, q8⟩ := (NB.put hPX (.int .i64 R.now) (.slice e0 R.ents.length e1) (.slice x0 R.pol.win.length x1) (.slice m0 R.pol.main.length m1) (.slice k0 R.pol.sk.rows.length k1) (.int .i64 R.pol.sk.added) (.slice f0 R.fes.length f1) (.slice d0 M.length d1) (.int .i64 R.hits)).cells
  refine bodyPost_ret (v := .agg #[.int .i64 R.now, .slice e0 R.ents.length e1, .slice x0 R.pol.win.length x1, .slice m0 R.pol.main.length m1, .slice k0 R.pol.sk.rows.length k1, .int .i64 R.pol.sk.added, .slice f0 R.fes.length f1, .slice d0 M.length d1, .int .i64 R.hits]) (by simp [results, Try.results22, go_sem, q0, q1, q2, q3, q4, q5, q6, q7, q8]) rfl ⟨⟨.slice e0 R.ents.length e1, .slice x0 R.pol.win.length x1, .slice m0 R.pol.main.length m1, .slice k0 R.pol.sk.rows.length k1, .slice f0 R.fes.length f1, .slice d0 M.length d1⟩, rfl, ?_, by rw [HAA.out.1]; exact hBX⟩
  exact hOX.mono (by have := HAA.out; omega) hSX
end Go.Proofs.Ytonaaimefcgcnaa
