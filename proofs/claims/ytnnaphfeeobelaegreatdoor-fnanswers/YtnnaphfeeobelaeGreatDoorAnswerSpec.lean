/- An answer is written: the other text. -/
import Derived.Test.YtnnaphfeeobelaeGreatDoorHeadOkSpec
import Derived.Test.YtnnaphfeeobelaeGreatDoorFieldOfSpecJ
import Derived.Test.YtnnaphfeeobelaeGreatDoorGoodReadJ
import Derived.Test.YtnnaphfeeobelaeGreatDoorFieldLawJ
import Derived.Test.YtnnaphfeeobelaeGreatDoorSmugPlainJ
import Derived.Deep.RegionLaw
import Derived.Deep.RegionHeld3
import Derived.Test.YtnnaphfeeobelaeGreatDoorHeadLaw
import Derived.Deep.DeepCutAuto
namespace Go.Proofs.YtnnaphfeeobelaeGreatDoor
open Go.RowKit Go.Sort
/-- What an append of all fields onto an empty row without room does. -/
def AppF (P : Program) (t : TypeId) (w : World) (vs vx v' : Value) (w' : World) : Prop := ∀ ty, (Builtin.append_ #[t, t] ty #[vs, vx]).run P w = .ok v' w'
theorem step_app {P : Program} {ops : Array Oper} {o : Oper} {a : Act} {K : Act → World → Prop} {Q : Exit → Act → World → Prop} {E' : Prop} {w w' : World} {t : TypeId} {vs vx v' : Value} (hr : AppF P t w vs vx v' w') (hgd : o.guard = none) (s x : Operand)
    (ho : o.op = .call { callee := .builtin .append, args := #[s, x], argTypes := #[t, t] }) (hs : a.eval s = vs) (hx : a.eval x = vx) (h : K (a.put o.dst v') w') :
    if Region.wanted o (yielded ops a.tmps) = true then Oper.wp P o a w K Q else E' := by
  have hw : Region.wanted o (yielded ops a.tmps) = true := by simp [Region.wanted, hgd]
  rw [if_pos hw]
  unfold Oper.wp
  have hrun := hr o.type
  simp [execOp, ho, resolve, invoke, builtin, hs, hx, hrun, Result.andThen]
  exact h
theorem all0_run {P : Program} {w : World} {G : Nat} {e t : TypeId} (ht : P.underlying t = some (.slice e)) (hinfo : (P.info? e).map (fun i => (i.zero, i.size, i.bytes)) = some (some (.agg #[.string ⟨#[]⟩, .string ⟨#[]⟩]), 2, 32)) (hG : w.heap[G]? = some (.cells #[] e (0, 0)))
    {a : Option Addr} {c : Nat} {L : List (ByteArray × ByteArray)} {B : Nat} (hI : DAt w a L B) (hn : L.length ≤ 1048576) :
    ∃ gA cA wA, AppF P t w (.slice (some ⟨G, 0, none⟩) 0 0) (.slice a L.length c) (.slice (some ⟨gA, 0, none⟩) L.length cA) wA ∧ OwnD wA G e (.slice (some ⟨gA, 0, none⟩) L.length cA) L ∧ w.grownBy wA (some G) := by
  obtain ⟨i0, hi, hz0, hz1, hz2⟩ := info_parts hinfo
  have hGs : G < w.heap.size := (Array.getElem?_eq_some_iff.1 hG).1
  cases a with
  | none =>
    have := hI.none_nil
    subst this
    refine ⟨G, 0, w, fun ty => ?_, ⟨by simp [fdl], .inr ⟨G, 0, #[], rfl, Nat.le_refl _, hG, Nat.le_refl _, by simp [maxLen], by simp, by simp [fdl]⟩⟩, ⟨rfl, rfl, rfl, Nat.le_refl _, fun _ _ _ => rfl⟩⟩
    simp [Builtin.append_, run_underlying ht, sizeOf, typeInfo, hi, Builtin.lenOf, Builtin.firstCells, storeCells]
  | some ad =>
    by_cases h0 : L.length = 0
    · have hL : L = [] := List.length_eq_zero_iff.1 h0
      subst hL
      refine ⟨G, 0, w, fun ty => ?_, ⟨by simp [fdl], .inr ⟨G, 0, #[], rfl, Nat.le_refl _, hG, Nat.le_refl _, by simp [maxLen], by simp, by simp [fdl]⟩⟩, ⟨rfl, rfl, rfl, Nat.le_refl _, fun _ _ _ => rfl⟩⟩
      have hld := run_loadCells_list (P := P) w ad [] (fun j u hu => by simp at hu)
      simp at hld
      simp [Builtin.append_, run_underlying ht, sizeOf, typeInfo, hi, Builtin.lenOf, Builtin.firstCells, storeCells, hld]
    · have hown : w.ownsRow G e 2 (.slice (some ⟨G, 0, none⟩) 0 0) 0 [] := ⟨by simp, .inr ⟨G, 0, #[], rfl, Nat.le_refl _, hG, Nat.le_refl _, by simp [maxLen], by simp, by simp⟩⟩
      have h := fun ty => run_append_lies (P := P) w t ty G e i0 _ 2 32 ht hi hz0 hz1 hz2 rfl (by decide) _ 0 [] hown ad L.length c (fdl L) (fdl_length L) hI.src (fdl_one' L) (by omega) (by unfold maxLen; omega) (by omega) (by omega) w.heap.size rfl
      obtain ⟨g, cap, w', hr, h2, h3, _, _⟩ := h 0
      rw [Nat.zero_add] at hr h2
      rw [List.nil_append] at h2
      refine ⟨g, cap, w', fun ty => ?_, h2, h3⟩
      exact hr
theorem HBx.grewO {w w' : World} {T base : Nat} {a b v : Value} {L : List (ByteArray × ByteArray)} (h : HBx w T 32 a b) (ho : OwnD w base 29 v L) (hg : w.grownBy w' v.ownBlock) : HBx w' T 32 a b :=
  h.kept (hg.block T h.lt (fun e => h.neD (by decide) ho T e.symm rfl))
/-- The same, the place of the new head known. -/
theorem step_app10 {P : Program} {ops : Array Oper} {o : Oper} {a : Act} {K : Act → World → Prop} {Q : Exit → Act → World → Prop} {E' : Prop} {w W w' : World} {t : TypeId} {vs vx v' v10 : Value} (_h10 : a.eval (.tmp 10) = v10) (hr : AppF P t W vs vx v' w') (hw : w = W) (hgd : o.guard = none) (s x : Operand)
    (ho : o.op = .call { callee := .builtin .append, args := #[s, x], argTypes := #[t, t] }) (hs : a.eval s = vs) (hx : a.eval x = vx) (h : K (a.put o.dst v') w') :
    if Region.wanted o (yielded ops a.tmps) = true then Oper.wp P o a w K Q else E' := by
  subst hw
  exact step_app hr hgd s x ho hs hx h
theorem step_sn10 {P : Program} {ops : Array Oper} {o : Oper} {a : Act} {K : Act → World → Prop} {Q : Exit → Act → World → Prop} {E' : Prop} {w W w2 : World} {t : TypeId} {v v10 : Value} {L : List (ByteArray × ByteArray)} {f : ByteArray × ByteArray} {B : Nat} (_h10 : a.eval (.tmp 10) = v10) (hb : Below w2.heap.size w2 W) (hown : OwnD W w2.heap.size 29 v L) (hB : W.heap[B]? = some (.cells #[.string f.1, .string f.2] 29 (0, 0))) (hL : L.length ≤ 1048576) (ht : P.underlying t = some (.slice 29))
    (hinfo : (P.info? 29).map (fun i => (i.zero, i.size, i.bytes)) = some (some (.agg #[.string ⟨#[]⟩, .string ⟨#[]⟩]), 2, 32)) (hw : w = W) (hgd : o.guard = none) (s x : Operand)
    (ho : o.op = .call { callee := .builtin .append, args := #[s, x], argTypes := #[t, t] }) (hs : a.eval s = v) (hx : a.eval x = .slice (some ⟨B, 0, none⟩) 1 1)
    (h : ∀ g k wG, OwnD wG w2.heap.size 29 (.slice (some ⟨g, 0, none⟩) (L.length + 1) k) (L ++ [f]) → Below w2.heap.size w2 wG → (∀ T x y, HBx W T 32 x y → HBx wG T 32 x y) → K (a.put o.dst (.slice (some ⟨g, 0, none⟩) (L.length + 1) k)) wG) :
    if Region.wanted o (yielded ops a.tmps) = true then Oper.wp P o a w K Q else E' := by
  subst hw
  refine step_snocE hgd s x t ho w2.heap.size 29 ht hinfo v L hs hown B f (0, 0) hx hB (by omega) hb.size ?_
  intro g k wG ho2 hg2
  refine h g k wG ho2 ?_ (fun T x y hx => hx.grewO hown hg2)
  exact hb.trans ⟨hg2.os, hg2.tape, hg2.output, hg2.size, fun j hj => hg2.block j (Nat.lt_of_lt_of_le hj hb.size) (fun e => by have := (hown.lt j e.symm).1; omega)⟩
set_option maxRecDepth 100000 in
set_option maxHeartbeats 4000000 in
theorem specAnswer_any (w : World) (a : Option Addr) (c : Nat) (line : ByteArray) (L : List (ByteArray × ByteArray)) (body : ByteArray) (hA : DAt w a L w.heap.size) (hz : HdSz line L) (hb : body.size ≤ 1048576) :
    Calls Tryz.prog 13 #[.agg #[.string line, .slice a L.length c], .string body] w fun e w' => e = .returned (.tuple #[.string (answerS line L body).1, .bool (answerS line L body).2]) ∧ Below w.heap.size w w' := by
  obtain ⟨wb, hwb⟩ : ∃ wb, w.alloc (.cells #[.string line, .slice a L.length c] 32) = wb := ⟨_, rfl⟩
  have hbb : Below w.heap.size w wb := by rw [← hwb]; exact (Below.refl _ _).alloc (Nat.le_refl _) _
  have hX : KBy wb w.heap.size (.string line) (.slice a L.length c) := by rw [← hwb]; exact heap_alloc_new w _
  have HX : Hid (∀ wi, Below wb.heap.size wb wi → wi.cell? ⟨w.heap.size, 0, none⟩ = some (.string line) ∧ wi.cell? ⟨w.heap.size, 1, none⟩ = some (.slice a L.length c)) := fun wi hi => (hX.on hi).cells
  obtain ⟨b0, b1⟩ := hX.cells
  rw [← hwb] at b0 b1
  have HW : Hid (w.alloc (.cells #[.string line, .slice a L.length c] 32) = wb) := hwb
  have HA : Hid (DAt wb a L wb.heap.size) := hA.on hbb
  have HB : Hid (Below w.heap.size w wb) := hbb
  have c1 := specFieldOf_any wb a c line L clN HA.out hz (by decide)
  have C2 : Hid (∀ wi, Below wb.heap.size wb wi → Calls Tryz.prog 29 #[.agg #[.string line, .slice a L.length c], .string teN] wi fun e w' => e = .returned (.tuple #[.string (fieldOfS L teN).1, .bool (fieldOfS L teN).2]) ∧ Below wi.heap.size wi w') := fun wi hi => specFieldOf_any wi a c line L teN (HA.out.on hi) hz (by decide)
  obtain ⟨R, hR⟩ : ∃ R, answerS line L body = R := ⟨_, rfl⟩
  rw [hR]
  have HZ : Hid (HdSz line L) := hz
  unfold answerS at hR
  have HR : Hid _ := hR
  generalize (fieldOfS L clN).1 = f1 at c1
  generalize (fieldOfS L teN).1 = f2 at C2
  generalize (fieldOfS L clN).2 = g1 at c1 HR
  generalize (fieldOfS L teN).2 = g2 at C2 HR
  clear hwb hA hbb hX hz hR
  go_enter Tryz.func13, Tryz.ntmps13
  go_wp2_with fail
  rw [HW.out] at b0 b1 ⊢
  refine c1.mono ?_
  rintro e w1 ⟨rfl, hb1⟩
  have c2 := C2.out w1 hb1
  clear c1 b0 b1
  obtain ⟨b0, b1⟩ := HX.out w1 hb1
  go_wp2_with fail
  refine c2.mono ?_
  rintro e w2 ⟨rfl, hb2⟩
  have hb12 : Below wb.heap.size wb w2 := hb1.trans (hb2.mono hb1.size)
  clear c2 b0 b1
  obtain ⟨x0, x1⟩ := HX.out w2 hb12
  have HB2 : Hid (Below w.heap.size w w2) := HB.out.trans (hb12.mono HB.out.size)
  have HA2 : Hid (DAt w2 a L w2.heap.size) := HA.out.on hb12
  clear hb1 hb2 hb12 C2
  have KS : ∀ W, Below w2.heap.size w2 W → Below w2.heap.size w2 W ∧ W.cell? ⟨w.heap.size, 0, none⟩ = some (.string line) ∧ W.cell? ⟨w.heap.size, 1, none⟩ = some (.slice a L.length c) := fun W h => ⟨h, (h.cell (World.block_lt_of_cell? w2 _ x0)).trans x0, (h.cell (World.block_lt_of_cell? w2 _ x1)).trans x1⟩
  obtain ⟨D, hD⟩ : ∃ D, decB body.size = D := ⟨_, rfl⟩
  have hDe : (⟨(decOf (body.size : Int)).toArray⟩ : ByteArray) = D := hD
  have CD : Hid (∀ wi, Calls Tryz.prog 7 #[.int .i64 (body.size : Int)] wi fun e w' => e = .returned (.string D) ∧ Below wi.heap.size wi w') := by intro wi; rw [← hDe]; exact specDecimal_any (body.size : Int) wi (by omega) (by omega)
  obtain ⟨M, hM⟩ : ∃ M, L ++ [(clN, D)] = M := ⟨_, rfl⟩
  have HMM : Hid (L ++ [(clN, D)] = M) := hM
  have HML : Hid (L.length + 1 = M.length) := by show _ = _; rw [← hM]; simp
  have HAF : Hid (ansF L body.size = M) := by show _ = _; rw [← hM, ← hDe]; rfl
  have hLb : L.length ≤ 1048576 := by have := HZ.out; unfold HdSz at this; omega
  have hdr : Below w2.heap.size w2 w2.drew := ⟨rfl, rfl, rfl, Nat.le_refl _, fun _ _ => rfl⟩
  have hE : Below w2.heap.size w2 (w2.alloc (.cells #[] 29)).drew := ((Below.refl _ _).alloc (Nat.le_refl _) _).drew
  have hZ : Below w2.heap.size w2 (w2.alloc (.cells #[.string ⟨#[]⟩, .slice none 0 0] 32)).drew := ((Below.refl _ _).alloc (Nat.le_refl _) _).drew
  have hZE : Below w2.heap.size w2 ((w2.alloc (.cells #[.string ⟨#[]⟩, .slice none 0 0] 32)).alloc (.cells #[] 29)).drew := (((Below.refl _ _).alloc (Nat.le_refl _) _).alloc (by simp) _).drew
  have hEZ : Below w2.heap.size w2 ((w2.alloc (.cells #[] 29)).alloc (.cells #[.string ⟨#[]⟩, .slice none 0 0] 32)).drew := (((Below.refl _ _).alloc (Nat.le_refl _) _).alloc (by simp) _).drew
  have below_grown : ∀ {W wA : World} {G : Nat}, Below w2.heap.size w2 W → W.grownBy wA (some G) → w2.heap.size ≤ G → Below w2.heap.size w2 wA := fun hb hg hG => hb.trans ⟨hg.os, hg.tape, hg.output, hg.size, fun j hj => hg.block j (Nat.lt_of_lt_of_le hj hb.size) (fun e => by cases e; omega)⟩
  obtain ⟨gA, cA, wA, rA, oA, bA⟩ := all0_run (P := Tryz.prog) (w := (w2.alloc (.cells #[] 29)).drew) (G := w2.heap.size) (e := 29) (t := 30) (c := c) Tryz.underlying30 Tryz.infoFd (heap_alloc_new w2 _) (HA2.out.on hE) hLb
  obtain ⟨gB, cB, wB, rB, oB, bB⟩ := all0_run (P := Tryz.prog) (w := ((w2.alloc (.cells #[.string ⟨#[]⟩, .slice none 0 0] 32)).alloc (.cells #[] 29)).drew) (G := w2.heap.size + 1) (e := 29) (t := 30) (c := c) Tryz.underlying30 Tryz.infoFd (by
    have h := heap_alloc_new (w2.alloc (.cells #[.string ⟨#[]⟩, .slice none 0 0] 32)) (.cells #[] 29)
    rw [show (w2.alloc (.cells #[.string ⟨#[]⟩, .slice none 0 0] 32)).heap.size = w2.heap.size + 1 by simp] at h
    exact h) (HA2.out.on hZE) hLb
  obtain ⟨gC, cC, wC, rC, oC, bC⟩ := all0_run (P := Tryz.prog) (w := ((w2.alloc (.cells #[] 29)).alloc (.cells #[.string ⟨#[]⟩, .slice none 0 0] 32)).drew) (G := w2.heap.size) (e := 29) (t := 30) (c := c) Tryz.underlying30 Tryz.infoFd (by
    have h := heap_alloc_new w2 (.cells #[] 29)
    exact (Below.heap_alloc _ _ _ (by simp)).trans h) (HA2.out.on hEZ) hLb
  have HRA : Hid (AppF Tryz.prog 30 (w2.alloc (.cells #[] 29)).drew (.slice (some ⟨w2.heap.size, 0, none⟩) 0 0) (.slice a L.length c) (.slice (some ⟨gA, 0, none⟩) L.length cA) wA ∧ OwnD wA w2.heap.size 29 (.slice (some ⟨gA, 0, none⟩) L.length cA) L ∧ Below w2.heap.size w2 wA) := ⟨rA, oA, below_grown hE bA (Nat.le_refl _)⟩
  have HRB : Hid (AppF Tryz.prog 30 ((w2.alloc (.cells #[.string ⟨#[]⟩, .slice none 0 0] 32)).alloc (.cells #[] 29)).drew (.slice (some ⟨w2.heap.size + 1, 0, none⟩) 0 0) (.slice a L.length c) (.slice (some ⟨gB, 0, none⟩) L.length cB) wB ∧ OwnD wB w2.heap.size 29 (.slice (some ⟨gB, 0, none⟩) L.length cB) L ∧ Below w2.heap.size w2 wB ∧ HBx wB w2.heap.size 32 (.string ⟨#[]⟩) (.slice none 0 0)) := by
    refine ⟨rB, oB.mono (by omega), below_grown hZE bB (by omega), ?_⟩
    have h1 : HBx ((w2.alloc (.cells #[.string ⟨#[]⟩, .slice none 0 0] 32)).alloc (.cells #[] 29)).drew w2.heap.size 32 (.string ⟨#[]⟩) (.slice none 0 0) := (HBx.new w2 _ _ _).on (((Below.refl _ _).alloc (Nat.le_refl _) _).drew)
    exact h1.kept (bB.block _ h1.lt (fun e => by simp at e))
  have HRC : Hid (AppF Tryz.prog 30 ((w2.alloc (.cells #[] 29)).alloc (.cells #[.string ⟨#[]⟩, .slice none 0 0] 32)).drew (.slice (some ⟨w2.heap.size, 0, none⟩) 0 0) (.slice a L.length c) (.slice (some ⟨gC, 0, none⟩) L.length cC) wC ∧ OwnD wC w2.heap.size 29 (.slice (some ⟨gC, 0, none⟩) L.length cC) L ∧ Below w2.heap.size w2 wC ∧ HBx wC (w2.heap.size + 1) 32 (.string ⟨#[]⟩) (.slice none 0 0)) := by
    refine ⟨rC, oC, below_grown hEZ bC (Nat.le_refl _), ?_⟩
    have h1 : HBx ((w2.alloc (.cells #[] 29)).alloc (.cells #[.string ⟨#[]⟩, .slice none 0 0] 32)).drew (w2.heap.size + 1) 32 (.string ⟨#[]⟩) (.slice none 0 0) := by
      have h := HBx.new (w2.alloc (.cells #[] 29)) 32 (.string ⟨#[]⟩) (.slice none 0 0)
      rw [show (w2.alloc (.cells #[] 29)).heap.size = w2.heap.size + 1 by simp] at h
      exact h
    exact h1.kept (bC.block _ h1.lt (fun e => by simp at e))
  have NEW : ∀ W : World, HBx (W.alloc (.cells #[.string ⟨#[]⟩, .slice none 0 0] 32)) W.heap.size 32 (.string ⟨#[]⟩) (.slice none 0 0) := fun W => HBx.new W _ _ _
  have GRW : ∀ (W : World) (o : Obj), Below w2.heap.size w2 W → Below w2.heap.size w2 (W.alloc o) := fun W o h => h.alloc h.size _
  have NEWF : ∀ (W : World) (o : Obj), ((W.alloc o).alloc (.cells #[.string ⟨#[99, 111, 110, 116, 101, 110, 116, 45, 108, 101, 110, 103, 116, 104]⟩, .string D] 29)).heap[W.heap.size + 1]? = some (.cells #[.string clN, .string D] 29 (0, 0)) := by
    intro W o
    have h := heap_alloc_new (W.alloc o) (.cells #[.string ⟨#[99, 111, 110, 116, 101, 110, 116, 45, 108, 101, 110, 103, 116, 104]⟩, .string D] 29)
    rw [show (W.alloc o).heap.size = W.heap.size + 1 by simp] at h
    exact h
  have NEWZ : ∀ (W : World) (o : Obj), HBx ((W.alloc o).alloc (.cells #[.string ⟨#[]⟩, .slice none 0 0] 32)) (W.heap.size + 1) 32 (.string ⟨#[]⟩) (.slice none 0 0) := by
    intro W o
    have h := HBx.new (W.alloc o) 32 (.string ⟨#[]⟩) (.slice none 0 0)
    rw [show (W.alloc o).heap.size = W.heap.size + 1 by simp] at h
    exact h
  have OWNG : ∀ (W wG : World) (v : Value) (A : List (ByteArray × ByteArray)), Below w2.heap.size w2 W → OwnD W w2.heap.size 29 v A → W.grownBy wG v.ownBlock → Below w2.heap.size w2 wG := fun W wG v A hb ho hg => hb.trans ⟨hg.os, hg.tape, hg.output, hg.size, fun j hj => hg.block j (Nat.lt_of_lt_of_le hj hb.size) (fun e => by have := (ho.lt j e.symm).1; omega)⟩
  have PUT : ∀ (W : World) (T : Nat) (u : Value), Below w2.heap.size w2 W → w2.heap.size ≤ T → Below w2.heap.size w2 ((W.setCell ⟨T, 0, none⟩ (.string line)).setCell ⟨T, 1, none⟩ u) := fun W T u h hT => (h.setCell (p := ⟨T, 0, none⟩) hT _).setCell (p := ⟨T, 1, none⟩) hT _
  have FINI : ∀ (W : World) (T g k : Nat), Below w2.heap.size w2 W → w2.heap.size ≤ T → HBx W T 32 (.string ⟨#[]⟩) (.slice none 0 0) → OwnD W w2.heap.size 29 (.slice (some ⟨g, 0, none⟩) (L.length + 1) k) (L ++ [(clN, D)]) → HBx ((W.setCell ⟨T, 0, none⟩ (.string line)).setCell ⟨T, 1, none⟩ (.slice (some ⟨g, 0, none⟩) (L.length + 1) k)) T 32 (.string line) (.slice (some ⟨g, 0, none⟩) (L.length + 1) k) ∧ DAt ((W.setCell ⟨T, 0, none⟩ (.string line)).setCell ⟨T, 1, none⟩ (.slice (some ⟨g, 0, none⟩) (L.length + 1) k)) (some ⟨g, 0, none⟩) (L ++ [(clN, D)]) ((W.setCell ⟨T, 0, none⟩ (.string line)).setCell ⟨T, 1, none⟩ (.slice (some ⟨g, 0, none⟩) (L.length + 1) k)).heap.size ∧ Below w2.heap.size w2 ((W.setCell ⟨T, 0, none⟩ (.string line)).setCell ⟨T, 1, none⟩ (.slice (some ⟨g, 0, none⟩) (L.length + 1) k)) := by
    intro W T g k hb hT hx ho
    have hO := ho.kept (w' := (W.setCell ⟨T, 0, none⟩ (.string line)).setCell ⟨T, 1, none⟩ (.slice (some ⟨g, 0, none⟩) (L.length + 1) k)) fun q hq => put2_other _ _ _ _ q (hx.neD (by decide) ho q hq)
    obtain ⟨a9, c9, e9, hD9⟩ := hO.at
    injection e9 with e1 _ _
    rw [← e1] at hD9
    exact ⟨hx.put _ _, hD9, PUT W T _ hb hT⟩
  have FINA : ∀ (W : World) (g k : Nat), Below w2.heap.size w2 W → OwnD W w2.heap.size 29 (.slice (some ⟨g, 0, none⟩) (L.length + 1) k) (L ++ [(clN, D)]) → HBx (W.alloc (.cells #[.string line, .slice (some ⟨g, 0, none⟩) (L.length + 1) k] 32)) W.heap.size 32 (.string line) (.slice (some ⟨g, 0, none⟩) (L.length + 1) k) ∧ DAt (W.alloc (.cells #[.string line, .slice (some ⟨g, 0, none⟩) (L.length + 1) k] 32)) (some ⟨g, 0, none⟩) (L ++ [(clN, D)]) (W.alloc (.cells #[.string line, .slice (some ⟨g, 0, none⟩) (L.length + 1) k] 32)).heap.size ∧ Below w2.heap.size w2 (W.alloc (.cells #[.string line, .slice (some ⟨g, 0, none⟩) (L.length + 1) k] 32)) := by
    intro W g k hb ho
    obtain ⟨a9, c9, e9, hD9⟩ := (ho.alloc (.cells #[.string line, .slice (some ⟨g, 0, none⟩) (L.length + 1) k] 32)).at
    injection e9 with e1 _ _
    rw [← e1] at hD9
    exact ⟨HBx.new _ _ _ _, hD9, GRW _ _ hb⟩
  clear rA oA bA rB oB bB rC oC bC below_grown hD hDe hM
  go_wp2_with fail
  go_cut [10] (fun p wc => ∃ (T : Nat) (a5 : Option Addr) (k5 : Nat), p = .pointer (some ⟨T, 0, none⟩) ∧ HBx wc T 32 (.string line) (.slice a5 M.length k5) ∧ DAt wc a5 M wc.heap.size ∧ Below w2.heap.size w2 wc)
  case first =>
    go_region_held3 (fun W => Below w2.heap.size w2 W ∧ W.cell? ⟨w.heap.size, 0, none⟩ = some (.string line) ∧ W.cell? ⟨w.heap.size, 1, none⟩ = some (.slice a L.length c)) (first | with_reducible exact KS _ hdr | with_reducible exact KS _ hE | with_reducible exact KS _ hZ | with_reducible exact KS _ hZE | with_reducible exact KS _ hEZ | with_reducible exact KS _ hC | with_reducible exact KS _ (GRW _ _ hC) | with_reducible exact KS _ (GRW _ _ (GRW _ _ hC)) | with_reducible exact KS _ (PUT _ _ _ hC hzT))
      (first
        | (refine step_app10 (v10 := undef) (by rfl) HRA.out.1 (by rfl) (by rfl) (.tmp 23) (.tmp 25) (by rfl) (by rfl) (by rfl) ?_; have hO := HRA.out.2.1; have hC := HRA.out.2.2)
        | (refine step_app10 (v10 := .pointer (some ⟨w2.heap.size, 0, none⟩)) (by rfl) HRB.out.1 (by rfl) (by rfl) (.tmp 23) (.tmp 25) (by rfl) (by rfl) (by rfl) ?_; have hO := HRB.out.2.1; have hC := HRB.out.2.2.1; have hz := HRB.out.2.2.2; have hzT : w2.heap.size ≤ w2.heap.size := Nat.le_refl _)
        | (refine step_app10 (v10 := .pointer (some ⟨w2.heap.size + 1, 0, none⟩)) (by rfl) HRC.out.1 (by rfl) (by rfl) (.tmp 23) (.tmp 25) (by rfl) (by rfl) (by rfl) ?_; have hO := HRC.out.2.1; have hC := HRC.out.2.2.1; have hz := HRC.out.2.2.2; have hzT : w2.heap.size ≤ w2.heap.size + 1 := Nat.le_succ _)
        | (go_at_call 7; first
            | (with_reducible refine (CD.out wA).mono ?_; rintro e wD ⟨rfl, hbD⟩; have hO := OwnD.below hO hbD (Nat.le_refl _); replace hC : Below w2.heap.size w2 wD := hC.trans (hbD.mono hC.size))
            | (with_reducible refine (CD.out (wA.alloc (.cells #[.string ⟨#[]⟩, .slice none 0 0] 32))).mono ?_; rintro e wD ⟨rfl, hbD⟩; have hz := (NEW wA).on hbD; have hzT : w2.heap.size ≤ wA.heap.size := hC.size; have hO := OwnD.below (hO.alloc _) hbD (Nat.le_refl _); replace hC : Below w2.heap.size w2 wD := (GRW _ _ hC).trans (hbD.mono (GRW _ _ hC).size))
            | (with_reducible refine (CD.out wB).mono ?_; rintro e wD ⟨rfl, hbD⟩; have hz := HBx.on hz hbD; have hO := OwnD.below hO hbD (Nat.le_refl _); replace hC : Below w2.heap.size w2 wD := hC.trans (hbD.mono hC.size))
            | (with_reducible refine (CD.out wC).mono ?_; rintro e wD ⟨rfl, hbD⟩; have hz := HBx.on hz hbD; have hO := OwnD.below hO hbD (Nat.le_refl _); replace hC : Below w2.heap.size w2 wD := hC.trans (hbD.mono hC.size)))
        | (refine step_sn10 (v10 := undef) (f := (clN, D)) (B := wD.heap.size) (by rfl) (GRW wD (.cells #[.string ⟨#[99, 111, 110, 116, 101, 110, 116, 45, 108, 101, 110, 103, 116, 104]⟩, .string D] 29) hC) (hO.alloc (.cells #[.string ⟨#[99, 111, 110, 116, 101, 110, 116, 45, 108, 101, 110, 103, 116, 104]⟩, .string D] 29)) (heap_alloc_new wD (.cells #[.string ⟨#[99, 111, 110, 116, 101, 110, 116, 45, 108, 101, 110, 103, 116, 104]⟩, .string D] 29)) hLb Tryz.underlying30 Tryz.infoFd (by rfl) (by rfl) (.tmp 26) (.tmp 31) (by rfl) (by rfl) (by rfl) ?_; intro g2 k2 wG hO2 hC2 hZ2; replace hC := hC2; clear hC2; have hO := hO2; clear hO2 hZ2)
        | (refine step_sn10 (v10 := .pointer (some ⟨w2.heap.size, 0, none⟩)) (f := (clN, D)) (B := wD.heap.size) (by rfl) (GRW wD (.cells #[.string ⟨#[99, 111, 110, 116, 101, 110, 116, 45, 108, 101, 110, 103, 116, 104]⟩, .string D] 29) hC) (hO.alloc (.cells #[.string ⟨#[99, 111, 110, 116, 101, 110, 116, 45, 108, 101, 110, 103, 116, 104]⟩, .string D] 29)) (heap_alloc_new wD (.cells #[.string ⟨#[99, 111, 110, 116, 101, 110, 116, 45, 108, 101, 110, 103, 116, 104]⟩, .string D] 29)) hLb Tryz.underlying30 Tryz.infoFd (by rfl) (by rfl) (.tmp 26) (.tmp 31) (by rfl) (by rfl) (by rfl) ?_; intro g2 k2 wG hO2 hC2 hZ2; have hz := hZ2 _ _ _ (HBx.on hz ((Below.refl _ wD).alloc (Nat.le_refl _) _)); replace hC := hC2; clear hC2; have hO := hO2; clear hO2 hZ2; obtain ⟨c0, c1⟩ := HBx.cells hz; have y0 := HBx.thaw hz 0; have y1 := HBx.thaw hz 1)
        | (refine step_sn10 (v10 := .pointer (some ⟨w2.heap.size + 1, 0, none⟩)) (f := (clN, D)) (B := wD.heap.size) (by rfl) (GRW wD (.cells #[.string ⟨#[99, 111, 110, 116, 101, 110, 116, 45, 108, 101, 110, 103, 116, 104]⟩, .string D] 29) hC) (hO.alloc (.cells #[.string ⟨#[99, 111, 110, 116, 101, 110, 116, 45, 108, 101, 110, 103, 116, 104]⟩, .string D] 29)) (heap_alloc_new wD (.cells #[.string ⟨#[99, 111, 110, 116, 101, 110, 116, 45, 108, 101, 110, 103, 116, 104]⟩, .string D] 29)) hLb Tryz.underlying30 Tryz.infoFd (by rfl) (by rfl) (.tmp 26) (.tmp 31) (by rfl) (by rfl) (by rfl) ?_; intro g2 k2 wG hO2 hC2 hZ2; have hz := hZ2 _ _ _ (HBx.on hz ((Below.refl _ wD).alloc (Nat.le_refl _) _)); replace hC := hC2; clear hC2; have hO := hO2; clear hO2 hZ2; obtain ⟨c0, c1⟩ := HBx.cells hz; have y0 := HBx.thaw hz 0; have y1 := HBx.thaw hz 1)
        | (refine step_sn10 (v10 := .pointer (some ⟨wA.heap.size, 0, none⟩)) (f := (clN, D)) (B := wD.heap.size) (by rfl) (GRW wD (.cells #[.string ⟨#[99, 111, 110, 116, 101, 110, 116, 45, 108, 101, 110, 103, 116, 104]⟩, .string D] 29) hC) (hO.alloc (.cells #[.string ⟨#[99, 111, 110, 116, 101, 110, 116, 45, 108, 101, 110, 103, 116, 104]⟩, .string D] 29)) (heap_alloc_new wD (.cells #[.string ⟨#[99, 111, 110, 116, 101, 110, 116, 45, 108, 101, 110, 103, 116, 104]⟩, .string D] 29)) hLb Tryz.underlying30 Tryz.infoFd (by rfl) (by rfl) (.tmp 26) (.tmp 31) (by rfl) (by rfl) (by rfl) ?_; intro g2 k2 wG hO2 hC2 hZ2; have hz := hZ2 _ _ _ (HBx.on hz ((Below.refl _ wD).alloc (Nat.le_refl _) _)); replace hC := hC2; clear hC2; have hO := hO2; clear hO2 hZ2; obtain ⟨c0, c1⟩ := HBx.cells hz; have y0 := HBx.thaw hz 0; have y1 := HBx.thaw hz 1)
        | (refine step_sn10 (v10 := .pointer (some ⟨wD.heap.size, 0, none⟩)) (f := (clN, D)) (B := wD.heap.size + 1) (by rfl) (GRW (wD.alloc (.cells #[.string ⟨#[]⟩, .slice none 0 0] 32)) (.cells #[.string ⟨#[99, 111, 110, 116, 101, 110, 116, 45, 108, 101, 110, 103, 116, 104]⟩, .string D] 29) (GRW wD (.cells #[.string ⟨#[]⟩, .slice none 0 0] 32) hC)) ((hO.alloc (.cells #[.string ⟨#[]⟩, .slice none 0 0] 32)).alloc (.cells #[.string ⟨#[99, 111, 110, 116, 101, 110, 116, 45, 108, 101, 110, 103, 116, 104]⟩, .string D] 29)) (NEWF wD (.cells #[.string ⟨#[]⟩, .slice none 0 0] 32)) hLb Tryz.underlying30 Tryz.infoFd (by rfl) (by rfl) (.tmp 26) (.tmp 31) (by rfl) (by rfl) (by rfl) ?_; intro g2 k2 wG hO2 hC2 hZ2; have hz := hZ2 _ _ _ (HBx.on (NEW wD) ((Below.refl _ _).alloc (Nat.le_refl _) _)); have hzT : w2.heap.size ≤ wD.heap.size := hC.size; replace hC := hC2; clear hC2; have hO := hO2; clear hO2 hZ2; obtain ⟨c0, c1⟩ := HBx.cells hz; have y0 := HBx.thaw hz 0; have y1 := HBx.thaw hz 1)
        | (refine step_sn10 (v10 := .pointer (some ⟨wD.heap.size + 1, 0, none⟩)) (f := (clN, D)) (B := wD.heap.size) (by rfl) (GRW (wD.alloc (.cells #[.string ⟨#[99, 111, 110, 116, 101, 110, 116, 45, 108, 101, 110, 103, 116, 104]⟩, .string D] 29)) (.cells #[.string ⟨#[]⟩, .slice none 0 0] 32) (GRW wD (.cells #[.string ⟨#[99, 111, 110, 116, 101, 110, 116, 45, 108, 101, 110, 103, 116, 104]⟩, .string D] 29) hC)) ((hO.alloc (.cells #[.string ⟨#[99, 111, 110, 116, 101, 110, 116, 45, 108, 101, 110, 103, 116, 104]⟩, .string D] 29)).alloc (.cells #[.string ⟨#[]⟩, .slice none 0 0] 32)) ((Below.heap_alloc _ _ _ (by simp)).trans (heap_alloc_new wD (.cells #[.string ⟨#[99, 111, 110, 116, 101, 110, 116, 45, 108, 101, 110, 103, 116, 104]⟩, .string D] 29))) hLb Tryz.underlying30 Tryz.infoFd (by rfl) (by rfl) (.tmp 26) (.tmp 31) (by rfl) (by rfl) (by rfl) ?_; intro g2 k2 wG hO2 hC2 hZ2; have hz := hZ2 _ _ _ (NEWZ wD (.cells #[.string ⟨#[99, 111, 110, 116, 101, 110, 116, 45, 108, 101, 110, 103, 116, 104]⟩, .string D] 29)); have hzT : w2.heap.size ≤ wD.heap.size + 1 := Nat.le_succ_of_le hC.size; replace hC := hC2; clear hC2; have hO := hO2; clear hO2 hZ2; obtain ⟨c0, c1⟩ := HBx.cells hz; have y0 := HBx.thaw hz 0; have y1 := HBx.thaw hz 1)
        | fail)
    all_goals go_wp2_with fail
    all_goals go_meet
    all_goals (refine ⟨_, some ⟨g2, 0, none⟩, k2, rfl, ?_⟩; rw [← HML.out, ← HMM.out])
    all_goals first
      | with_reducible exact FINI _ _ _ _ hC hzT hz hO
      | with_reducible exact FINA _ _ _ hC hO
  case rest =>
    obtain ⟨T, a5, k5, rfl, hx5, hD5, hbc⟩ := hcut
    obtain ⟨w3, hw3⟩ : ∃ x, wc = x := ⟨_, rfl⟩
    rw [hw3] at hx5 hD5 hbc ⊢
    clear hw3 HRA HRB HRC NEW GRW NEWF NEWZ OWNG PUT FINI FINA KS hdr hE hZ hZE hEZ CD x0 x1
    have HB3 : Hid (Below w.heap.size w w3) := HB2.out.trans (hbc.mono HB2.out.size)
    have HX3 : Hid (∀ wi, Below w3.heap.size w3 wi → wi.cell? ⟨T, 0, none⟩ = some (.string line) ∧ wi.cell? ⟨T, 1, none⟩ = some (.slice a5 M.length k5) ∧ DAt wi a5 M wi.heap.size) := fun wi hi => ⟨(hx5.on hi).cells.1, (hx5.on hi).cells.2, hD5.on hi⟩
    cases g1 with
    | true =>
      have HE : Hid (R = (⟨#[]⟩, false)) := by show _ = _; rw [← HR.out, if_pos (by simp)]
      clear HR hx5 hD5 hbc
      go_wp2_with fail
      go_ret2
      exact ⟨by rw [HE.out]; rfl, HB3.out⟩
    | false =>
    cases g2 with
    | true =>
      have HE : Hid (R = (⟨#[]⟩, false)) := by show _ = _; rw [← HR.out, if_pos (by simp)]
      clear HR hx5 hD5 hbc
      go_wp2_with fail
      go_ret2
      exact ⟨by rw [HE.out]; rfl, HB3.out⟩
    | false =>
    by_cases h4 : 400 < body.size
    · have h4i : (400 : Int) < (body.size : Int) := by omega
      have HE : Hid (R = (⟨#[]⟩, false)) := by show _ = _; rw [← HR.out, if_pos (by simp [h4])]
      clear HR h4 hx5 hD5 hbc
      go_wp2_with fail
      go_ret2
      exact ⟨by rw [HE.out]; rfl, HB3.out⟩
    have h4i : ¬ (400 : Int) < (body.size : Int) := by omega
    have HR2 : Hid ((if headOkS line M = true then (headT line M ++ body, true) else (⟨#[]⟩, false)) = R) := by
      have h := HR.out
      rw [show decide (400 < body.size) = false from decide_eq_false h4, HAF.out] at h
      show _ = _
      cases hq : headOkS line M with
      | true => rw [hq] at h; simpa using h
      | false => rw [hq] at h; simpa using h
    have HZW : Hid (HdSw line M) := by show HdSw _ _; rw [← HAF.out]; exact ans_wide HZ.out body.size (by omega)
    have c4 := specHeadOk_w w3 a5 k5 line M hD5 HZW.out
    obtain ⟨x0, x1, _⟩ := HX3.out w3 (Below.refl _ _)
    cases hok : headOkS line M with
    | false =>
      rw [hok] at c4
      have HE : Hid (R = (⟨#[]⟩, false)) := by show _ = _; rw [← HR2.out, hok]; rfl
      clear HR HR2 h4 hx5 hD5 hbc hok HX3
      go_wp2_with fail
      refine c4.mono ?_
      rintro e w4 ⟨rfl, hb4⟩
      have HB4 : Hid (Below w.heap.size w w4) := HB3.out.trans (hb4.mono HB3.out.size)
      clear c4 x0 x1 hb4
      go_wp2_with fail
      go_ret2
      exact ⟨by rw [HE.out]; rfl, HB4.out⟩
    | true =>
      rw [hok] at c4
      have h300 : (headT line M).size ≤ 300 := by
        unfold headOkS at hok
        simp only [Bool.and_eq_true, decide_eq_true_eq] at hok
        exact hok.2
      have CT : Hid (∀ wi, Below w3.heap.size w3 wi → Calls Tryz.prog 31 #[.agg #[.string line, .slice a5 M.length k5]] wi fun e w' => e = .returned (.string (headT line M)) ∧ Below wi.heap.size wi w') := fun wi hi => specText_w wi a5 k5 line M (HX3.out wi hi).2.2 HZW.out
      have HE : Hid (R = (headT line M ++ body, true)) := by show _ = _; rw [← HR2.out, hok]; rfl
      generalize headT line M = H1 at CT HE h300
      have a1 := fun w => run_string_add_sum (P := Tryz.prog) (w := w) H1 body (by omega)
      generalize H1 ++ body = S at a1 HE
      clear HR HR2 h4 hx5 hD5 hbc hok
      go_wp2_with fail
      refine c4.mono ?_
      rintro e w4 ⟨rfl, hb4⟩
      have HB4 : Hid (Below w.heap.size w w4) := HB3.out.trans (hb4.mono HB3.out.size)
      clear c4 x0 x1
      obtain ⟨x0, x1, _⟩ := HX3.out w4 hb4
      have c5 := CT.out w4 hb4
      clear CT hb4
      go_wp2_with fail
      refine c5.mono ?_
      rintro e w5 ⟨rfl, hb5⟩
      have HB5 : Hid (Below w.heap.size w w5) := HB4.out.trans (hb5.mono HB4.out.size)
      clear c5 x0 x1 hb5
      go_wp2_with fail
      go_ret2
      exact ⟨by rw [HE.out]; rfl, HB5.out⟩
end Go.Proofs.YtnnaphfeeobelaeGreatDoor
