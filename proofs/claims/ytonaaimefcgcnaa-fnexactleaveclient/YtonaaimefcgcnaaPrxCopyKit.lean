/- The program copies a proxy. Written by mkprx3.py. -/
import Derived.Test.YtonaaimefcgcnaaPrxBase
import Derived.Test.YtonaaimefcgcnaaFetPlusJ
import Derived.Test.YtonaaimefcgcnaaEnsLawJ
import Derived.Test.YtonaaimefcgcnaaCliLaw
import Derived.Test.YtonaaimefcgcnaaPolSzTextJ
import Derived.Test.YtonaaimefcgcnaaShelf
import Derived.Deep.DeepCutAuto
import Derived.Deep.RegionHeld3
namespace Go.Proofs.Ytonaaimefcgcnaa
open Go.RowKit Go.Sort
theorem cloneP_any (s : ByteArray) (w : World) (h : s.size ≤ 1048576) :
    Calls Try.prog 91 #[.string s] w fun e w' => e = .returned (.string s) ∧ Below w.heap.size w w' := by
  go_enter Try.func91, Try.ntmps91
  go_wp2_with fail
  refine (Try.stringslite_Clone s w (by omega)).mono ?_
  rintro e w1 ⟨rfl, hb⟩
  go_wp2
  go_ret
  exact ⟨rfl, hb⟩
theorem policyCopy_v (w : World) (x y z : Value) (P : Pol) (h : PlV w x y z P w.heap.size) (hsz : PolSz P) :
    Calls Try.prog 89 #[.agg #[x, y, z, .int .i64 P.sk.added]] w fun e w' => ∃ aw cw am cm ak ck, e = .returned (.agg #[.slice aw P.win.length cw, .slice am P.main.length cm, .slice ak P.sk.rows.length ck, .int .i64 P.sk.added]) ∧ POwn w' w.heap.size w'.heap.size (.agg #[.slice aw P.win.length cw, .slice am P.main.length cm, .slice ak P.sk.rows.length ck, .int .i64 P.sk.added]) P ∧ Below w.heap.size w w' := by
  obtain ⟨aw, cw, am, cm, ak, ck, rfl, rfl, rfl, hA⟩ := h.at
  refine (policyCopy_any w aw am ak cw cm ck P hA hsz).mono ?_
  rintro e w' ⟨v, rfl, ho, hb⟩
  obtain ⟨b1, d1, b2, d2, b3, d3, rfl, _⟩ := ho.at
  exact ⟨b1, d1, b2, d2, b3, d3, rfl, ho, hb⟩
theorem PxOwn.start {w : World} {lo hi : Nat} {x y z : Value} {P : Pol} {now hits : Int} (h : POwn w lo hi (.agg #[x, y, z, .int .i64 P.sk.added]) P) : PxOwn w lo hi ⟨.slice none 0 0, x, y, z, .slice none 0 0, .slice none 0 0⟩ ⟨now, [], P, [], [], hits⟩ :=
  ⟨ownN_nil _ _ _, h, OwnFet.nil _ _ _, OwnCli.nil _ _ _, fun k hk => by simp [Value.ownBlock] at hk, fun k hk => by simp [Value.ownBlock] at hk, fun k hk => by simp [Value.ownBlock] at hk⟩


theorem gat_b {w1 wP : World} {lo : Nat} {x y z : Value} {P : Pol} (now hits : Int) (oP : POwn wP lo wP.heap.size (.agg #[x, y, z, .int .i64 P.sk.added]) P) (fP : Below lo w1 wP) (hlo : lo ≤ wP.heap.size) :
    NB (wP.alloc (.cells #[.int .i64 now, .slice none 0 0, x, y, z, .int .i64 P.sk.added, .slice none 0 0, .slice none 0 0, .int .i64 hits] 51)) wP.heap.size 51 (.int .i64 now) (.slice none 0 0) x y z (.int .i64 P.sk.added) (.slice none 0 0) (.slice none 0 0) (.int .i64 hits) ∧ PxOwn (wP.alloc (.cells #[.int .i64 now, .slice none 0 0, x, y, z, .int .i64 P.sk.added, .slice none 0 0, .slice none 0 0, .int .i64 hits] 51)) lo (wP.alloc (.cells #[.int .i64 now, .slice none 0 0, x, y, z, .int .i64 P.sk.added, .slice none 0 0, .slice none 0 0, .int .i64 hits] 51)).heap.size ⟨.slice none 0 0, x, y, z, .slice none 0 0, .slice none 0 0⟩ (Prx.mk now [] P [] [] hits) ∧ Below lo w1 (wP.alloc (.cells #[.int .i64 now, .slice none 0 0, x, y, z, .int .i64 P.sk.added, .slice none 0 0, .slice none 0 0, .int .i64 hits] 51)) ∧ lo ≤ wP.heap.size :=
  ⟨NB.new _ _ _ _ _ _ _ _ _ _ _, ((PxOwn.start oP).below ((Below.refl _ _).alloc (Nat.le_refl _) _) (Nat.le_refl _)).up, fP.alloc hlo _, hlo⟩
theorem gat_a {w1 wP : World} {lo T : Nat} {x y z a0 a1 a2 a3 a4 a5 a6 a7 a8 : Value} {P : Pol} (now hits : Int) (oP : POwn wP lo wP.heap.size (.agg #[x, y, z, .int .i64 P.sk.added]) P) (fP : Below lo w1 wP) (hlo : lo ≤ T) (hN : NB wP T 51 a0 a1 a2 a3 a4 a5 a6 a7 a8) :
    NB (((((((((wP.setCell ⟨T, 0, none⟩ (.int .i64 now)).setCell ⟨T, 1, none⟩ (.slice none 0 0)).setCell ⟨T, 2, none⟩ x).setCell ⟨T, 3, none⟩ y).setCell ⟨T, 4, none⟩ z).setCell ⟨T, 5, none⟩ (.int .i64 P.sk.added)).setCell ⟨T, 6, none⟩ (.slice none 0 0)).setCell ⟨T, 7, none⟩ (.slice none 0 0)).setCell ⟨T, 8, none⟩ (.int .i64 hits)) T 51 (.int .i64 now) (.slice none 0 0) x y z (.int .i64 P.sk.added) (.slice none 0 0) (.slice none 0 0) (.int .i64 hits) ∧ PxOwn (((((((((wP.setCell ⟨T, 0, none⟩ (.int .i64 now)).setCell ⟨T, 1, none⟩ (.slice none 0 0)).setCell ⟨T, 2, none⟩ x).setCell ⟨T, 3, none⟩ y).setCell ⟨T, 4, none⟩ z).setCell ⟨T, 5, none⟩ (.int .i64 P.sk.added)).setCell ⟨T, 6, none⟩ (.slice none 0 0)).setCell ⟨T, 7, none⟩ (.slice none 0 0)).setCell ⟨T, 8, none⟩ (.int .i64 hits)) lo (((((((((wP.setCell ⟨T, 0, none⟩ (.int .i64 now)).setCell ⟨T, 1, none⟩ (.slice none 0 0)).setCell ⟨T, 2, none⟩ x).setCell ⟨T, 3, none⟩ y).setCell ⟨T, 4, none⟩ z).setCell ⟨T, 5, none⟩ (.int .i64 P.sk.added)).setCell ⟨T, 6, none⟩ (.slice none 0 0)).setCell ⟨T, 7, none⟩ (.slice none 0 0)).setCell ⟨T, 8, none⟩ (.int .i64 hits)).heap.size ⟨.slice none 0 0, x, y, z, .slice none 0 0, .slice none 0 0⟩ (Prx.mk now [] P [] [] hits) ∧ Below lo w1 (((((((((wP.setCell ⟨T, 0, none⟩ (.int .i64 now)).setCell ⟨T, 1, none⟩ (.slice none 0 0)).setCell ⟨T, 2, none⟩ x).setCell ⟨T, 3, none⟩ y).setCell ⟨T, 4, none⟩ z).setCell ⟨T, 5, none⟩ (.int .i64 P.sk.added)).setCell ⟨T, 6, none⟩ (.slice none 0 0)).setCell ⟨T, 7, none⟩ (.slice none 0 0)).setCell ⟨T, 8, none⟩ (.int .i64 hits)) ∧ lo ≤ T :=
  ⟨hN.put _ _ _ _ _ _ _ _ _, ((PxOwn.start oP).box hN (by unfold PxT; decide) (fun k hk => put9_other wP T _ _ _ _ _ _ _ _ _ k hk)).up, Below.put9 fP hlo _ _ _ _ _ _ _ _ _, hlo⟩
theorem PxOwn.setE {w w2 : World} {lo hi : Nat} {X : Pc} {R : Prx} {v2 : Value} {L2 : List En} (h : PxOwn w lo hi X R) (hg : w.grownBy w2 X.e.ownBlock) (ho : OwnN w2 lo 101 v2 L2) : PxOwn w2 lo w2.heap.size ⟨v2, X.w, X.m, X.k, X.f, X.c⟩ ⟨R.now, L2, R.pol, R.fes, R.cls, R.hits⟩ := by
  have hp : POwn w2 lo hi (.agg #[X.w, X.m, X.k, .int .i64 R.pol.sk.added]) R.pol := h.p.keptT fun k _ _ hk hty => hg.block k hk (fun e => by
    obtain ⟨cs, hcs⟩ := h.e.type k e.symm
    obtain ⟨cs', t', h1, h2⟩ := hty _ hcs
    simp only [Obj.cells.injEq] at h1
    rw [← h1.2.1] at h2
    revert h2
    decide)
  have hf : OwnFet w2 lo 103 X.f R.fes := h.f.grown hg fun q hq e => by
    obtain ⟨cs, h1⟩ := h.f.type q hq
    obtain ⟨cs', h2⟩ := h.e.type q e
    rw [h1] at h2
    simp at h2
  have hc : OwnCli w2 lo 68 X.c R.cls := h.c.grown hg fun q hq e => by
    obtain ⟨cs, h1⟩ := h.c.type q hq
    obtain ⟨cs', h2⟩ := h.e.type q e
    rw [h1] at h2
    simp at h2
  exact ⟨ho, hp.up, hf, hc, fun k hk => (ho.lt k hk).2, fun k hk => (hf.lt k hk).2, fun k hk => (hc.lt k hk).2⟩
theorem PxOwn.setF {w w2 : World} {lo hi : Nat} {X : Pc} {R : Prx} {v2 : Value} {L2 : List Fet} (h : PxOwn w lo hi X R) (hg : w.grownBy w2 X.f.ownBlock) (ho : OwnFet w2 lo 103 v2 L2) : PxOwn w2 lo w2.heap.size ⟨X.e, X.w, X.m, X.k, v2, X.c⟩ ⟨R.now, R.ents, R.pol, L2, R.cls, R.hits⟩ := by
  have hp : POwn w2 lo hi (.agg #[X.w, X.m, X.k, .int .i64 R.pol.sk.added]) R.pol := h.p.keptT fun k _ _ hk hty => hg.block k hk (fun e => by
    obtain ⟨cs, hcs⟩ := h.f.type k e.symm
    obtain ⟨cs', t', h1, h2⟩ := hty _ hcs
    simp only [Obj.cells.injEq] at h1
    rw [← h1.2.1] at h2
    revert h2
    decide)
  have he : OwnN w2 lo 101 X.e R.ents := h.e.grown hg fun q hq e => by
    obtain ⟨cs, h1⟩ := h.e.type q hq
    obtain ⟨cs', h2⟩ := h.f.type q e
    rw [h1] at h2
    simp at h2
  have hc : OwnCli w2 lo 68 X.c R.cls := h.c.grown hg fun q hq e => by
    obtain ⟨cs, h1⟩ := h.c.type q hq
    obtain ⟨cs', h2⟩ := h.f.type q e
    rw [h1] at h2
    simp at h2
  exact ⟨he, hp.up, ho, hc, fun k hk => (he.lt k hk).2, fun k hk => (ho.lt k hk).2, fun k hk => (hc.lt k hk).2⟩
theorem PxOwn.setC {w w2 : World} {lo hi : Nat} {X : Pc} {R : Prx} {v2 : Value} {L2 : List Cli} (h : PxOwn w lo hi X R) (hg : w.grownBy w2 X.c.ownBlock) (ho : OwnCli w2 lo 68 v2 L2) : PxOwn w2 lo w2.heap.size ⟨X.e, X.w, X.m, X.k, X.f, v2⟩ ⟨R.now, R.ents, R.pol, R.fes, L2, R.hits⟩ := by
  have hp : POwn w2 lo hi (.agg #[X.w, X.m, X.k, .int .i64 R.pol.sk.added]) R.pol := h.p.keptT fun k _ _ hk hty => hg.block k hk (fun e => by
    obtain ⟨cs, hcs⟩ := h.c.type k e.symm
    obtain ⟨cs', t', h1, h2⟩ := hty _ hcs
    simp only [Obj.cells.injEq] at h1
    rw [← h1.2.1] at h2
    revert h2
    decide)
  have he : OwnN w2 lo 101 X.e R.ents := h.e.grown hg fun q hq e => by
    obtain ⟨cs, h1⟩ := h.e.type q hq
    obtain ⟨cs', h2⟩ := h.c.type q e
    rw [h1] at h2
    simp at h2
  have hf : OwnFet w2 lo 103 X.f R.fes := h.f.grown hg fun q hq e => by
    obtain ⟨cs, h1⟩ := h.f.type q hq
    obtain ⟨cs', h2⟩ := h.c.type q e
    rw [h1] at h2
    simp at h2
  exact ⟨he, hp.up, hf, ho, fun k hk => (he.lt k hk).2, fun k hk => (hf.lt k hk).2, fun k hk => (ho.lt k hk).2⟩
/-- A variable's block is none of a row's of another type. -/
theorem grown_box {w w2 : World} {N : Nat} {t e : TypeId} {cs : Array Value} {v : Value} (hg : w.grownBy w2 v.ownBlock) (hN : w.heap[N]? = some (.cells cs t (0, 0))) (hty : ∀ k, v.ownBlock = some k → ∃ cs, w.heap[k]? = some (.cells cs e (0, 0))) (hne : t ≠ e) : w2.heap[N]? = some (.cells cs t (0, 0)) := by
  refine (hg.block N (Array.getElem?_eq_some_iff.1 hN).1 (fun h => ?_)).trans hN
  obtain ⟨c, hc⟩ := hty N h.symm
  rw [hN] at hc
  simp only [Option.some.injEq, Obj.cells.injEq] at hc
  exact hne hc.2.1
def FetB (w : World) (T : Nat) (t : TypeId) (f : Fet) : Prop := w.heap[T]? = some (.cells #[.string f.key, .string f.tx, .int .i64 f.st, .int .i64 f.lf, .int .i64 f.sto] t (0, 0))
theorem FetB.lt {w : World} {T : Nat} {t : TypeId} {f : Fet} (h : FetB w T t f) : T < w.heap.size := (Array.getElem?_eq_some_iff.1 h).1
theorem FetB.on {w w' : World} {T : Nat} {t : TypeId} {f : Fet} (h : FetB w T t f) (hb : Below w.heap.size w w') : FetB w' T t f := (hb.block T h.lt).trans h
theorem FetB.new (w : World) (t : TypeId) (f : Fet) : FetB (w.alloc (.cells #[.string f.key, .string f.tx, .int .i64 f.st, .int .i64 f.lf, .int .i64 f.sto] t)) w.heap.size t f := heap_alloc_new w _
theorem FetB.thaw {w : World} {T : Nat} {t : TypeId} {f : Fet} (h : FetB w T t f) (i : Nat) : w.frozen? ⟨T, i, none⟩ = false := by unfold FetB at h; simp [World.frozen?, h]
theorem FetB.cells {w : World} {T : Nat} {t : TypeId} {f : Fet} (h : FetB w T t f) : w.cell? ⟨T, 0, none⟩ = some (.string f.key) ∧ w.cell? ⟨T, 1, none⟩ = some (.string f.tx) ∧ w.cell? ⟨T, 2, none⟩ = some (.int .i64 f.st) ∧ w.cell? ⟨T, 3, none⟩ = some (.int .i64 f.lf) ∧ w.cell? ⟨T, 4, none⟩ = some (.int .i64 f.sto) := by
  unfold FetB at h
  exact ⟨by simp [World.cell?, h], by simp [World.cell?, h], by simp [World.cell?, h], by simp [World.cell?, h], by simp [World.cell?, h]⟩
theorem FetB.same1 {w : World} {T : Nat} {t : TypeId} {f : Fet} (h : FetB w T t f) : FetB (w.setCell ⟨T, 0, none⟩ (.string f.key)) T t f := by
  unfold FetB at *
  simp only [World.setCell, Array.getElem?_modify, h]
  simp
theorem FetB.same {w : World} {T : Nat} {t : TypeId} {f : Fet} (h : FetB w T t f) : FetB ((w.setCell ⟨T, 0, none⟩ (.string f.key)).setCell ⟨T, 1, none⟩ (.string f.tx)) T t f := by
  unfold FetB at *
  simp only [World.setCell, Array.getElem?_modify, h]
  simp
def CliB (w : World) (T : Nat) (t : TypeId) (f : Cli) : Prop := w.heap[T]? = some (.cells #[.int .i64 f.id, .string f.key, .int .i64 f.fe, .int .i64 f.fr, .int .i64 f.st, .string f.got, .int .i64 f.ag] t (0, 0))
theorem CliB.lt {w : World} {T : Nat} {t : TypeId} {f : Cli} (h : CliB w T t f) : T < w.heap.size := (Array.getElem?_eq_some_iff.1 h).1
theorem CliB.on {w w' : World} {T : Nat} {t : TypeId} {f : Cli} (h : CliB w T t f) (hb : Below w.heap.size w w') : CliB w' T t f := (hb.block T h.lt).trans h
theorem CliB.new (w : World) (t : TypeId) (f : Cli) : CliB (w.alloc (.cells #[.int .i64 f.id, .string f.key, .int .i64 f.fe, .int .i64 f.fr, .int .i64 f.st, .string f.got, .int .i64 f.ag] t)) w.heap.size t f := heap_alloc_new w _
theorem CliB.thaw {w : World} {T : Nat} {t : TypeId} {f : Cli} (h : CliB w T t f) (i : Nat) : w.frozen? ⟨T, i, none⟩ = false := by unfold CliB at h; simp [World.frozen?, h]
theorem CliB.cells {w : World} {T : Nat} {t : TypeId} {f : Cli} (h : CliB w T t f) : w.cell? ⟨T, 0, none⟩ = some (.int .i64 f.id) ∧ w.cell? ⟨T, 1, none⟩ = some (.string f.key) ∧ w.cell? ⟨T, 2, none⟩ = some (.int .i64 f.fe) ∧ w.cell? ⟨T, 3, none⟩ = some (.int .i64 f.fr) ∧ w.cell? ⟨T, 4, none⟩ = some (.int .i64 f.st) ∧ w.cell? ⟨T, 5, none⟩ = some (.string f.got) ∧ w.cell? ⟨T, 6, none⟩ = some (.int .i64 f.ag) := by
  unfold CliB at h
  exact ⟨by simp [World.cell?, h], by simp [World.cell?, h], by simp [World.cell?, h], by simp [World.cell?, h], by simp [World.cell?, h], by simp [World.cell?, h], by simp [World.cell?, h]⟩
theorem CliB.same1 {w : World} {T : Nat} {t : TypeId} {f : Cli} (h : CliB w T t f) : CliB (w.setCell ⟨T, 1, none⟩ (.string f.key)) T t f := by
  unfold CliB at *
  simp only [World.setCell, Array.getElem?_modify, h]
  simp
theorem CliB.same {w : World} {T : Nat} {t : TypeId} {f : Cli} (h : CliB w T t f) : CliB ((w.setCell ⟨T, 1, none⟩ (.string f.key)).setCell ⟨T, 5, none⟩ (.string f.got)) T t f := by
  unfold CliB at *
  simp only [World.setCell, Array.getElem?_modify, h]
  simp
theorem EnB.same1 {w : World} {T : Nat} {t : TypeId} {f : En} (h : EnB w T t f) : EnB (w.setCell ⟨T, 0, none⟩ (.string f.key)) T t f := by
  unfold EnB at *
  simp only [World.setCell, Array.getElem?_modify, h]
  simp
theorem EnB.same {w : World} {T : Nat} {t : TypeId} {f : En} (h : EnB w T t f) : EnB ((w.setCell ⟨T, 0, none⟩ (.string f.key)).setCell ⟨T, 3, none⟩ (.string f.bd)) T t f := by
  unfold EnB at *
  simp only [World.setCell, Array.getElem?_modify, h]
  simp
/-- The variable that the copy is gathered in. -/
structure Gat (w : World) (A : Nat) (w0 : World) (N : Nat) (X : Pc) (R : Prx) : Prop where
  box : NB w N 51 (.int .i64 R.now) X.e X.w X.m X.k (.int .i64 R.pol.sk.added) X.f X.c (.int .i64 R.hits)
  own : PxOwn w A w.heap.size X R
  bel : Below A w0 w
  le : A + 2 ≤ N
end Go.Proofs.Ytonaaimefcgcnaa
