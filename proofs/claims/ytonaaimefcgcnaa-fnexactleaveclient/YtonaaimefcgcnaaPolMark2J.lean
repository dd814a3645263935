/- Texts that stand in one: PolMark2, PolVar, VarPlain. -/
import Derived.Test.YtonaaimefcgcnaaPolLaw2J
import Derived.Test.YtonaaimefcgcnaaSkBaseJ
namespace Go.Proofs.Ytonaaimefcgcnaa
open Go.RowKit Go.Sort

theorem OwnSS.past9 {w w' : World} {lo hi lo' : Nat} {v u : Value} {LL : List (List Int)} {xs : List Value} (h : OwnSS w lo hi v LL) (hu : OwnV w lo' 9 u xs) (hg : w.grownBy w' u.ownBlock) : OwnSS w' lo hi v LL :=
  h.kept fun k _ _ hk hty => hg.block k hk (fun e => by
    obtain ⟨cs, hcs⟩ := ownV_type hu k e.symm
    rcases hty _ hcs with ⟨cs', e'⟩ | ⟨cs', e'⟩
    · simp at e'
    · simp at e')
theorem ownV_not3 {w : World} {lo k : Nat} {u : Value} {xs : List Value} (hu : OwnV w lo 9 u xs) (hk : u.ownBlock = some k) : ¬ ∃ cs, w.heap[k]? = some (.cells cs 3 (0, 0)) := fun ⟨cs, e⟩ => by
  obtain ⟨cs', hcs⟩ := ownV_type hu k hk
  rw [e] at hcs
  simp at hcs
/-- A policy whose lists and rows are marked from k on. -/
def PMk (w : World) (lo hi : Nat) (v1 v2 v3 : Value) (P : Pol) (k : Nat) : Prop :=
  OwnV w lo 9 v1 (marks k P.win.length) ∧ OwnV w lo 9 v2 (marks (k + P.win.length) P.main.length) ∧ (∀ q, v1.ownBlock = some q → q < hi ∧ v2.ownBlock ≠ some q) ∧ (∀ q, v2.ownBlock = some q → q < hi) ∧ ∃ MM, MarkSS (k + P.win.length + P.main.length) P.sk.rows MM P.sk.rows.length ∧ OwnSS w lo hi v3 MM
theorem PMk.below {w w' : World} {B lo hi : Nat} {v1 v2 v3 : Value} {P : Pol} {k : Nat} (h : PMk w lo hi v1 v2 v3 P k) (hb : Below B w w') (hB : w.heap.size ≤ B) : PMk w' lo hi v1 v2 v3 P k := by
  obtain ⟨a1, a2, a3, a4, MM, a5, a6⟩ := h
  exact ⟨a1.below hb hB, a2.below hb hB, a3, a4, MM, a5, a6.below hb hB⟩
set_option maxHeartbeats 2000000 in
theorem markPolicy_any (w : World) (lo hi : Nat) (aw am ak : Option Addr) (cw cm ck : Nat) (P : Pol) (k : Nat) (hO : POwn w lo hi (.agg #[.slice aw P.win.length cw, .slice am P.main.length cm, .slice ak P.sk.rows.length ck, .int .i64 P.sk.added]) P) (hm : PolSz P) (hk0 : 0 < k) (hk : k ≤ 1000000) (hh : hi ≤ w.heap.size) :
    Calls Try.prog 51 #[.agg #[.slice aw P.win.length cw, .slice am P.main.length cm, .slice ak P.sk.rows.length ck, .int .i64 P.sk.added], .int .i64 k] w fun e w' => e = .returned (.int .i64 ((k + P.win.length + P.main.length + tot P.sk.rows P.sk.rows.length : Nat) : Int)) ∧ PMk w' lo hi (.slice aw P.win.length cw) (.slice am P.main.length cm) (.slice ak P.sk.rows.length ck) P k ∧ Tch (fun b => lo ≤ b ∧ b < hi) w w' := by
  obtain ⟨l1, l2, l3⟩ := hm.parts
  obtain ⟨K, hK⟩ : ∃ K, k + P.win.length = K := ⟨_, rfl⟩
  obtain ⟨M, hM⟩ : ∃ M, K + P.main.length = M := ⟨_, rfl⟩
  obtain ⟨R, hR⟩ : ∃ R, M + tot P.sk.rows P.sk.rows.length = R := ⟨_, rfl⟩
  rw [hK, hM, hR]
  have HK : Hid (k + P.win.length = K) := hK
  have HM : Hid (K + P.main.length = M) := hM
  have HRR : Hid (M + tot P.sk.rows P.sk.rows.length = R) := hR
  have hKb : K ≤ 2100000 := by omega
  have hK0 : 0 < K := by omega
  have hMb : M ≤ 3200000 := by omega
  clear hK hM hR
  obtain ⟨v1, v2, v3, e, a1, a2, a3, a4, a5⟩ := hO
  simp only [Value.agg.injEq, Array.mk.injEq, List.cons.injEq, and_true] at e
  obtain ⟨rfl, rfl, rfl⟩ := e
  have n1 : (strs P.win).length = P.win.length := by simp [strs]
  have n2 : (strs P.main).length = P.main.length := by simp [strs]
  obtain ⟨w1, hw1⟩ : ∃ x, w.alloc (.cells #[.slice aw P.win.length cw, .slice am P.main.length cm, .slice ak P.sk.rows.length ck, .int .i64 P.sk.added] 47) = x := ⟨_, rfl⟩
  have hb1 : Below w.heap.size w w1 := by rw [← hw1]; exact (Below.refl _ _).alloc (Nat.le_refl _) _
  have hB : PBox w1 w.heap.size (.slice aw P.win.length cw) (.slice am P.main.length cm) (.slice ak P.sk.rows.length ck) (.int .i64 P.sk.added) := by rw [← hw1]; exact PBox.new _ _ _ _ _
  have c1 := markS_any w1 lo (.slice aw P.win.length cw) (strs P.win) k (a1.below hb1 (Nat.le_refl _)) (by omega) hk0 (by omega)
  rw [n1, HK.out] at c1
  obtain ⟨b0, b1, b2, b3⟩ := hB.cells
  have HW : Hid (w.alloc (.cells #[.slice aw P.win.length cw, .slice am P.main.length cm, .slice ak P.sk.rows.length ck, .int .i64 P.sk.added] 47) = w1) := hw1
  rw [← hw1] at b0 b1 b2 b3
  have o1 := a1.below hb1 (Nat.le_refl _)
  have o2 := a2.below hb1 (Nat.le_refl _)
  have o3 := a5.below hb1 (Nat.le_refl _)
  have HT1 : Hid (Tch (fun b => lo ≤ b ∧ b < hi) w w1) := Tch.of_below hb1
  have HL : Hid (∀ q, (Value.slice aw P.win.length cw).ownBlock = some q → lo ≤ q ∧ q < hi) := fun q hq => ⟨(a1.lt q hq).1, (a3 q hq).1⟩
  have HL2 : Hid (∀ q, (Value.slice am P.main.length cm).ownBlock = some q → lo ≤ q ∧ q < hi) := fun q hq => ⟨(a2.lt q hq).1, a4 q hq⟩
  have HH : Hid (hi ≤ w1.heap.size) := Nat.le_trans hh hb1.size
  clear hw1 a1 a2 a5 n1
  go_enter Try.func51, Try.ntmps51
  go_wp2_with fail
  rw [HW.out] at b0 b1 b2 b3 ⊢
  refine c1.mono ?_
  rintro e w2 ⟨rfl, m1, g1⟩
  clear c1 b0 b1 b2 b3
  have hB2 := hB.kept (g1.block _ hB.lt (fun e => by have := HL.out _ e.symm; omega))
  have p2 := o2.grown g1 fun q hq e => (a3 q e).2 hq
  have p3 := o3.past9 o1 g1
  have HT2 : Hid (Tch (fun b => lo ≤ b ∧ b < hi) w w2) := HT1.out.trans (Tch.of_grown g1 HL.out)
  have HH2 : Hid (hi ≤ w2.heap.size) := Nat.le_trans HH.out g1.size
  obtain ⟨b0, b1, b2, b3⟩ := hB2.cells
  have c2 := markS_any w2 lo (.slice am P.main.length cm) (strs P.main) K p2 (by omega) hK0 (by omega)
  rw [n2, HM.out] at c2
  clear o1 o2 o3 g1 HT1 HH n2
  go_wp2_with fail
  refine c2.mono ?_
  rintro e w3 ⟨rfl, m2, g2⟩
  clear c2 b0 b1 b2 b3
  have hB3 := hB2.kept (g2.block _ hB2.lt (fun e => by have := HL2.out _ e.symm; omega))
  have q1 := m1.grown g2 fun q hq e => (a3 q hq).2 e
  have q3 := p3.past9 p2 g2
  have HT3 : Hid (Tch (fun b => lo ≤ b ∧ b < hi) w w3) := HT2.out.trans (Tch.of_grown g2 HL2.out)
  have HH3 : hi ≤ w3.heap.size := Nat.le_trans HH2.out g2.size
  obtain ⟨b0, b1, b2, b3⟩ := hB3.cells
  have c3 := markSketch_fine w3 lo hi ak ck P.sk M q3 l3 (by omega) HH3
  have HQ1 : Hid (OwnV w3 lo 9 (.slice aw P.win.length cw) (marks k P.win.length)) := q1
  have HQ2 : Hid (OwnV w3 lo 9 (.slice am P.main.length cm) (marks K P.main.length)) := m2
  have HA : Hid ((∀ q, (Value.slice aw P.win.length cw).ownBlock = some q → q < hi ∧ (Value.slice am P.main.length cm).ownBlock ≠ some q) ∧ (∀ q, (Value.slice am P.main.length cm).ownBlock = some q → q < hi)) := ⟨a3, a4⟩
  clear m1 m2 p2 p3 q1 q3 g2 HT2 HH2 a3 a4
  rw [HRR.out] at c3
  go_wp2_with fail
  refine c3.mono ?_
  rintro e w4 ⟨rfl, hmm, t4⟩
  have HR : Hid (PMk w4 lo hi (.slice aw P.win.length cw) (.slice am P.main.length cm) (.slice ak P.sk.rows.length ck) P k ∧ Tch (fun b => lo ≤ b ∧ b < hi) w w4) := by
    refine ⟨⟨HQ1.out.tch t4 fun q hq e => ownV_not3 HQ1.out hq e.2.2, ?_, HA.out.1, HA.out.2, ?_⟩, HT3.out.trans (t4.weak fun q hq => ⟨hq.1, hq.2.1⟩)⟩
    · rw [HK.out]
      exact HQ2.out.tch t4 fun q hq e => ownV_not3 HQ2.out hq e.2.2
    · rw [HK.out, HM.out]
      exact hmm
  clear c3 b0 b1 b2 b3 hmm t4 HQ1 HQ2 HA
  go_wp2_with fail
  go_ret
  exact ⟨rfl, HR.out⟩
set_option maxHeartbeats 2000000 in
theorem heldPolicy_any (w : World) (lo hi : Nat) (aw am ak : Option Addr) (cw cm ck : Nat) (P : Pol) (k : Nat) (hO : PMk w lo hi (.slice aw P.win.length cw) (.slice am P.main.length cm) (.slice ak P.sk.rows.length ck) P k) (hm : PolSz P) (hk0 : 0 < k) (hk : k ≤ 1000000) :
    Calls Try.prog 55 #[.agg #[.slice aw P.win.length cw, .slice am P.main.length cm, .slice ak P.sk.rows.length ck, .int .i64 P.sk.added], .int .i64 k] w fun e w' => e = .returned (.int .i64 ((k + P.win.length + P.main.length + tot P.sk.rows P.sk.rows.length : Nat) : Int)) ∧ Below w.heap.size w w' := by
  obtain ⟨l1, l2, l3⟩ := hm.parts
  obtain ⟨K, hK⟩ : ∃ K, k + P.win.length = K := ⟨_, rfl⟩
  obtain ⟨M, hM⟩ : ∃ M, K + P.main.length = M := ⟨_, rfl⟩
  obtain ⟨R, hR⟩ : ∃ R, M + tot P.sk.rows P.sk.rows.length = R := ⟨_, rfl⟩
  rw [hK, hM, hR]
  have HK : Hid (k + P.win.length = K) := hK
  have HM : Hid (K + P.main.length = M) := hM
  have HRR : Hid (M + tot P.sk.rows P.sk.rows.length = R) := hR
  have hKb : K ≤ 2100000 := by omega
  have hK0 : 0 < K := by omega
  have hMb : M ≤ 3200000 := by omega
  clear hK hM hR
  obtain ⟨w1, hw1⟩ : ∃ x, w.alloc (.cells #[.slice aw P.win.length cw, .slice am P.main.length cm, .slice ak P.sk.rows.length ck, .int .i64 P.sk.added] 47) = x := ⟨_, rfl⟩
  have hb1 : Below w.heap.size w w1 := by rw [← hw1]; exact (Below.refl _ _).alloc (Nat.le_refl _) _
  have hB : PBox w1 w.heap.size (.slice aw P.win.length cw) (.slice am P.main.length cm) (.slice ak P.sk.rows.length ck) (.int .i64 P.sk.added) := by rw [← hw1]; exact PBox.new _ _ _ _ _
  have hO1 := hO.below hb1 (Nat.le_refl _)
  have c1 := heldS_any w1 lo (.slice aw P.win.length cw) P.win.length k hO1.1 (by omega) hk0 (by omega)
  obtain ⟨b0, b1, b2, b3⟩ := hB.cells
  have HW : Hid (w.alloc (.cells #[.slice aw P.win.length cw, .slice am P.main.length cm, .slice ak P.sk.rows.length ck, .int .i64 P.sk.added] 47) = w1) := hw1
  rw [← hw1] at b0 b1 b2 b3
  clear hw1 hO
  rw [HK.out] at c1
  have hn1 : ¬ ((K : Int) < 0) := by omega
  go_enter Try.func55, Try.ntmps55
  go_wp2_with fail
  rw [HW.out] at b0 b1 b2 b3 ⊢
  refine c1.mono ?_
  rintro e w2 ⟨rfl, hb2⟩
  clear c1 b0 b1 b2 b3
  have hbw2 := hb1.trans (hb2.mono hb1.size)
  have hO2 := hO1.below hb2 (Nat.le_refl _)
  obtain ⟨b0, b1, b2, b3⟩ := (hB.on hb2).cells
  have c2 := heldS_any w2 lo (.slice am P.main.length cm) P.main.length K (by rw [← HK.out]; exact hO2.2.1) (by omega) hK0 (by omega)
  rw [HM.out] at c2
  have hn2 : ¬ ((M : Int) < 0) := by omega
  go_wp2_with fail
  refine c2.mono ?_
  rintro e w3 ⟨rfl, hb3⟩
  clear c2 b0 b1 b2 b3
  have hbw3 := hbw2.trans (hb3.mono hbw2.size)
  obtain ⟨_, _, _, _, MM, hMM, hS⟩ := hO2.below hb3 (Nat.le_refl _)
  rw [HK.out, HM.out] at hMM
  obtain ⟨b0, b1, b2, b3⟩ := ((hB.on hb2).on hb3).cells
  have c3 := heldSketch_any w3 lo hi ak ck P.sk MM M hS hMM l3 (by omega)
  rw [HRR.out] at c3
  clear hMM hS hO1 hO2
  have hn3 : ¬ ((R : Int) < 0) := by omega
  go_wp2_with fail
  refine c3.mono ?_
  rintro e w4 ⟨rfl, hb4⟩
  go_wp2_with fail
  go_ret
  exact ⟨rfl, hbw3.trans (hb4.mono hbw3.size)⟩
end Go.Proofs.Ytonaaimefcgcnaa

namespace Go.Proofs.Ytonaaimefcgcnaa
open Go.RowKit Go.Sort

/-- A policy in a variable T of a law: its lists and rows from lo on, below T. -/
structure PV (w : World) (lo T : Nat) (aw am ak : Option Addr) (cw cm ck : Nat) (P : Pol) : Prop where
  le : lo ≤ T
  box : PBox w T (.slice aw P.win.length cw) (.slice am P.main.length cm) (.slice ak P.sk.rows.length ck) (.int .i64 P.sk.added)
  own : POwn w lo T (.agg #[.slice aw P.win.length cw, .slice am P.main.length cm, .slice ak P.sk.rows.length ck, .int .i64 P.sk.added]) P
theorem PV.new {w : World} {lo : Nat} {aw am ak : Option Addr} {cw cm ck : Nat} {P : Pol} (h : POwn w lo w.heap.size (.agg #[.slice aw P.win.length cw, .slice am P.main.length cm, .slice ak P.sk.rows.length ck, .int .i64 P.sk.added]) P) (hlo : lo ≤ w.heap.size) :
    PV (w.alloc (.cells #[.slice aw P.win.length cw, .slice am P.main.length cm, .slice ak P.sk.rows.length ck, .int .i64 P.sk.added] 47)) lo w.heap.size aw am ak cw cm ck P :=
  ⟨hlo, PBox.new _ _ _ _ _, h.below ((Below.refl _ _).alloc (Nat.le_refl _) _) (Nat.le_refl _)⟩
theorem PV.on {w w' : World} {lo T : Nat} {aw am ak : Option Addr} {cw cm ck : Nat} {P : Pol} (h : PV w lo T aw am ak cw cm ck P) (hb : Below w.heap.size w w') : PV w' lo T aw am ak cw cm ck P := ⟨h.le, h.box.on hb, h.own.below hb (Nat.le_refl _)⟩
theorem POwn.lies {w : World} {lo hi : Nat} {aw am ak : Option Addr} {cw cm ck : Nat} {P : Pol} (h : POwn w lo hi (.agg #[.slice aw P.win.length cw, .slice am P.main.length cm, .slice ak P.sk.rows.length ck, .int .i64 P.sk.added]) P) : PolAt w aw am ak P w.heap.size := by
  obtain ⟨a1, c1, a2, c2, a3, c3, e, hA⟩ := h.at
  simp only [Value.agg.injEq, Array.mk.injEq, List.cons.injEq, and_true, Value.slice.injEq, true_and] at e
  obtain ⟨⟨rfl, rfl⟩, ⟨rfl, rfl⟩, rfl, rfl⟩ := e
  exact hA
theorem PV.at {w : World} {lo T : Nat} {aw am ak : Option Addr} {cw cm ck : Nat} {P : Pol} (h : PV w lo T aw am ak cw cm ck P) : PolAt w aw am ak P w.heap.size := h.own.lies
/-- Another variable's lists and rows are others. -/
theorem PV.tch {S : Nat → Prop} {w w' : World} {lo T : Nat} {aw am ak : Option Addr} {cw cm ck : Nat} {P : Pol} (h : PV w lo T aw am ak cw cm ck P) (ht : Tch S w w') (hn : ∀ k, S k → k < lo ∨ T < k) : PV w' lo T aw am ak cw cm ck P := by
  have hlo := h.le
  exact ⟨h.le, h.box.kept (ht.2 T h.box.lt (fun e => by have := hn T e; omega)), h.own.tch ht fun k hk => by have := hn k hk; omega⟩
/-- A policy in a variable that is marked from 1 on. -/
structure PM (w : World) (lo T : Nat) (aw am ak : Option Addr) (cw cm ck : Nat) (P : Pol) : Prop where
  le : lo ≤ T
  box : PBox w T (.slice aw P.win.length cw) (.slice am P.main.length cm) (.slice ak P.sk.rows.length ck) (.int .i64 P.sk.added)
  own : PMk w lo T (.slice aw P.win.length cw) (.slice am P.main.length cm) (.slice ak P.sk.rows.length ck) P 1
theorem PM.on {w w' : World} {lo T : Nat} {aw am ak : Option Addr} {cw cm ck : Nat} {P : Pol} (h : PM w lo T aw am ak cw cm ck P) (hb : Below w.heap.size w w') : PM w' lo T aw am ak cw cm ck P := ⟨h.le, h.box.on hb, h.own.below hb (Nat.le_refl _)⟩
end Go.Proofs.Ytonaaimefcgcnaa

namespace Go.Proofs.Ytonaaimefcgcnaa
open Go.RowKit

def varF : Nat → Nat → List UInt8
  | 0, m => [UInt8.ofNat m]
  | f + 1, m => if 127 < m then UInt8.ofNat (m % 128 + 128) :: varF f (m / 128) else [UInt8.ofNat m]

theorem varF_step {f k : Nat} (h : 127 < k) : varF (f + 1) k = UInt8.ofNat (k % 128 + 128) :: varF f (k / 128) := by simp [varF, h]

theorem varF_end {f k : Nat} (h : ¬ 127 < k) : varF f k = [UInt8.ofNat k] := by cases f <;> simp [varF, h]

theorem pow_down {f k : Nat} (h : k < 128 * 128 ^ (f + 1)) : k / 128 < 128 * 128 ^ f := by
  rw [Nat.pow_succ] at h; omega

theorem varF_length : ∀ (f m : Nat), (varF f m).length ≤ f + 1
  | 0, m => by simp [varF]
  | f + 1, m => by
    unfold varF
    split
    · have := varF_length f (m / 128); simp; omega
    · simp

def inB (x a b : Int) : Bool := decide (a ≤ x) && decide (x ≤ b)

theorem inB_yes {x a b : Int} (h1 : a ≤ x) (h2 : x ≤ b) : inB x a b = true := by simp [inB, h1, h2]

theorem inB_no {x a b : Int} (h : ¬ (a ≤ x ∧ x ≤ b)) : inB x a b = false := by simp [inB]; omega

/-- What VarText answers. -/
def vOk (n : Int) : Bool := inB n 0 1000000000

def vText (n : Int) : List UInt8 := if vOk n = true then varF 8 n.toNat else []

theorem vOk_in {m : Nat} (h : m ≤ 1000000000) : vOk (m : Int) = true := inB_yes (by omega) (by omega)

theorem vText_in {m : Nat} (h : m ≤ 1000000000) : vText (m : Int) = varF 8 m := by simp [vText, vOk_in h]

theorem vOk_out {n : Int} (h : ¬ (0 ≤ n ∧ n ≤ 1000000000)) : vOk n = false := inB_no h

theorem vText_out {n : Int} (h : ¬ (0 ≤ n ∧ n ≤ 1000000000)) : vText n = [] := by simp [vText, vOk_out h]

/-- What ShortText answers. -/
def shOk (s : ByteArray) : Bool := decide (s.size ≤ 20000)

def shText (s : ByteArray) : ByteArray := if s.size ≤ 20000 then ⟨(varF 8 s.size).toArray⟩ ++ s else ⟨#[]⟩
end Go.Proofs.Ytonaaimefcgcnaa
