/- Texts that stand in one: PolMark2, PolVar, VarPlain. -/
import Derived.Test.YtpgcfgbhkodmeaaPolLaw2J
import Derived.Test.YtpgcfgbhkodmeaaSkBaseJ
namespace Go.Proofs.Ytpgcfgbhkodmeaa
open Go.RowKit Go.Sort

theorem OwnSS.past9 {w w' : World} {lo hi lo' : Nat} {v u : Value} {LL : List (List Int)} {xs : List Value} (h : OwnSS w lo hi v LL) (hu : OwnV w lo' 9 u xs) (hg : w.grownBy w' u.ownBlock) : OwnSS w' lo hi v LL :=
  h.kept fun k _ _ hk hty => hg.block k hk (fun e => by
    obtain ⟨cs, hcs⟩ := ownV_type hu k e.symm
    rcases hty _ hcs with ⟨cs', e'⟩ | ⟨cs', e'⟩
    · simp at e'
    · simp at e')
theorem ownV_not3 {w : World} {lo k : Nat} {u : Value} {xs : List Value} (hu : OwnV w lo 9 u xs) (hk : u.ownBlock = some k) : ¬ ∃ cs, w.heap[k]? = some (.cells cs 3 (0, 0)) := fun ⟨cs, e⟩ => by
  obtain ⟨cs', hcs⟩ := ownV_type hu k hk
  rw [e] at hcs
  simp at hcs
end Go.Proofs.Ytpgcfgbhkodmeaa

namespace Go.Proofs.Ytpgcfgbhkodmeaa
open Go.RowKit Go.Sort

/-- A policy in a variable T of a law: its lists and rows from lo on, below T. -/
structure PV (w : World) (lo T : Nat) (aw am ak : Option Addr) (cw cm ck : Nat) (P : Pol) : Prop where
  le : lo ≤ T
  box : PBox w T (.slice aw P.win.length cw) (.slice am P.main.length cm) (.slice ak P.sk.rows.length ck) (.int .i64 P.sk.added)
  own : POwn w lo T (.agg #[.slice aw P.win.length cw, .slice am P.main.length cm, .slice ak P.sk.rows.length ck, .int .i64 P.sk.added]) P
theorem PV.new {w : World} {lo : Nat} {aw am ak : Option Addr} {cw cm ck : Nat} {P : Pol} (h : POwn w lo w.heap.size (.agg #[.slice aw P.win.length cw, .slice am P.main.length cm, .slice ak P.sk.rows.length ck, .int .i64 P.sk.added]) P) (hlo : lo ≤ w.heap.size) :
    PV (w.alloc (.cells #[.slice aw P.win.length cw, .slice am P.main.length cm, .slice ak P.sk.rows.length ck, .int .i64 P.sk.added] 38)) lo w.heap.size aw am ak cw cm ck P :=
  ⟨hlo, PBox.new _ _ _ _ _, h.below ((Below.refl _ _).alloc (Nat.le_refl _) _) (Nat.le_refl _)⟩
theorem PV.on {w w' : World} {lo T : Nat} {aw am ak : Option Addr} {cw cm ck : Nat} {P : Pol} (h : PV w lo T aw am ak cw cm ck P) (hb : Below w.heap.size w w') : PV w' lo T aw am ak cw cm ck P := ⟨h.le, h.box.on hb, h.own.below hb (Nat.le_refl _)⟩
theorem POwn.lies {w : World} {lo hi : Nat} {aw am ak : Option Addr} {cw cm ck : Nat} {P : Pol} (h : POwn w lo hi (.agg #[.slice aw P.win.length cw, .slice am P.main.length cm, .slice ak P.sk.rows.length ck, .int .i64 P.sk.added]) P) : PolAt w aw am ak P w.heap.size := by
  obtain ⟨a1, c1, a2, c2, a3, c3, e, hA⟩ := h.at
  simp only [Value.agg.injEq, Array.mk.injEq, List.cons.injEq, and_true, Value.slice.injEq, true_and] at e
  obtain ⟨⟨rfl, rfl⟩, ⟨rfl, rfl⟩, rfl, rfl⟩ := e
  exact hA
theorem PV.at {w : World} {lo T : Nat} {aw am ak : Option Addr} {cw cm ck : Nat} {P : Pol} (h : PV w lo T aw am ak cw cm ck P) : PolAt w aw am ak P w.heap.size := h.own.lies
/-- Another variable's lists and rows are others. -/
theorem PV.tch {S : Nat → Prop} {w w' : World} {lo T : Nat} {aw am ak : Option Addr} {cw cm ck : Nat} {P : Pol} (h : PV w lo T aw am ak cw cm ck P) (ht : Tch S w w') (hn : ∀ k, S k → k < lo ∨ T < k) : PV w' lo T aw am ak cw cm ck P := by
  have hlo := h.le
  exact ⟨h.le, h.box.kept (ht.2 T h.box.lt (fun e => by have := hn T e; omega)), h.own.tch ht fun k hk => by have := hn k hk; omega⟩
end Go.Proofs.Ytpgcfgbhkodmeaa

namespace Go.Proofs.Ytpgcfgbhkodmeaa
open Go.RowKit

def varF : Nat → Nat → List UInt8
  | 0, m => [UInt8.ofNat m]
  | f + 1, m => if 127 < m then UInt8.ofNat (m % 128 + 128) :: varF f (m / 128) else [UInt8.ofNat m]

theorem varF_step {f k : Nat} (h : 127 < k) : varF (f + 1) k = UInt8.ofNat (k % 128 + 128) :: varF f (k / 128) := by simp [varF, h]

theorem varF_end {f k : Nat} (h : ¬ 127 < k) : varF f k = [UInt8.ofNat k] := by cases f <;> simp [varF, h]

theorem pow_down {f k : Nat} (h : k < 128 * 128 ^ (f + 1)) : k / 128 < 128 * 128 ^ f := by
  rw [Nat.pow_succ] at h; omega

theorem varF_length : ∀ (f m : Nat), (varF f m).length ≤ f + 1
  | 0, m => by simp [varF]
  | f + 1, m => by
    unfold varF
    split
    · have := varF_length f (m / 128); simp; omega
    · simp

def inB (x a b : Int) : Bool := decide (a ≤ x) && decide (x ≤ b)

theorem inB_yes {x a b : Int} (h1 : a ≤ x) (h2 : x ≤ b) : inB x a b = true := by simp [inB, h1, h2]

theorem inB_no {x a b : Int} (h : ¬ (a ≤ x ∧ x ≤ b)) : inB x a b = false := by simp [inB]; omega

/-- What VarText answers. -/
def vOk (n : Int) : Bool := inB n 0 1000000000

def vText (n : Int) : List UInt8 := if vOk n = true then varF 8 n.toNat else []

theorem vOk_in {m : Nat} (h : m ≤ 1000000000) : vOk (m : Int) = true := inB_yes (by omega) (by omega)

theorem vText_in {m : Nat} (h : m ≤ 1000000000) : vText (m : Int) = varF 8 m := by simp [vText, vOk_in h]

theorem vOk_out {n : Int} (h : ¬ (0 ≤ n ∧ n ≤ 1000000000)) : vOk n = false := inB_no h

theorem vText_out {n : Int} (h : ¬ (0 ≤ n ∧ n ≤ 1000000000)) : vText n = [] := by simp [vText, vOk_out h]

/-- What ShortText answers. -/
def shOk (s : ByteArray) : Bool := decide (s.size ≤ 20000)

def shText (s : ByteArray) : ByteArray := if s.size ≤ 20000 then ⟨(varF 8 s.size).toArray⟩ ++ s else ⟨#[]⟩
end Go.Proofs.Ytpgcfgbhkodmeaa
