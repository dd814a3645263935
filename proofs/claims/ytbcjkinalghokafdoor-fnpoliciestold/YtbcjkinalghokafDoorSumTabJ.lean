/- Texts that stand in one: SumTab, Rowed, Cursor. -/
import Derived.Test.YtbcjkinalghokafDoorCards
import Derived.Test.YtbcjkinalghokafDoorTie
import Derived.Test.YtbcjkinalghokafDoorBaseJ
import Derived.WalkKit
import Derived.ProofKit
import Derived.OpenShut
import Derived.OpenVars
import Derived.Deep.DeepHandedRow
import Derived.Lib.LaidTab
import Derived.Stop.LaidErr
import Derived.ShutString
import Derived.Test.YtbcjkinalghokafDoorSumPlainJ
import Derived.Laws.OwnMore
import Derived.BigQuiet
import Derived.Laws.Bits128
import Derived.Deep.RegionHeld3
namespace Go.Proofs.YtbcjkinalghokafDoor
open Go.ChangeShapes Go.WideShapes Go.ChangeAt Go.RowKit

theorem card_own : ownKnob Tryd.prog.godebug = none := by kernel_rfl
theorem gFourType : (Tryd.prog.globals[0]?).map (·.type) = some 100 := by kernel_rfl
theorem cellsFour : Tryd.prog.cellsOf 100 = 16 := by kernel_rfl
theorem cellsU32 : Tryd.prog.cellsOf 90 = 1 := by kernel_rfl
theorem fourData : Rows.laid_loop_example_g00245_impl_fourSteps (H := Unit) = Lib.tabData .u32 (sumTab.map fun (n : Nat) => (n : Int)) := by kernel_rfl
theorem laidOut : laidOutB Tryd.prog = true := by kernel_rfl
theorem varsRows : varsRowed Tryd.prog ["loop.example/g00245/impl.fourSteps"] = true := by kernel_rfl

theorem tab_of {W : World} (h : laidMetH Tryd.prog [("loop.example/g00245/impl.fourSteps", Rows.laid_loop_example_g00245_impl_fourSteps)] W) : Tab W := by
  have h2 : laidMet Tryd.prog [("loop.example/g00245/impl.fourSteps", Rows.laid_loop_example_g00245_impl_fourSteps)] W := h
  rw [fourData] at h2
  exact Lib.tabIs_of_head gFour gFourType Tryd.underlying100 Tryd.underlying90 cellsU32 cellsFour h2

/-- A block's cells, laid anew. -/
def putCells (cs : Array Value) : Obj → Obj
  | .cells _ t frozen => .cells cs t frozen
  | o => o
def fourCells : Array Value := ([0, 1166650509, 2333301018, 3466261911, 3189058079, 4221339282, 889615109, 1888477064, 3558460437, 2442158232, 1594529039, 444807554, 1779230218, 797264519, 3776954128, 2761298845].map fun z => Value.int .u32 z).toArray
end Go.Proofs.YtbcjkinalghokafDoor

namespace Go.Proofs.YtbcjkinalghokafDoor
open Go.RowKit

/-- The slice value v owns the cells xs. -/
def OwnV (w : World) (base : Nat) (e : TypeId) (v : Value) (xs : List Value) : Prop := w.ownsRow base e 1 v xs.length xs

theorem OwnV.alloc {w : World} {base : Nat} {e : TypeId} {v : Value} {xs : List Value} (h : OwnV w base e v xs) (o : Obj) : OwnV (w.alloc o) base e v xs := World.ownsRow.alloc h o
theorem OwnV.lt {w : World} {base : Nat} {e : TypeId} {v : Value} {xs : List Value} (h : OwnV w base e v xs) (k : Nat) (hk : v.ownBlock = some k) : base ≤ k ∧ k < w.heap.size := World.ownsRow.lt h k hk
theorem OwnV.mono {w : World} {base base' : Nat} {e : TypeId} {v : Value} {xs : List Value} (h : OwnV w base e v xs) (hb : base' ≤ base) : OwnV w base' e v xs := by
  refine ⟨h.1, ?_⟩
  rcases h.2 with h | ⟨g, cap, cur, hv, hg, rest⟩
  · exact .inl h
  · exact .inr ⟨g, cap, cur, hv, Nat.le_trans hb hg, rest⟩

/-- It stays owned where its block is as it was. -/
theorem OwnV.kept {w w' : World} {base : Nat} {e : TypeId} {v : Value} {xs : List Value} (h : OwnV w base e v xs) (hk : ∀ k, v.ownBlock = some k → w'.heap[k]? = w.heap[k]?) : OwnV w' base e v xs := by
  refine ⟨h.1, ?_⟩
  rcases h.2 with hn | ⟨g, cap, cur, rfl, hb, hg, rest⟩
  · exact .inl hn
  · exact .inr ⟨g, cap, cur, rfl, hb, by rw [hk g rfl]; exact hg, rest⟩
theorem OwnV.below {w w' : World} {B base : Nat} {e : TypeId} {v : Value} {xs : List Value} (h : OwnV w base e v xs) (hb : Below B w w') (hB : w.heap.size ≤ B) : OwnV w' base e v xs :=
  h.kept fun k hk => hb.block k (Nat.lt_of_lt_of_le (h.lt k hk).2 hB)
theorem OwnV.grown {w w' : World} {row : Option Nat} {base : Nat} {e : TypeId} {v : Value} {xs : List Value} (h : OwnV w base e v xs) (hb : w.grownBy w' row) (hne : ∀ k, v.ownBlock = some k → row ≠ some k) : OwnV w' base e v xs :=
  h.kept fun k hk => hb.block k (h.lt k hk).2 (fun e => hne k hk e.symm)

/-- What it looks like, cell by cell. -/
theorem OwnV.shape {w : World} {base : Nat} {e : TypeId} {v : Value} {xs : List Value} (h : OwnV w base e v xs) :
    ∃ a cap, v = .slice a xs.length cap ∧ ∀ j (hj : j < xs.length), ∃ g, a = some ⟨g, 0, none⟩ ∧ w.cell? ⟨g, j, none⟩ = some xs[j] ∧ w.frozen? ⟨g, j, none⟩ = false ∧ base ≤ g ∧ g < w.heap.size := by
  have h0 := h
  rcases h.2 with ⟨rfl, hn⟩ | ⟨g, cap, cur, rfl, hb, hg, rest⟩
  · have hx : xs = [] := List.length_eq_zero_iff.1 hn
    subst hx
    exact ⟨none, 0, rfl, fun j hj => by simp at hj⟩
  · refine ⟨_, _, rfl, fun j hj => ⟨g, rfl, ?_, World.ownsRow.frozenAt h0 j, hb, (Array.getElem?_eq_some_iff.1 hg).1⟩⟩
    rw [World.ownsRow.cellAt h0 j (by omega), List.getElem?_eq_getElem hj]

theorem OwnV.nil (w : World) (base : Nat) (e : TypeId) : OwnV w base e (.slice none 0 0) [] := World.ownsRow_nil w base e 1
theorem OwnV.none_len {w : World} {base : Nat} {e : TypeId} {xs : List Value} (h : OwnV w base e (.slice none 0 0) xs) : xs = [] := by
  rcases h.2 with ⟨_, hn⟩ | ⟨g, cap, cur, hv, _⟩
  · exact List.length_eq_zero_iff.1 hn
  · simp at hv

/-- A store into it. -/
theorem OwnV.stored {w : World} {base : Nat} {e : TypeId} {g n cap : Nat} {xs : List Value} (h : OwnV w base e (.slice (some ⟨g, 0, none⟩) n cap) xs) (hn : n = xs.length) (j : Nat) (u : Value) :
    OwnV (w.setCell ⟨g, j, none⟩ u) base e (.slice (some ⟨g, 0, none⟩) n cap) (xs.set j u) ∧ w.grownBy (w.setCell ⟨g, j, none⟩ u) (some g) := by
  subst hn
  have := World.ownsRow.stored h j u
  refine ⟨?_, this.2⟩
  unfold OwnV
  rw [List.length_set]
  exact this.1

theorem grownBy_refl (w : World) (row : Option Nat) : w.grownBy w row := ⟨rfl, rfl, rfl, Nat.le_refl _, fun _ _ _ => rfl⟩
theorem grownBy_trans {a b c : World} {row : Option Nat} (h : a.grownBy b row) (k : b.grownBy c row) : a.grownBy c row :=
  ⟨k.os.trans h.os, k.tape.trans h.tape, k.output.trans h.output, Nat.le_trans h.size k.size, fun j hj hr => (k.block j (Nat.lt_of_lt_of_le hj h.size) hr).trans (h.block j hj hr)⟩
theorem grownBy_below {a b : World} {row : Option Nat} (h : Below a.heap.size a b) : a.grownBy b row := ⟨h.os, h.tape, h.output, h.size, fun j hj _ => h.block j hj⟩

/-- 'append(v, x)' of one value onto a row that is owned. -/
theorem wpList_snocV {P : Program} {ops : Array Oper} {rest : List Oper} {o : Oper} {a : Act} {Q : Exit → Act → World → Prop} {wr : World} (hgd : o.guard = none) (s x : Operand) (t : TypeId)
    (ho : o.op = .call { callee := .builtin .append, args := #[s, x], argTypes := #[t, t] }) (base : Nat) (e : TypeId) (ht : P.underlying t = some (.slice e)) (z : Value) (bytes : Nat)
    (hinfo : (P.info? e).map (fun i => (i.zero, i.size, i.bytes)) = some (some z, 1, bytes)) (hz : z.cells.size = 1) (v : Value) (xs : List Value) (hs : a.eval s = v) (hown : OwnV wr base e v xs)
    (y : Value) (hx : a.eval x = .slice (some ⟨wr.heap.size, 0, none⟩) 1 1) (hy : y.oneCell' = true) (hlen : (xs.length + 1) * bytes ≤ 140737488355328) (hlen2 : xs.length < 140737488355328) (hbase : base ≤ wr.heap.size)
    (h : ∀ v' w', OwnV w' base e v' (xs ++ [y]) → v' ≠ .slice none 0 0 → (∀ w0, Below base w0 wr → Below base w0 w') → wr.heap.size ≤ w'.heap.size → wpList P ops Q rest (a.put o.dst v') w') :
    wpList P ops Q (o :: rest) a (wr.alloc (.cells #[y] e)) := by
  obtain ⟨i0, hi, hz0, hz1, hz2⟩ := info_parts hinfo
  refine wpList_append_own _ hgd s x t ho base e i0 z 1 bytes ht hi hz0 hz1 hz2 hz (by decide) v xs.length xs hs (World.ownsRow.alloc hown _) ⟨wr.heap.size, 0, none⟩ 1 1 [y] hx rfl ?_ ?_ ?_ ?_ ?_ ?_
  · intro j u hj
    match j, hj with
    | 0, hj => simp at hj; subst hj; simp [Addr.add]
  · intro u hu; simp at hu; subst hu; exact hy
  · unfold maxLen; omega
  · exact hlen
  · simp; omega
  · intro v' w' h1 h2 h3
    refine h v' w' ?_ (fun hn => by have := h3.1 hn; omega) (fun w0 hb => ?_) ?_
    · unfold OwnV; simpa using h1
    · exact Below.grown (hb.alloc hbase _) h2 (by simp; omega) (fun k hk => (World.ownsRow.lt hown k hk).1)
    · have := h2.size; simp at this; omega

/-- Texts as cells. -/
def strs (l : List ByteArray) : List Value := l.map Value.string
theorem strs_length (l : List ByteArray) : (strs l).length = l.length := by simp [strs]
theorem strs_append (l m : List ByteArray) : strs (l ++ m) = strs l ++ strs m := by simp [strs]
theorem strs_at {l : List ByteArray} {j : Nat} (h : j < l.length) : (strs l)[j]'(by rw [strs_length]; exact h) = .string l[j] := by simp [strs]
/-- Integers as cells. -/
def ints (l : List Int) : List Value := l.map (Value.int .i64)
theorem ints_length (l : List Int) : (ints l).length = l.length := by simp [ints]
theorem ints_at {l : List Int} {j : Nat} (h : j < l.length) : (ints l)[j]'(by rw [ints_length]; exact h) = .int .i64 l[j] := by simp [ints]
end Go.Proofs.YtbcjkinalghokafDoor

namespace Go.Proofs.YtbcjkinalghokafDoor
open Go.RowKit

/-- The bytes of a draw lie where the slice says. -/
def CodeAt (w : World) (ca : Option Addr) (n : Nat) (B : Nat) : Prop :=
  ∀ j, j < n → ∃ b off, ∃ z : Int, ca = some ⟨b, off, none⟩ ∧ b < B ∧ w.cell? ⟨b, off + j, none⟩ = some (.int .u8 z) ∧ 0 ≤ z ∧ z ≤ 255

/-- The cursor's block. -/
def CurIs (w : World) (p : Nat) (ca : Option Addr) (n cap : Nat) (i h : Int) : Prop :=
  w.heap[p]? = some (.cells #[.slice ca n cap, .int .i64 i, .int .i64 h] 77 (0, 0))
def Cur (w : World) (p : Nat) (ca : Option Addr) (n cap : Nat) : Prop := ∃ i h : Int, CurIs w p ca n cap i h ∧ 0 ≤ i ∧ i ≤ n ∧ -9223372036854775808 ≤ h ∧ h ≤ 9223372036854775807

theorem CurIs.c0 {w : World} {p : Nat} {ca : Option Addr} {n cap : Nat} {i h : Int} (c : CurIs w p ca n cap i h) : w.cell? ⟨p, 0, none⟩ = some (.slice ca n cap) := by unfold CurIs at c; simp [World.cell?, c]
theorem CurIs.c1 {w : World} {p : Nat} {ca : Option Addr} {n cap : Nat} {i h : Int} (c : CurIs w p ca n cap i h) : w.cell? ⟨p, 1, none⟩ = some (.int .i64 i) := by unfold CurIs at c; simp [World.cell?, c]
theorem CurIs.c2 {w : World} {p : Nat} {ca : Option Addr} {n cap : Nat} {i h : Int} (c : CurIs w p ca n cap i h) : w.cell? ⟨p, 2, none⟩ = some (.int .i64 h) := by unfold CurIs at c; simp [World.cell?, c]
theorem CurIs.fr {w : World} {p : Nat} {ca : Option Addr} {n cap : Nat} {i h : Int} (c : CurIs w p ca n cap i h) (j : Nat) : w.frozen? ⟨p, j, none⟩ = false := by unfold CurIs at c; simp [World.frozen?, c]
theorem CurIs.set2 {w : World} {p : Nat} {ca : Option Addr} {n cap : Nat} {i h : Int} (c : CurIs w p ca n cap i h) (h' : Int) : CurIs (w.setCell ⟨p, 2, none⟩ (.int .i64 h')) p ca n cap i h' := by
  unfold CurIs at *
  rw [heap_setCell_same w p 2 _ _ _ c]
  rfl
theorem CurIs.set1 {w : World} {p : Nat} {ca : Option Addr} {n cap : Nat} {i h : Int} (c : CurIs w p ca n cap i h) (i' : Int) : CurIs (w.setCell ⟨p, 1, none⟩ (.int .i64 i')) p ca n cap i' h := by
  unfold CurIs at *
  rw [heap_setCell_same w p 1 _ _ _ c]
  rfl

theorem i64_and255 (n : Int) : bits .and .i64 n 255 = n % 256 := by
  have hm : (BitVec.ofInt 64 255).toNat = 2 ^ 8 - 1 := by decide
  have key : (BitVec.ofInt 64 n &&& BitVec.ofInt 64 255).toNat = (n % ((2 ^ 64 : Nat) : Int)).toNat % 2 ^ 8 := by
    rw [BitVec.toNat_and, BitVec.toNat_ofInt, hm, Nat.and_two_pow_sub_one_eq_mod]
  show IntKind.i64.wrap ((BitVec.ofInt 64 n &&& BitVec.ofInt 64 255).toNat : Nat) = n % 256
  rw [key, IntKind.wrap_i64]
  omega
theorem i64_and30 (n : Int) : bits .and .i64 n 1073741823 = n % 1073741824 := by
  have hm : (BitVec.ofInt 64 1073741823).toNat = 2 ^ 30 - 1 := by decide
  have key : (BitVec.ofInt 64 n &&& BitVec.ofInt 64 1073741823).toNat = (n % ((2 ^ 64 : Nat) : Int)).toNat % 2 ^ 30 := by
    rw [BitVec.toNat_and, BitVec.toNat_ofInt, hm, Nat.and_two_pow_sub_one_eq_mod]
  show IntKind.i64.wrap ((BitVec.ofInt 64 n &&& BitVec.ofInt 64 1073741823).toNat : Nat) = n % 1073741824
  rw [key, IntKind.wrap_i64]
  omega

theorem wrap64_bd (x : Int) : -9223372036854775808 ≤ wrap64 x ∧ wrap64 x ≤ 9223372036854775807 := by unfold wrap64; omega

theorem grownBy_same {a b b' : World} {row : Option Nat} (h : a.grownBy b row) (h1 : b'.os = b.os) (h2 : b'.tape = b.tape) (h3 : b'.output = b.output) (h4 : b'.heap = b.heap) : a.grownBy b' row :=
  ⟨h1.trans h.os, h2.trans h.tape, h3.trans h.output, by rw [h4]; exact h.size, fun k hk hr => by rw [h4]; exact h.block k hk hr⟩
theorem CurIs.same {w w' : World} {p : Nat} {ca : Option Addr} {n cap : Nat} {i h : Int} (c : CurIs w p ca n cap i h) (h4 : w'.heap = w.heap) : CurIs w' p ca n cap i h := by unfold CurIs at *; rw [h4]; exact c

theorem CodeAt.grown {w w' : World} {ca : Option Addr} {n p : Nat} (h : CodeAt w ca n p) (hg : w.grownBy w' (some p)) : CodeAt w' ca n p := fun j hj => by
  obtain ⟨b, off, z, h1, h2, h3, h4⟩ := h j hj
  exact ⟨b, off, z, h1, h2, hg.cell h3 (by simp; omega), h4⟩

set_option maxHeartbeats 1000000 in
theorem l01Byte_any (w : World) (p : Nat) (ca : Option Addr) (n cap : Nat) (hc : Cur w p ca n cap) (hcode : CodeAt w ca n p) (hn : n ≤ 1048576) :
    Calls Tryd.prog 52 #[.pointer (some ⟨p, 0, none⟩)] w fun e w' => ∃ x : Nat, x < 256 ∧ e = .returned (.int .i64 x) ∧ Cur w' p ca n cap ∧ w.grownBy w' (some p) := by
  obtain ⟨i, h, hcur, h1, h2, h3, h4⟩ := hc
  have c0 := hcur.c0
  have c1 := hcur.c1
  have c2 := hcur.c2
  have f1 := hcur.fr 1
  have f2 := hcur.fr 2
  have hand := i64_and255
  obtain ⟨H, hH, HB⟩ : ∃ H, wrap64 (wrap64 (h * 6364136223846793005) + 1442695040888963407) = H ∧ Hid (-9223372036854775808 ≤ H ∧ H ≤ 9223372036854775807) := ⟨_, rfl, wrap64_bd _⟩
  obtain ⟨X, hX⟩ : ∃ X, bits .xor .i64 (H / 8589934592) (H / 35184372088832) = X := ⟨_, rfl⟩
  have hs2 := hcur.set2 H
  have hg2 : w.grownBy (w.setCell ⟨p, 2, none⟩ (.int .i64 H)) (some p) := ⟨rfl, rfl, rfl, by simp, fun k _ hk => heap_setCell_other w ⟨p, 2, none⟩ k _ (fun e => hk (by simp [e]))⟩
  have hs21 := hs2.set1 (i + 1)
  have hg21 : w.grownBy ((w.setCell ⟨p, 2, none⟩ (.int .i64 H)).setCell ⟨p, 1, none⟩ (.int .i64 (i + 1))) (some p) := grownBy_trans hg2 ⟨rfl, rfl, rfl, by simp, fun k _ hk => heap_setCell_other _ ⟨p, 1, none⟩ k _ (fun e => hk (by simp [e]))⟩
  have HS : Hid (CurIs (w.setCell ⟨p, 2, none⟩ (.int .i64 H)) p ca n cap i H ∧ w.grownBy (w.setCell ⟨p, 2, none⟩ (.int .i64 H)) (some p) ∧ CurIs ((w.setCell ⟨p, 2, none⟩ (.int .i64 H)).setCell ⟨p, 1, none⟩ (.int .i64 (i + 1))) p ca n cap (i + 1) H ∧ w.grownBy ((w.setCell ⟨p, 2, none⟩ (.int .i64 H)).setCell ⟨p, 1, none⟩ (.int .i64 (i + 1))) (some p)) := ⟨hs2, hg2, hs21, hg21⟩
  clear hs2 hg2 hs21 hg21 hcur
  by_cases hin : i < n
  · obtain ⟨j, rfl⟩ : ∃ j : Nat, i = j := ⟨i.toNat, by omega⟩
    obtain ⟨b, off, z, rfl, hbp, hcell, hz1, hz2⟩ := hcode j (by omega)
    have hcell2 : (w.setCell ⟨p, 2, none⟩ (.int .i64 H)).cell? ⟨b, off + j, none⟩ = some (.int .u8 z) := by
      rw [World.cell?_of_block (w := w) (heap_setCell_other w ⟨p, 2, none⟩ b _ (by simp; omega))]
      exact hcell
    clear hcode
    go_enter Tryd.func52, Tryd.ntmps52
    go_wp2
    go_quiet (fail)
    go_wp2
    go_quiet (fail)
    go_wp2
    go_quiet (fail)
    go_wp2
    go_ret
    exact ⟨((X % 256 + z) % 256).toNat, by omega, ret_int (by omega), ⟨_, _, HS.out.2.2.1.same rfl, by omega, by omega, HB.out⟩, grownBy_same HS.out.2.2.2 rfl rfl rfl rfl⟩
  · go_enter Tryd.func52, Tryd.ntmps52
    go_wp2
    go_quiet (fail)
    go_wp2
    go_quiet (fail)
    go_wp2
    go_ret
    exact ⟨(X % 256).toNat, by omega, ret_int (by omega), ⟨_, _, HS.out.1.same rfl, by omega, by omega, HB.out⟩, grownBy_same HS.out.2.1 rfl rfl rfl rfl⟩
end Go.Proofs.YtbcjkinalghokafDoor
