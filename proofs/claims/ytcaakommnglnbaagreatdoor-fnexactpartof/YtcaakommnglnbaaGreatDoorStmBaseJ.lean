/- Texts that stand in one: StmBase, TurnedKit, StmRow, Locks, HeldKit, HeldChange. -/
import Derived.Test.YtcaakommnglnbaaGreatDoorPxPlainJ
import Derived.Test.YtcaakommnglnbaaGreatDoorHallKitJ
import Derived.Test.YtcaakommnglnbaaGreatDoorTellPlainJ
import Derived.Deep.AppendLies
import Derived.Deep.RegionHeld3
import Derived.Deep.RegionLaw
import Derived.Test.YtcaakommnglnbaaGreatDoorChecked
import Derived.Conc.RwLib
import Derived.KernelRfl
import Derived.Test.YtcaakommnglnbaaGreatDoorIntsJ
import Derived.Conc.MuLone
import Derived.Shelf.Abstract
namespace Go.Proofs.YtcaakommnglnbaaGreatDoor
open Go.RowKit

structure Stm where
  st : Int
  text : ByteArray
  rd : List (Int × Int)

def inI (n a b : Int) : Bool := decide (a ≤ n ∧ n ≤ b)
/-- The first k readers are right. -/
def rdOkTo (t : Nat) (l : List (Int × Int)) (k : Nat) : Bool := (List.range k).all fun i => inI (l.getD i (0, 0)).1 1 9 && !(decide (0 < i) && decide ((l.getD i (0, 0)).1 ≤ (l.getD (i - 1) (0, 0)).1)) && inI (l.getD i (0, 0)).2 0 t
def okM (S : Stm) : Bool := rdOkTo S.text.size S.rd S.rd.length && (inI S.st 1 3 && decide (S.text.size ≤ 400) && decide (S.rd.length ≤ 6))
def newM : Stm := ⟨1, ⟨#[]⟩, []⟩
def putM (S : Stm) (part : ByteArray) : Stm × Bool := if (okM S && decide (S.st = 1) && (decide (1 ≤ part.size) && decide (part.size ≤ 40)) && decide (S.text.size + part.size ≤ 400)) = true then (⟨S.st, S.text ++ part, S.rd⟩, true) else (S, false)
def endM (S : Stm) (broken : Bool) : Stm × Bool := if (okM S && decide (S.st = 1)) = true then (⟨if broken = true then 3 else 2, S.text, S.rd⟩, true) else (S, false)
/-- Where the reader is. -/
def atM (l : List (Int × Int)) (id : Int) : Int := match l.findIdx? (fun r => decide (r.1 = id)) with | some i => (i : Int) | none => -1
def joinL (l : List (Int × Int)) (id : Int) : List (Int × Int) := (l.filter fun r => decide (r.1 < id)) ++ [(id, 0)] ++ l.filter fun r => decide (id < r.1)
def joinM (S : Stm) (id : Int) : Stm × Bool := if (okM S && !decide (0 ≤ atM S.rd id) && okM ⟨S.st, S.text, joinL S.rd id⟩) = true then (⟨S.st, S.text, joinL S.rd id⟩, true) else (S, false)
def leaveM (S : Stm) (id : Int) : Stm := ⟨S.st, S.text, S.rd.filter fun r => !decide (r.1 = id)⟩
/-- How far a reader at 'at' comes that asks for 'most'. -/
def farM (t : Nat) (at' most : Int) : Int := if (if most < 0 then 0 else most) < (t : Int) - at' then at' + (if most < 0 then 0 else most) else (t : Int)
def readM (S : Stm) (id most : Int) : Stm × ByteArray × Bool :=
  if (okM S && decide (0 ≤ atM S.rd id)) = true then
    let k := (atM S.rd id).toNat
    let a := (S.rd.getD k (0, 0)).2
    let e := farM S.text.size a most
    (⟨S.st, S.text, S.rd.set k ((S.rd.getD k (0, 0)).1, e)⟩, S.text.extract a.toNat e.toNat, true)
  else (S, ⟨#[]⟩, false)
theorem atM_cases (l : List (Int × Int)) (id : Int) : (atM l id = -1 ∧ ∀ r ∈ l, ¬ r.1 = id) ∨ ∃ k : Nat, ∃ hk : k < l.length, atM l id = k ∧ l[k].1 = id ∧ ∀ j (hj : j < k), ¬ (l[j]'(by omega)).1 = id := by
  unfold atM
  cases h : l.findIdx? (fun r => decide (r.1 = id)) with
  | none =>
    rw [List.findIdx?_eq_none_iff] at h
    exact .inl ⟨rfl, fun r hr => by simpa using h r hr⟩
  | some k =>
    rw [List.findIdx?_eq_some_iff_getElem] at h
    obtain ⟨hk, h1, h2⟩ := h
    exact .inr ⟨k, hk, rfl, by simpa using h1, fun j hj => by simpa using h2 j hj⟩
theorem rdOkTo_succ (t : Nat) (l : List (Int × Int)) (k : Nat) : rdOkTo t l (k + 1) = (rdOkTo t l k && (inI (l.getD k (0, 0)).1 1 9 && !(decide (0 < k) && decide ((l.getD k (0, 0)).1 ≤ (l.getD (k - 1) (0, 0)).1)) && inI (l.getD k (0, 0)).2 0 t)) := by
  unfold rdOkTo
  rw [List.range_succ, List.all_append]
  simp
theorem rdOkTo_down (t : Nat) (l : List (Int × Int)) {k : Nat} : ∀ n, k ≤ n → rdOkTo t l k = false → rdOkTo t l n = false
  | 0, hk, h => by
    have : k = 0 := by omega
    rw [← this]
    exact h
  | n + 1, hk, h => by
    by_cases e : k = n + 1
    · rw [← e]; exact h
    · rw [rdOkTo_succ, rdOkTo_down t l n (by omega) h]; rfl
/-- A stream in a variable. -/
def MBox (w : World) (T : Nat) (a b c : Value) : Prop := w.heap[T]? = some (.cells #[a, b, c] 56 (0, 0))
theorem MBox.lt {w : World} {T : Nat} {a b c : Value} (h : MBox w T a b c) : T < w.heap.size := (Array.getElem?_eq_some_iff.1 h).1
theorem MBox.new (w : World) (a b c : Value) : MBox (w.alloc (.cells #[a, b, c] 56)) w.heap.size a b c := heap_alloc_new w _
theorem MBox.kept {w w' : World} {T : Nat} {a b c : Value} (h : MBox w T a b c) (hk : w'.heap[T]? = w.heap[T]?) : MBox w' T a b c := hk.trans h
theorem MBox.on {w w' : World} {T : Nat} {a b c : Value} (h : MBox w T a b c) (hb : Below w.heap.size w w') : MBox w' T a b c := h.kept (hb.block T h.lt)
theorem MBox.thaw {w : World} {T : Nat} {a b c : Value} (h : MBox w T a b c) (i : Nat) : w.frozen? ⟨T, i, none⟩ = false := by
  unfold MBox at h
  simp [World.frozen?, h]
theorem MBox.cells {w : World} {T : Nat} {a b c : Value} (h : MBox w T a b c) : w.cell? ⟨T, 0, none⟩ = some a ∧ w.cell? ⟨T, 1, none⟩ = some b ∧ w.cell? ⟨T, 2, none⟩ = some c := by
  unfold MBox at h
  refine ⟨?_, ?_, ?_⟩
  · rw [cell_of_row w T 0 _ _ (0, 0) h]; rfl
  · rw [cell_of_row w T 1 _ _ (0, 0) h]; rfl
  · rw [cell_of_row w T 2 _ _ (0, 0) h]; rfl
theorem MBox.set0 {w : World} {T : Nat} {a b c : Value} (h : MBox w T a b c) (x : Value) : MBox (w.setCell ⟨T, 0, none⟩ x) T x b c := by
  unfold MBox at *
  simp only [World.setCell, Array.getElem?_modify, h]
  simp
theorem MBox.set1 {w : World} {T : Nat} {a b c : Value} (h : MBox w T a b c) (x : Value) : MBox (w.setCell ⟨T, 1, none⟩ x) T a x c := by
  unfold MBox at *
  simp only [World.setCell, Array.getElem?_modify, h]
  simp
theorem MBox.set2 {w : World} {T : Nat} {a b c : Value} (h : MBox w T a b c) (x : Value) : MBox (w.setCell ⟨T, 2, none⟩ x) T a b x := by
  unfold MBox at *
  simp only [World.setCell, Array.getElem?_modify, h]
  simp
theorem MBox.put {w : World} {T : Nat} {a b c : Value} (h : MBox w T a b c) (x y z : Value) : MBox (((w.setCell ⟨T, 0, none⟩ x).setCell ⟨T, 1, none⟩ y).setCell ⟨T, 2, none⟩ z) T x y z := ((h.set0 x).set1 y).set2 z
theorem put3_otherM (w : World) (T : Nat) (x y z : Value) (k : Nat) (hk : k ≠ T) : (((w.setCell ⟨T, 0, none⟩ x).setCell ⟨T, 1, none⟩ y).setCell ⟨T, 2, none⟩ z).heap[k]? = w.heap[k]? := by
  rw [Below.heap_setCell _ _ _ _ (by exact hk), Below.heap_setCell _ _ _ _ (by exact hk), Below.heap_setCell _ _ _ _ (by exact hk)]
theorem Below.put3M {B : Nat} {a w : World} (h : Below B a w) {T : Nat} (hT : B ≤ T) (x y z : Value) : Below B a (((w.setCell ⟨T, 0, none⟩ x).setCell ⟨T, 1, none⟩ y).setCell ⟨T, 2, none⟩ z) := ((h.setCell hT x).setCell hT y).setCell hT z
/-- The value v owns the stream S: its readers lie in a block of its own from lo on. -/
def MOwn (w : World) (lo : Nat) (v : Value) (S : Stm) : Prop := ∃ v1, v = .agg #[.int .i64 S.st, .string S.text, v1] ∧ OwnP w lo 119 v1 S.rd
theorem MOwn.at {w : World} {lo : Nat} {v : Value} {S : Stm} (h : MOwn w lo v S) : ∃ a c, v = .agg #[.int .i64 S.st, .string S.text, .slice a S.rd.length c] ∧ PAt w a S.rd w.heap.size := by
  obtain ⟨v1, rfl, h1⟩ := h
  obtain ⟨a, c, rfl, hA⟩ := h1.at
  exact ⟨a, c, rfl, hA⟩
theorem MOwn.mono {w : World} {lo lo' : Nat} {v : Value} {S : Stm} (h : MOwn w lo v S) (hl : lo' ≤ lo) : MOwn w lo' v S := by
  obtain ⟨v1, rfl, h1⟩ := h
  exact ⟨v1, rfl, h1.mono hl⟩
theorem MOwn.below {w w' : World} {B lo : Nat} {v : Value} {S : Stm} (h : MOwn w lo v S) (hb : Below B w w') (hB : w.heap.size ≤ B) : MOwn w' lo v S := by
  obtain ⟨v1, rfl, h1⟩ := h
  exact ⟨v1, rfl, h1.below hb hB⟩
theorem ownP_type {w : World} {lo : Nat} {e : TypeId} {u : Value} {L : List (Int × Int)} (ho : OwnP w lo e u L) : ∀ k, u.ownBlock = some k → ∃ cs, w.heap[k]? = some (.cells cs e (0, 0)) := by
  intro k hk
  rcases ho.2 with ⟨rfl, _⟩ | ⟨g, cap, cur, rfl, _, hg, _⟩
  · simp [Value.ownBlock] at hk
  · simp [Value.ownBlock] at hk
    subst hk
    exact ⟨_, hg⟩
/-- A variable's block is none of its own. -/
theorem MOwn.box {w w' : World} {lo T : Nat} {a b c v : Value} {S : Stm} (h : MOwn w lo v S) (hB : MBox w T a b c) (hk : ∀ k, k ≠ T → w'.heap[k]? = w.heap[k]?) : MOwn w' lo v S := by
  obtain ⟨v1, rfl, h1⟩ := h
  refine ⟨v1, rfl, h1.kept fun k hk' => hk k fun e => ?_⟩
  subst e
  obtain ⟨cs, hc⟩ := ownP_type h1 k hk'
  unfold MBox at hB
  rw [hB] at hc
  simp only [Option.some.injEq, Obj.cells.injEq] at hc
  exact absurd hc.2.1 (by decide)
theorem MOwn.put3 {w : World} {lo T : Nat} {a b c v : Value} {S : Stm} (h : MOwn w lo v S) (hB : MBox w T a b c) (x y z : Value) : MOwn (((w.setCell ⟨T, 0, none⟩ x).setCell ⟨T, 1, none⟩ y).setCell ⟨T, 2, none⟩ z) lo v S := h.box hB fun k hk => put3_otherM w T x y z k hk
end Go.Proofs.YtcaakommnglnbaaGreatDoor

namespace Go.Proofs.YtcaakommnglnbaaGreatDoor
open Go.RowKit Go.Sort
/-- The k-th fetch. -/
def fetAt (R : Prx) (k : Nat) : Fet := R.fes.getD k zFet
/-- May the fetch at this place be turned? -/
def turnB (R : Prx) (k : Int) : Bool := okX R && (decide (0 ≤ k) && decide (k < (R.fes.length : Int)))
def stmOf (f : Fet) : Stm := ⟨f.st, f.tx, []⟩
/-- The fetch at this place gets a part. -/
def partP (R : Prx) (k : Nat) (part : ByteArray) : Prx := ⟨R.now, R.ents, R.pol, R.fes.set k ((fetAt R k).turn (putM (stmOf (fetAt R k)) part).1.text (putM (stmOf (fetAt R k)) part).1.st), tellX R.cls k (fun c => c.w_got (putM (stmOf (fetAt R k)) part).1.text), R.hits⟩
def partR (R : Prx) (k : Int) (part : ByteArray) : Prx × Bool := if (turnB R k && (putM (stmOf (fetAt R k.toNat)) part).2) = true then (partP R k.toNat part, true) else (R, false)
theorem putM_size (S : Stm) (part : ByteArray) (h1 : S.text.size ≤ 1048576) : (putM S part).1.text.size ≤ 1048576 := by
  unfold putM
  split
  · rename_i h
    simp only [Bool.and_eq_true, decide_eq_true_eq] at h
    show (S.text ++ part).size ≤ _
    rw [ByteArray.size_append]; omega
  · show S.text.size ≤ _
    omega
theorem fet_sz {R : Prx} (h : PxSz R) (k : Nat) : (fetAt R k).tx.size ≤ 1048576 := by
  unfold fetAt
  by_cases hk : k < R.fes.length
  · rw [getD_of hk]; exact (h.fes _ (List.getElem_mem hk)).2
  · rw [List.getD_eq_getElem?_getD, List.getElem?_eq_none (by omega)]; exact Nat.zero_le _
theorem stmCell0 {w : World} {N : Nat} {t : TypeId} {a b c : Value} (h : w.heap[N]? = some (.cells #[a, b, c] t (0, 0))) : w.cell? ⟨N, 0, none⟩ = some a := by rw [cell_of_row w N 0 _ _ (0, 0) h]; rfl
theorem stmCell1 {w : World} {N : Nat} {t : TypeId} {a b c : Value} (h : w.heap[N]? = some (.cells #[a, b, c] t (0, 0))) : w.cell? ⟨N, 1, none⟩ = some b := by rw [cell_of_row w N 1 _ _ (0, 0) h]; rfl
theorem stmCell2 {w : World} {N : Nat} {t : TypeId} {a b c : Value} (h : w.heap[N]? = some (.cells #[a, b, c] t (0, 0))) : w.cell? ⟨N, 2, none⟩ = some c := by rw [cell_of_row w N 2 _ _ (0, 0) h]; rfl
theorem stmThaw {w : World} {N : Nat} {t : TypeId} {a b c : Value} (h : w.heap[N]? = some (.cells #[a, b, c] t (0, 0))) (i : Nat) : w.frozen? ⟨N, i, none⟩ = false := by simp [World.frozen?, h]
theorem stmPut {w : World} {N : Nat} {t : TypeId} {a b c : Value} (h : w.heap[N]? = some (.cells #[a, b, c] t (0, 0))) (x y z : Value) : (((w.setCell ⟨N, 0, none⟩ x).setCell ⟨N, 1, none⟩ y).setCell ⟨N, 2, none⟩ z).heap[N]? = some (.cells #[x, y, z] t (0, 0)) := by
  simp only [World.setCell, Array.getElem?_modify, h]
  simp
theorem stmBelow {B : Nat} {a w : World} (h : Below B a w) {T : Nat} (hT : B ≤ T) (x y z : Value) : Below B a (((w.setCell ⟨T, 0, none⟩ x).setCell ⟨T, 1, none⟩ y).setCell ⟨T, 2, none⟩ z) := ((h.setCell hT x).setCell hT y).setCell hT z
/-- What is left of a hall: its proxy. -/
theorem HallAt.out {w : World} {lo T : Nat} {X : Pc} {R : Prx} (H : HallAt w lo T X R) : PxOwn w lo w.heap.size X R := H.own
end Go.Proofs.YtcaakommnglnbaaGreatDoor

namespace Go.Proofs.YtcaakommnglnbaaGreatDoor
open Go.RowKit Go.Sort

theorem Tryz.infoRdr : (Tryz.prog.info? 119).map (fun i => (i.zero, i.size, i.bytes)) = some (some (.agg #[.int .i64 0, .int .i64 0]), 2, 16) := by kernel_rfl
/-- An append of all onto an empty row without room: a row of its own, or the same. -/
theorem step_allR {P : Program} {ops : Array Oper} {o : Oper} {a : Act} {K : Act → World → Prop} {Q : Exit → Act → World → Prop} {E' : Prop} {w : World} (hgd : o.guard = none) (s x : Operand) (t : TypeId)
    (ho : o.op = .call { callee := .builtin .append, args := #[s, x], argTypes := #[t, t] }) (e : TypeId) (ht : P.underlying t = some (.slice e)) (z : Value) (size bytes : Nat)
    (hinfo : (P.info? e).map (fun i => (i.zero, i.size, i.bytes)) = some (some z, size, bytes)) (hzs : z.cells.size = size) (hsz : 0 < size) (hby : bytes ≤ 1000)
    (G : Nat) (hs : a.eval s = .slice (some ⟨G, 0, none⟩) 0 0) (hG : w.heap[G]? = some (.cells #[] e (0, 0)))
    (a0 : Option Addr) (n cap : Nat) (news : List Value) (hx : a.eval x = .slice a0 n cap) (hl : news.length = n * size) (hnone : a0 = none → n = 0) (hnews : ∀ ad, a0 = some ad → ∀ j u, news[j]? = some u → w.cell? (ad.add j) = some u) (h1 : ∀ u ∈ news, u.oneCell' = true) (hn : n ≤ 1048576)
    (h : ∀ g c w', w'.ownsRow G e size (.slice (some ⟨g, 0, none⟩) n c) n news → Below G w w' → (g = G ∨ w.heap.size ≤ g) → (∀ k, k < w.heap.size → k ≠ G → w'.heap[k]? = w.heap[k]?) → K (a.put o.dst (.slice (some ⟨g, 0, none⟩) n c)) w') :
    if Region.wanted o (yielded ops a.tmps) = true then Oper.wp P o a w K Q else E' := by
  obtain ⟨i0, hi, hz0, hz1, hz2⟩ := info_parts hinfo
  have hGs : G < w.heap.size := (Array.getElem?_eq_some_iff.1 hG).1
  by_cases h0 : n = 0
  · subst h0
    have hnil : news = [] := List.length_eq_zero_iff.1 (by simpa using hl)
    subst hnil
    have hw : Region.wanted o (yielded ops a.tmps) = true := by simp [Region.wanted, hgd]
    rw [if_pos hw]
    have hrun : (Builtin.append_ #[t, t] o.type #[.slice (some ⟨G, 0, none⟩) 0 0, .slice a0 0 cap]).run P w = .ok (.slice (some ⟨G, 0, none⟩) 0 0) w := by
      cases a0 with
      | none => simp [Builtin.append_, run_underlying ht, sizeOf, typeInfo, hi, Builtin.lenOf, Builtin.firstCells, storeCells]
      | some ad =>
        have hld := run_loadCells_list (P := P) w ad [] (fun j u hu => by simp at hu)
        simp at hld
        simp [Builtin.append_, run_underlying ht, sizeOf, typeInfo, hi, Builtin.lenOf, Builtin.firstCells, storeCells, hld]
    unfold Oper.wp
    simp [execOp, ho, resolve, invoke, builtin, hs, hx, hrun, Result.andThen]
    exact h G 0 w ⟨by simp, .inr ⟨G, 0, #[], rfl, Nat.le_refl _, hG, Nat.le_refl _, by simp [maxLen], by simp, by simp⟩⟩ (Below.refl _ _) (.inl rfl) (fun _ _ _ => rfl)
  · obtain ⟨ad, rfl⟩ : ∃ ad, a0 = some ad := by
      cases a0 with
      | none => exact absurd (hnone rfl) h0
      | some ad => exact ⟨ad, rfl⟩
    have hown : w.ownsRow G e size (.slice (some ⟨G, 0, none⟩) 0 0) 0 [] := ⟨by simp, .inr ⟨G, 0, #[], rfl, Nat.le_refl _, hG, Nat.le_refl _, by simp [maxLen], by simp, by simp⟩⟩
    have hbs : (0 + n) * bytes ≤ 140737488355328 := by
      have : (0 + n) * bytes ≤ 1048576 * 1000 := by rw [Nat.zero_add]; exact Nat.mul_le_mul hn hby
      omega
    refine step_append_lies w hgd s x t ho G e i0 z size bytes ht hi hz0 hz1 hz2 hzs hsz _ 0 [] hs hown ad n cap news hx hl (hnews ad rfl) h1 (by omega) (by unfold maxLen; omega) hbs (by omega) w.heap.size rfl ?_
    intro g c w' ho' hgr hg hgl
    rw [Nat.zero_add, List.nil_append] at ho'
    rw [Nat.zero_add]
    refine h g c w' ho' ((Below.refl _ w).grown hgr (by omega) (fun k e => by cases e; exact Nat.le_refl _)) ?_ (fun k hk hne => hgr.block k hk (fun e => hne (by cases e; rfl)))
    rcases hg with hg | hg
    · left; cases hg; rfl
    · right; omega
theorem PAt.srcR {w : World} {a0 : Option Addr} {l : List (Int × Int)} {B : Nat} (h : PAt w a0 l B) : (a0 = none → l.length = 0) ∧ ∀ ad, a0 = some ad → ∀ j u, (prl l)[j]? = some u → w.cell? (ad.add j) = some u := by
  refine ⟨fun e => ?_, fun ad e j u hu => ?_⟩
  · cases l with
    | nil => rfl
    | cons x r => obtain ⟨g, off, ha, _⟩ := h 0 (by simp); rw [e] at ha; cases ha
  · obtain ⟨hj, _⟩ := List.getElem?_eq_some_iff.1 hu
    rw [prl_length] at hj
    obtain ⟨g, off, ha, _, hc0, hc1⟩ := h (j / 2) (by omega)
    rw [e] at ha
    simp only [Option.some.injEq] at ha
    subst ha
    have hat := prl_at l (j / 2) (by omega)
    rw [Addr.add_mid]
    rcases (by omega : j % 2 = 0 ∨ j % 2 = 1) with h | h
    · have e : j = 2 * (j / 2) := by omega
      rw [e, hat.1] at hu
      rw [show off + j = off + j / 2 * 2 by omega, hc0]
      exact hu
    · have e : j = 2 * (j / 2) + 1 := by omega
      rw [e, hat.2] at hu
      rw [show off + j = off + j / 2 * 2 + 1 by omega, hc1]
      exact hu
theorem bplusR {a b : World} (h : Below a.heap.size a b) (o : Obj) : Below a.heap.size a (b.alloc o) := h.alloc h.size o
theorem ballocR {n : Nat} {a b : World} (h : Below n a b) (hn : n ≤ a.heap.size) (o : Obj) : Below n a (b.alloc o) := h.alloc (Nat.le_trans hn h.size) o
end Go.Proofs.YtcaakommnglnbaaGreatDoor

namespace Go.Proofs
abbrev Tryz.muLink : Go.Conc.Locks.MuLink := { lock := 177, unlock := 178, ilock := 180, iunlock := 181, lockSlow := 186, unlockSlow := 189, disable := 182, enable := 184, acquire := 185, relMerge := 187, cas32 := 183, add32 := 188, tMutex := 218, tIMutex := 216, tPMutex := 222, tPIMutex := 223, tPI32 := 225, tUP := 227, tNoCopy := 214, tU32 := 186 }
theorem Tryz.muLib : Go.Conc.Locks.MuLib Tryz.prog Tryz.muLink :=
  ⟨Tryz.func177, Tryz.func178, Tryz.func180, Tryz.func181, Tryz.func182, Tryz.func184, Tryz.func185, Tryz.func187, Tryz.func183, Tryz.func188, Tryz.underlying216, Tryz.runUnderlying216, Tryz.sizeOf216, Tryz.isAgg216, Tryz.zeroValue216, Tryz.underlying218, Tryz.runUnderlying218, Tryz.sizeOf218, Tryz.isAgg218, Tryz.zeroValue218, Tryz.underlying222, Tryz.runUnderlying222, Tryz.sizeOf222, Tryz.isAgg222, Tryz.zeroValue222, Tryz.underlying223, Tryz.runUnderlying223, Tryz.sizeOf223, Tryz.isAgg223, Tryz.zeroValue223, Tryz.underlying225, Tryz.runUnderlying225, Tryz.sizeOf225, Tryz.isAgg225, Tryz.zeroValue225, Tryz.underlying227, Tryz.runUnderlying227, Tryz.sizeOf227, Tryz.isAgg227, Tryz.zeroValue227, Tryz.underlying214, Tryz.runUnderlying214, Tryz.sizeOf214, Tryz.isAgg214, Tryz.zeroValue214, Tryz.underlying21, Tryz.runUnderlying21, Tryz.sizeOf21, Tryz.isAgg21, Tryz.zeroValue21, (by kernel_rfl)⟩
end Go.Proofs

namespace Go.Proofs.YtcaakommnglnbaaGreatDoor
open Go.RowKit Go.Sort Go.MuLone

/-- A lock and a stream in the block B. -/
def HBox (w : World) (B : Nat) (l : Int) (st : Int) (t : ByteArray) (v : Value) : Prop := w.heap[B]? = some (.cells #[.int .i32 l, .int .u32 0, .int .i64 st, .string t, v] 220 (0, 0))
theorem HBox.lt {w : World} {B : Nat} {l st : Int} {t : ByteArray} {v : Value} (h : HBox w B l st t v) : B < w.heap.size := (Array.getElem?_eq_some_iff.1 h).1
theorem HBox.kept {w w' : World} {B : Nat} {l st : Int} {t : ByteArray} {v : Value} (h : HBox w B l st t v) (hk : w'.heap[B]? = w.heap[B]?) : HBox w' B l st t v := hk.trans h
theorem HBox.on {w w' : World} {B : Nat} {l st : Int} {t : ByteArray} {v : Value} (h : HBox w B l st t v) (hb : Below w.heap.size w w') : HBox w' B l st t v := h.kept (hb.block B h.lt)
theorem HBox.thaw {w : World} {B : Nat} {l st : Int} {t : ByteArray} {v : Value} (h : HBox w B l st t v) (i : Nat) : w.frozen? ⟨B, i, none⟩ = false := by
  unfold HBox at h
  simp [World.frozen?, h]
theorem HBox.lock {w : World} {B : Nat} {l st : Int} {t : ByteArray} {v : Value} (h : HBox w B l st t v) : w.cell? ⟨B, 0, none⟩ = some (.int .i32 l) := by
  unfold HBox at h
  rw [cell_of_row w B 0 _ _ (0, 0) h]; rfl
theorem HBox.cells {w : World} {B : Nat} {l st : Int} {t : ByteArray} {v : Value} (h : HBox w B l st t v) : w.cell? ⟨B, 2, none⟩ = some (.int .i64 st) ∧ w.cell? ⟨B, 3, none⟩ = some (.string t) ∧ w.cell? ⟨B, 4, none⟩ = some v := by
  unfold HBox at h
  refine ⟨?_, ?_, ?_⟩
  · rw [cell_of_row w B 2 _ _ (0, 0) h]; rfl
  · rw [cell_of_row w B 3 _ _ (0, 0) h]; rfl
  · rw [cell_of_row w B 4 _ _ (0, 0) h]; rfl
theorem HBox.setL {w : World} {B : Nat} {l st : Int} {t : ByteArray} {v : Value} (h : HBox w B l st t v) (x : Int) : HBox (w.setCell ⟨B, 0, none⟩ (.int .i32 x)) B x st t v := by
  unfold HBox at *
  simp only [World.setCell, Array.getElem?_modify, h]
  simp
theorem HBox.setS {w : World} {B : Nat} {l st : Int} {t : ByteArray} {v : Value} (h : HBox w B l st t v) (x : Int) : HBox (w.setCell ⟨B, 2, none⟩ (.int .i64 x)) B l x t v := by
  unfold HBox at *
  simp only [World.setCell, Array.getElem?_modify, h]
  simp
theorem HBox.setT {w : World} {B : Nat} {l st : Int} {t : ByteArray} {v : Value} (h : HBox w B l st t v) (x : ByteArray) : HBox (w.setCell ⟨B, 3, none⟩ (.string x)) B l st x v := by
  unfold HBox at *
  simp only [World.setCell, Array.getElem?_modify, h]
  simp
theorem HBox.setR {w : World} {B : Nat} {l st : Int} {t : ByteArray} {v : Value} (h : HBox w B l st t v) (x : Value) : HBox (w.setCell ⟨B, 4, none⟩ x) B l st t x := by
  unfold HBox at *
  simp only [World.setCell, Array.getElem?_modify, h]
  simp
theorem tch_set {S : Nat → Prop} (w : World) (B i : Nat) (x : Value) (hS : S B) : Tch S w (w.setCell ⟨B, i, none⟩ x) := ⟨⟨rfl, rfl, rfl, by simp [World.setCell], fun _ hk => absurd hk (Nat.not_lt_zero _)⟩, fun k _ hn => Below.heap_setCell _ _ _ _ (show k ≠ B from fun e => hn (e ▸ hS))⟩
theorem tch_alloc {S : Nat → Prop} (w : World) (o : Obj) : Tch S w (w.alloc o) := Tch.of_below ((Below.refl _ _).alloc (Nat.le_refl _) _)
/-- A held stream S with the lock's word l, in the block B; what lay ahead of w0 is as it was. -/
structure Held (w0 : World) (B : Nat) (l : Int) (S : Stm) (v : Value) (w : World) : Prop where
  below : Below w0.heap.size w0 w
  hB : w0.heap.size ≤ B
  box : HBox w B l S.st S.text v
  own : OwnP w w0.heap.size 119 v S.rd
theorem ownP_notHeld {w : World} {lo B : Nat} {l st : Int} {t : ByteArray} {v u : Value} {L : List (Int × Int)} (ho : OwnP w lo 119 u L) (hB : HBox w B l st t v) : ∀ k, u.ownBlock = some k → k ≠ B := by
  intro k hk e
  subst e
  obtain ⟨cs, hc⟩ := ownP_type ho k hk
  unfold HBox at hB
  rw [hB] at hc
  simp only [Option.some.injEq, Obj.cells.injEq] at hc
  exact absurd hc.2.1 (by decide)
theorem ownP_notBox {w : World} {lo T : Nat} {a b c u : Value} {L : List (Int × Int)} (ho : OwnP w lo 119 u L) (hB : MBox w T a b c) : ∀ k, u.ownBlock = some k → k ≠ T := by
  intro k hk e
  subst e
  obtain ⟨cs, hc⟩ := ownP_type ho k hk
  unfold MBox at hB
  rw [hB] at hc
  simp only [Option.some.injEq, Obj.cells.injEq] at hc
  exact absurd hc.2.1 (by decide)
theorem OwnP.ltP {w : World} {lo : Nat} {e : TypeId} {v : Value} {L : List (Int × Int)} (h : OwnP w lo e v L) : ∀ k, v.ownBlock = some k → lo ≤ k ∧ k < w.heap.size := fun k hk => h.lt k hk
theorem Held.on {w0 : World} {B : Nat} {l : Int} {S : Stm} {v : Value} {w w' : World} (h : Held w0 B l S v w) (hb : Below w.heap.size w w') : Held w0 B l S v w' := ⟨h.below.trans (hb.mono h.below.size), h.hB, h.box.on hb, h.own.below hb (Nat.le_refl _)⟩
theorem Held.lockTo {w0 : World} {B : Nat} {l : Int} {S : Stm} {v : Value} {w : World} (h : Held w0 B l S v w) (x : Int) : Held w0 B x S v (w.setCell ⟨B, 0, none⟩ (.int .i32 x)) :=
  ⟨h.below.setCell h.hB _, h.hB, h.box.setL x, h.own.kept fun k hk => Below.heap_setCell _ _ _ _ (show k ≠ B from ownP_notHeld h.own h.box k hk)⟩
theorem Held.stTo {w0 : World} {B : Nat} {l : Int} {S : Stm} {v : Value} {w : World} (h : Held w0 B l S v w) (x : Int) : Held w0 B l ⟨x, S.text, S.rd⟩ v (w.setCell ⟨B, 2, none⟩ (.int .i64 x)) :=
  ⟨h.below.setCell h.hB _, h.hB, h.box.setS x, h.own.kept fun k hk => Below.heap_setCell _ _ _ _ (show k ≠ B from ownP_notHeld h.own h.box k hk)⟩
theorem Held.textTo {w0 : World} {B : Nat} {l : Int} {S : Stm} {v : Value} {w : World} (h : Held w0 B l S v w) (x : ByteArray) : Held w0 B l ⟨S.st, x, S.rd⟩ v (w.setCell ⟨B, 3, none⟩ (.string x)) :=
  ⟨h.below.setCell h.hB _, h.hB, h.box.setT x, h.own.kept fun k hk => Below.heap_setCell _ _ _ _ (show k ≠ B from ownP_notHeld h.own h.box k hk)⟩
theorem Held.poke {w0 : World} {B : Nat} {l : Int} {S : Stm} {v : Value} {w w' : World} {X : Nat → Prop} (h : Held w0 B l S v w) (ht : Tch X w w') (hX : ∀ k, X k → w0.heap.size ≤ k ∧ k ≠ B ∧ ∀ j, v.ownBlock = some j → k ≠ j) : Held w0 B l S v w' :=
  ⟨Tch.below h.below ht h.below.size (fun k hk => (hX k hk).1), h.hB, h.box.kept (ht.2 B h.box.lt (fun e => (hX B e).2.1 rfl)), h.own.kept fun k hk => ht.2 k (h.own.lt k hk).2 (fun e => (hX k e).2.2 k hk rfl)⟩
theorem Held.at {w0 : World} {B : Nat} {l : Int} {S : Stm} {v : Value} {w : World} (h : Held w0 B l S v w) : ∃ a c, v = .slice a S.rd.length c ∧ PAt w a S.rd w.heap.size := h.own.at
end Go.Proofs.YtcaakommnglnbaaGreatDoor

namespace Go.Proofs.YtcaakommnglnbaaGreatDoor
open Go.RowKit Go.Sort Go.MuLone

set_option maxRecDepth 100000 in
set_option maxHeartbeats 4000000 in
theorem change_any (g : Nat) (lb : Array Value) (eg : ∀ args w, (callFunc g args).run Tryz.prog w = .ok (.enter g args) w) (w : World) (B : Nat) (st : Int) (t : ByteArray) (v : Value) (hB : HBox w B 0 st t v) (Q : Bool → Int → ByteArray → Value → World → Prop)
    (hf : ∀ W, HBox W B 1 st t v → MBox W w.heap.size (.int .i64 0) (.string ⟨#[]⟩) (.slice none 0 0) → Tch (fun k => k = B) w W → Calls Tryz.prog g (#[.pointer (some ⟨B, 2, none⟩)] ++ lb) W fun e w' => ∃ ok st' t' a' n' c', e = .returned (.bool ok) ∧ HBox w' B 1 st' t' (.slice a' n' c') ∧ MBox w' w.heap.size (.int .i64 0) (.string ⟨#[]⟩) (.slice none 0 0) ∧ Q ok st' t' (.slice a' n' c') w') :
    Calls Tryz.prog 174 #[.pointer (some ⟨B, 0, none⟩), .func (.func g) #[] lb] w fun e w' => ∃ ok st' t' v' w2, e = .returned (.tuple #[.agg #[.int .i64 st', .string t', v'], .bool ok]) ∧ Q ok st' t' v' w2 ∧ HBox w2 B 1 st' t' v' ∧ MBox w2 w.heap.size (.int .i64 0) (.string ⟨#[]⟩) (.slice none 0 0) ∧ Tch (fun k => k = B ∨ k = w.heap.size) w2 w' ∧ HBox w' B 0 st' t' v' := by
  have hBn : B < w.heap.size := hB.lt
  obtain ⟨w1, hw1⟩ : ∃ x, w.alloc (.cells #[.int .i64 0, .string ⟨#[]⟩, .slice none 0 0] 56) = x := ⟨_, rfl⟩
  have hb1 : Below w.heap.size w w1 := by rw [← hw1]; exact (Below.refl _ _).alloc (Nat.le_refl _) _
  have hR1 : MBox w1 w.heap.size (.int .i64 0) (.string ⟨#[]⟩) (.slice none 0 0) := by rw [← hw1]; exact MBox.new _ _ _ _
  have hB1 : HBox w1 B 0 st t v := hB.on hb1
  have HW : Hid (w.alloc (.cells #[.int .i64 0, .string ⟨#[]⟩, .slice none 0 0] 56) = w1) := hw1
  have c0 := hf (w1.setCell ⟨B, 0, none⟩ (.int .i32 1)) (hB1.setL 1) (hR1.kept (Below.heap_setCell _ _ _ _ (show w.heap.size ≠ B by omega))) ((Tch.of_below hb1).trans (tch_set _ _ _ _ rfl))
  have hl := hB1.lock
  have hz := hB1.thaw 0
  clear hw1 hb1 hR1 hB1 hf hB
  go_enter_defers Tryz.func174, Tryz.ntmps174
  go_wp2_with fail
  rw [HW.out]
  refine (lock_free Tryz.muLib ⟨B, 0, none⟩ _ hl hz).mono ?_
  rintro e wx ⟨rfl, rfl⟩
  go_wp2_with (go_at_fn g; refine c0.mono ?_; rintro e w2 ⟨ok, st', t', a', n', c', rfl, hB2, hR2, hQ⟩; obtain ⟨x2, x3, x4⟩ := hB2.cells; obtain ⟨r0, r1, r2⟩ := hR2.cells; obtain ⟨f0, f1, f2⟩ := (⟨hR2.thaw 0, hR2.thaw 1, hR2.thaw 2⟩ : _ ∧ _ ∧ _))
  have hk3 : ∀ k, k ≠ w.heap.size → (((w2.setCell ⟨w.heap.size, 0, none⟩ (.int .i64 st')).setCell ⟨w.heap.size, 1, none⟩ (.string t')).setCell ⟨w.heap.size, 2, none⟩ (.slice a' n' c')).heap[k]? = w2.heap[k]? := fun k hk => put3_otherM _ _ _ _ _ k hk
  have hB3 : HBox (((w2.setCell ⟨w.heap.size, 0, none⟩ (.int .i64 st')).setCell ⟨w.heap.size, 1, none⟩ (.string t')).setCell ⟨w.heap.size, 2, none⟩ (.slice a' n' c')) B 1 st' t' (.slice a' n' c') := hB2.kept (hk3 B (by omega))
  obtain ⟨q0, q1, q2⟩ := (hR2.put (.int .i64 st') (.string t') (.slice a' n' c')).cells
  refine leaves_cons (f := 178) (args := #[.pointer (some ⟨B, 0, none⟩)]) (by simp) (by simp [go_sem]) ?_
  refine (unlock_deferred Tryz.muLib ⟨B, 0, none⟩ .returning _ hB3.lock (hB3.thaw 0)).mono ?_
  rintro e u' w3 ⟨rfl, rfl, rfl⟩
  have k0 : ((((w2.setCell ⟨w.heap.size, 0, none⟩ (.int .i64 st')).setCell ⟨w.heap.size, 1, none⟩ (.string t')).setCell ⟨w.heap.size, 2, none⟩ (.slice a' n' c')).setCell ⟨B, 0, none⟩ (.int .i32 0)).heap[w.heap.size]? = (((w2.setCell ⟨w.heap.size, 0, none⟩ (.int .i64 st')).setCell ⟨w.heap.size, 1, none⟩ (.string t')).setCell ⟨w.heap.size, 2, none⟩ (.slice a' n' c')).heap[w.heap.size]? := Below.heap_setCell _ _ _ _ (show w.heap.size ≠ B by omega)
  obtain ⟨y0, y1, y2⟩ := ((hR2.put (.int .i64 st') (.string t') (.slice a' n' c')).kept k0).cells
  refine ⟨_, by simp [results, Tryz.results174, go_sem, y0, y1, y2], ok, st', t', _, w2, rfl, hQ, hB2, hR2, ?_, hB3.setL 0⟩
  exact (((tch_set _ _ _ _ (Or.inr rfl)).trans (tch_set _ _ _ _ (Or.inr rfl))).trans (tch_set _ _ _ _ (Or.inr rfl))).trans (tch_set _ _ _ _ (Or.inl rfl))
end Go.Proofs.YtcaakommnglnbaaGreatDoor
