/- Streams: what comes bit by bit. Plain, no program. -/
import Derived.Test.YtmpnjijbahjinafPairs
namespace Go.Proofs.Ytmpnjijbahjinaf
open Go.RowKit

structure Stm where
  st : Int
  text : ByteArray
  rd : List (Int × Int)

def inI (n a b : Int) : Bool := decide (a ≤ n ∧ n ≤ b)
/-- The first k readers are right. -/
def rdOkTo (t : Nat) (l : List (Int × Int)) (k : Nat) : Bool := (List.range k).all fun i => inI (l.getD i (0, 0)).1 1 9 && !(decide (0 < i) && decide ((l.getD i (0, 0)).1 ≤ (l.getD (i - 1) (0, 0)).1)) && inI (l.getD i (0, 0)).2 0 t
def okM (S : Stm) : Bool := rdOkTo S.text.size S.rd S.rd.length && (inI S.st 1 3 && decide (S.text.size ≤ 400) && decide (S.rd.length ≤ 6))
def newM : Stm := ⟨1, ⟨#[]⟩, []⟩
def putM (S : Stm) (part : ByteArray) : Stm × Bool := if (okM S && decide (S.st = 1) && (decide (1 ≤ part.size) && decide (part.size ≤ 40)) && decide (S.text.size + part.size ≤ 400)) = true then (⟨S.st, S.text ++ part, S.rd⟩, true) else (S, false)
def endM (S : Stm) (broken : Bool) : Stm × Bool := if (okM S && decide (S.st = 1)) = true then (⟨if broken = true then 3 else 2, S.text, S.rd⟩, true) else (S, false)
/-- Where the reader is. -/
def atM (l : List (Int × Int)) (id : Int) : Int := match l.findIdx? (fun r => decide (r.1 = id)) with | some i => (i : Int) | none => -1
def joinL (l : List (Int × Int)) (id : Int) : List (Int × Int) := (l.filter fun r => decide (r.1 < id)) ++ [(id, 0)] ++ l.filter fun r => decide (id < r.1)
def joinM (S : Stm) (id : Int) : Stm × Bool := if (okM S && !decide (0 ≤ atM S.rd id) && okM ⟨S.st, S.text, joinL S.rd id⟩) = true then (⟨S.st, S.text, joinL S.rd id⟩, true) else (S, false)
def leaveM (S : Stm) (id : Int) : Stm := ⟨S.st, S.text, S.rd.filter fun r => !decide (r.1 = id)⟩
/-- How far a reader at 'at' comes that asks for 'most'. -/
def farM (t : Nat) (at' most : Int) : Int := if (if most < 0 then 0 else most) < (t : Int) - at' then at' + (if most < 0 then 0 else most) else (t : Int)
def readM (S : Stm) (id most : Int) : Stm × ByteArray × Bool :=
  if (okM S && decide (0 ≤ atM S.rd id)) = true then
    let k := (atM S.rd id).toNat
    let a := (S.rd.getD k (0, 0)).2
    let e := farM S.text.size a most
    (⟨S.st, S.text, S.rd.set k ((S.rd.getD k (0, 0)).1, e)⟩, S.text.extract a.toNat e.toNat, true)
  else (S, ⟨#[]⟩, false)
theorem atM_cases (l : List (Int × Int)) (id : Int) : (atM l id = -1 ∧ ∀ r ∈ l, ¬ r.1 = id) ∨ ∃ k : Nat, ∃ hk : k < l.length, atM l id = k ∧ l[k].1 = id ∧ ∀ j (hj : j < k), ¬ (l[j]'(by omega)).1 = id := by
  unfold atM
  cases h : l.findIdx? (fun r => decide (r.1 = id)) with
  | none =>
    rw [List.findIdx?_eq_none_iff] at h
    exact .inl ⟨rfl, fun r hr => by simpa using h r hr⟩
  | some k =>
    rw [List.findIdx?_eq_some_iff_getElem] at h
    obtain ⟨hk, h1, h2⟩ := h
    exact .inr ⟨k, hk, rfl, by simpa using h1, fun j hj => by simpa using h2 j hj⟩
theorem rdOkTo_succ (t : Nat) (l : List (Int × Int)) (k : Nat) : rdOkTo t l (k + 1) = (rdOkTo t l k && (inI (l.getD k (0, 0)).1 1 9 && !(decide (0 < k) && decide ((l.getD k (0, 0)).1 ≤ (l.getD (k - 1) (0, 0)).1)) && inI (l.getD k (0, 0)).2 0 t)) := by
  unfold rdOkTo
  rw [List.range_succ, List.all_append]
  simp
theorem rdOkTo_down (t : Nat) (l : List (Int × Int)) {k : Nat} : ∀ n, k ≤ n → rdOkTo t l k = false → rdOkTo t l n = false
  | 0, hk, h => by
    have : k = 0 := by omega
    rw [← this]
    exact h
  | n + 1, hk, h => by
    by_cases e : k = n + 1
    · rw [← e]; exact h
    · rw [rdOkTo_succ, rdOkTo_down t l n (by omega) h]; rfl
/-- A stream in a variable. -/
def MBox (w : World) (T : Nat) (a b c : Value) : Prop := w.heap[T]? = some (.cells #[a, b, c] 26 (0, 0))
theorem MBox.lt {w : World} {T : Nat} {a b c : Value} (h : MBox w T a b c) : T < w.heap.size := (Array.getElem?_eq_some_iff.1 h).1
theorem MBox.new (w : World) (a b c : Value) : MBox (w.alloc (.cells #[a, b, c] 26)) w.heap.size a b c := heap_alloc_new w _
theorem MBox.kept {w w' : World} {T : Nat} {a b c : Value} (h : MBox w T a b c) (hk : w'.heap[T]? = w.heap[T]?) : MBox w' T a b c := hk.trans h
theorem MBox.on {w w' : World} {T : Nat} {a b c : Value} (h : MBox w T a b c) (hb : Below w.heap.size w w') : MBox w' T a b c := h.kept (hb.block T h.lt)
theorem MBox.thaw {w : World} {T : Nat} {a b c : Value} (h : MBox w T a b c) (i : Nat) : w.frozen? ⟨T, i, none⟩ = false := by
  unfold MBox at h
  simp [World.frozen?, h]
theorem MBox.cells {w : World} {T : Nat} {a b c : Value} (h : MBox w T a b c) : w.cell? ⟨T, 0, none⟩ = some a ∧ w.cell? ⟨T, 1, none⟩ = some b ∧ w.cell? ⟨T, 2, none⟩ = some c := by
  unfold MBox at h
  refine ⟨?_, ?_, ?_⟩
  · rw [cell_of_row w T 0 _ _ (0, 0) h]; rfl
  · rw [cell_of_row w T 1 _ _ (0, 0) h]; rfl
  · rw [cell_of_row w T 2 _ _ (0, 0) h]; rfl
theorem MBox.set0 {w : World} {T : Nat} {a b c : Value} (h : MBox w T a b c) (x : Value) : MBox (w.setCell ⟨T, 0, none⟩ x) T x b c := by
  unfold MBox at *
  simp only [World.setCell, Array.getElem?_modify, h]
  simp
theorem MBox.set1 {w : World} {T : Nat} {a b c : Value} (h : MBox w T a b c) (x : Value) : MBox (w.setCell ⟨T, 1, none⟩ x) T a x c := by
  unfold MBox at *
  simp only [World.setCell, Array.getElem?_modify, h]
  simp
theorem MBox.set2 {w : World} {T : Nat} {a b c : Value} (h : MBox w T a b c) (x : Value) : MBox (w.setCell ⟨T, 2, none⟩ x) T a b x := by
  unfold MBox at *
  simp only [World.setCell, Array.getElem?_modify, h]
  simp
theorem MBox.put {w : World} {T : Nat} {a b c : Value} (h : MBox w T a b c) (x y z : Value) : MBox (((w.setCell ⟨T, 0, none⟩ x).setCell ⟨T, 1, none⟩ y).setCell ⟨T, 2, none⟩ z) T x y z := ((h.set0 x).set1 y).set2 z
theorem put3_otherM (w : World) (T : Nat) (x y z : Value) (k : Nat) (hk : k ≠ T) : (((w.setCell ⟨T, 0, none⟩ x).setCell ⟨T, 1, none⟩ y).setCell ⟨T, 2, none⟩ z).heap[k]? = w.heap[k]? := by
  rw [Below.heap_setCell _ _ _ _ (by exact hk), Below.heap_setCell _ _ _ _ (by exact hk), Below.heap_setCell _ _ _ _ (by exact hk)]
theorem Below.put3M {B : Nat} {a w : World} (h : Below B a w) {T : Nat} (hT : B ≤ T) (x y z : Value) : Below B a (((w.setCell ⟨T, 0, none⟩ x).setCell ⟨T, 1, none⟩ y).setCell ⟨T, 2, none⟩ z) := ((h.setCell hT x).setCell hT y).setCell hT z
/-- The value v owns the stream S: its readers lie in a block of its own from lo on. -/
def MOwn (w : World) (lo : Nat) (v : Value) (S : Stm) : Prop := ∃ v1, v = .agg #[.int .i64 S.st, .string S.text, v1] ∧ OwnP w lo 38 v1 S.rd
theorem MOwn.at {w : World} {lo : Nat} {v : Value} {S : Stm} (h : MOwn w lo v S) : ∃ a c, v = .agg #[.int .i64 S.st, .string S.text, .slice a S.rd.length c] ∧ PAt w a S.rd w.heap.size := by
  obtain ⟨v1, rfl, h1⟩ := h
  obtain ⟨a, c, rfl, hA⟩ := h1.at
  exact ⟨a, c, rfl, hA⟩
theorem MOwn.mono {w : World} {lo lo' : Nat} {v : Value} {S : Stm} (h : MOwn w lo v S) (hl : lo' ≤ lo) : MOwn w lo' v S := by
  obtain ⟨v1, rfl, h1⟩ := h
  exact ⟨v1, rfl, h1.mono hl⟩
theorem MOwn.below {w w' : World} {B lo : Nat} {v : Value} {S : Stm} (h : MOwn w lo v S) (hb : Below B w w') (hB : w.heap.size ≤ B) : MOwn w' lo v S := by
  obtain ⟨v1, rfl, h1⟩ := h
  exact ⟨v1, rfl, h1.below hb hB⟩
theorem ownP_type {w : World} {lo : Nat} {e : TypeId} {u : Value} {L : List (Int × Int)} (ho : OwnP w lo e u L) : ∀ k, u.ownBlock = some k → ∃ cs, w.heap[k]? = some (.cells cs e (0, 0)) := by
  intro k hk
  rcases ho.2 with ⟨rfl, _⟩ | ⟨g, cap, cur, rfl, _, hg, _⟩
  · simp [Value.ownBlock] at hk
  · simp [Value.ownBlock] at hk
    subst hk
    exact ⟨_, hg⟩
/-- A variable's block is none of its own. -/
theorem MOwn.box {w w' : World} {lo T : Nat} {a b c v : Value} {S : Stm} (h : MOwn w lo v S) (hB : MBox w T a b c) (hk : ∀ k, k ≠ T → w'.heap[k]? = w.heap[k]?) : MOwn w' lo v S := by
  obtain ⟨v1, rfl, h1⟩ := h
  refine ⟨v1, rfl, h1.kept fun k hk' => hk k fun e => ?_⟩
  subst e
  obtain ⟨cs, hc⟩ := ownP_type h1 k hk'
  unfold MBox at hB
  rw [hB] at hc
  simp only [Option.some.injEq, Obj.cells.injEq] at hc
  exact absurd hc.2.1 (by decide)
theorem MOwn.put3 {w : World} {lo T : Nat} {a b c v : Value} {S : Stm} (h : MOwn w lo v S) (hB : MBox w T a b c) (x y z : Value) : MOwn (((w.setCell ⟨T, 0, none⟩ x).setCell ⟨T, 1, none⟩ y).setCell ⟨T, 2, none⟩ z) lo v S := h.box hB fun k hk => put3_otherM w T x y z k hk
end Go.Proofs.Ytmpnjijbahjinaf
