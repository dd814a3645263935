/- Texts that stand in one: CopyMany, DelBase, IdxCli. -/
import Derived.Laws.CopyOwn
import Derived.Lib.SliceRun
import Derived.Test.YtonaaimefcgcnaaRowedJ
import Derived.Test.YtonaaimefcgcnaaSkStepJ
import Derived.Test.YtonaaimefcgcnaaFetPlusJ
import Derived.Deep.RegionLaw
import Derived.Shelf.Abstract
namespace Go.Proofs.Ytonaaimefcgcnaa
open Go.RowKit

theorem run_copy_rowN {P : Program} (w : World) (dT sT ty elem : TypeId) (g o dLen dCap : Nat) (a : Addr) (sLen sCap : Nat) (cur : Array Value) (t : TypeId) (cs : List Value) (k : Nat)
    (hu : P.underlying dT = some (.slice elem)) (hs : (P.info? elem).map (·.size) = some k)
    (hg : w.heap[g]? = some (.cells cur t (0, 0))) (hn : cs.length = Nat.min sLen dLen * k)
    (hsrc : ∀ j v, cs[j]? = some v → w.cell? (a.add j) = some v) (hfit : o + cs.length ≤ cur.size) (h1 : ∀ v ∈ cs, v.oneCell' = true) :
    (Builtin.copy_ #[dT, sT] ty #[.slice (some ⟨g, o, none⟩) dLen dCap, .slice (some a) sLen sCap]).run P w =
      .ok (goInt (Nat.min sLen dLen)) (w.setRow g (cur.toList.take o ++ cs ++ cur.toList.drop (o + cs.length)).toArray) := by
  have hl := run_loadCells_list (P := P) w a cs hsrc
  have hst := run_storeCells_at P g o t cs 0 cur w hg (by simpa using hfit) h1
  cases hq : P.info? elem with
  | none => simp [hq] at hs
  | some i =>
    have hi : i.size = k := by simpa [hq] using hs
    simp [Builtin.copy_, run_underlying hu, Builtin.lenOf, Builtin.firstCells, sizeOf, typeInfo, hq, hi, ← hn, hl, hst]

/-- 'copy(dst, src)' into a row that is known whole, as one step of a region that draws its order. -/
theorem step_copy_spliceN {P : Program} {ops : Array Oper} {o : Oper} {a : Act} {w : World} {K : Act → World → Prop} {Q : Exit → Act → World → Prop} {E : Prop} (hgd : o.guard = none) (d s : Operand) (dT sT : TypeId)
    (ho : o.op = .call { callee := .builtin .copy, args := #[d, s], argTypes := #[dT, sT] }) (elem : TypeId) (k : Nat) (hu : P.underlying dT = some (.slice elem)) (hsz : (P.info? elem).map (·.size) = some k)
    (dLen dCap sLen sCap : Nat) (g off : Nat) (ad : Addr) (hd : a.eval d = .slice (some ⟨g, off, none⟩) dLen dCap) (hs : a.eval s = .slice (some ad) sLen sCap)
    (cur : List Value) (t : TypeId) (hg : w.heap[g]? = some (.cells cur.toArray t (0, 0))) (cs : List Value) (hn : cs.length = Nat.min sLen dLen * k)
    (hsrc : ∀ j v, cs[j]? = some v → w.cell? (ad.add j) = some v)
    (hfit : off + cs.length ≤ cur.length) (h1 : ∀ v ∈ cs, v.oneCell' = true) (B : Nat) (w0 : World) (hb : Below B w0 w) (hBg : B ≤ g)
    (h : ∀ w', Hid (w'.heap[g]? = some (.cells (splice cur off cs).toArray t (0, 0)) ∧ ∀ j, j ≠ g → w'.heap[j]? = w.heap[j]?) → Below B w0 w' → K (a.put o.dst (goInt (Nat.min sLen dLen))) w') :
    if Region.wanted o (yielded ops a.tmps) = true then Oper.wp P o a w K Q else E := by
  have hw : Region.wanted o (yielded ops a.tmps) = true := by simp [Region.wanted, hgd]
  rw [if_pos hw]
  have hrun := run_copy_rowN (P := P) w dT sT o.type elem g off dLen dCap ad sLen sCap cur.toArray t cs k hu hsz hg hn hsrc (by simpa using hfit) h1
  unfold Oper.wp
  simp [execOp, ho, resolve, invoke, builtin, hd, hs, hrun, Result.andThen]
  exact h _ ⟨show _ = _ by simpa [splice] using setRow_heap w g _ _ t _ hg, fun j hj => setRow_other w g j _ hj⟩ (below_setRow hb hBg _)
theorem wpList_copy_spliceN {P : Program} {ops : Array Oper} {rest : List Oper} {o : Oper} {a : Act} {w : World} {Q : Exit → Act → World → Prop} (hgd : o.guard = none) (d s : Operand) (dT sT : TypeId)
    (ho : o.op = .call { callee := .builtin .copy, args := #[d, s], argTypes := #[dT, sT] }) (elem : TypeId) (k : Nat) (hu : P.underlying dT = some (.slice elem)) (hsz : (P.info? elem).map (·.size) = some k)
    (dLen dCap sLen sCap : Nat) (g off : Nat) (ad : Addr) (hd : a.eval d = .slice (some ⟨g, off, none⟩) dLen dCap) (hs : a.eval s = .slice (some ad) sLen sCap)
    (cur : List Value) (t : TypeId) (hg : w.heap[g]? = some (.cells cur.toArray t (0, 0))) (cs : List Value) (hn : cs.length = Nat.min sLen dLen * k)
    (hsrc : ∀ j v, cs[j]? = some v → w.cell? (ad.add j) = some v)
    (hfit : off + cs.length ≤ cur.length) (h1 : ∀ v ∈ cs, v.oneCell' = true) (B : Nat) (w0 : World) (hb : Below B w0 w) (hBg : B ≤ g)
    (h : ∀ w', Hid (w'.heap[g]? = some (.cells (splice cur off cs).toArray t (0, 0)) ∧ ∀ j, j ≠ g → w'.heap[j]? = w.heap[j]?) → Below B w0 w' → wpList P ops Q rest (a.put o.dst (goInt (Nat.min sLen dLen))) w') :
    wpList P ops Q (o :: rest) a w := by
  refine wpList_plain hgd fun K hK => ?_
  have hrun := run_copy_rowN (P := P) w dT sT o.type elem g off dLen dCap ad sLen sCap cur.toArray t cs k hu hsz hg hn hsrc (by simpa using hfit) h1
  unfold Oper.wp
  simp [execOp, ho, resolve, invoke, builtin, hd, hs, hrun, Result.andThen]
  exact hK _ _ (h _ ⟨show _ = _ by simpa [splice] using setRow_heap w g _ _ t _ hg, fun j hj => setRow_other w g j _ hj⟩ (below_setRow hb hBg _))
/-- A row that is known whole, written from a place on. -/
theorem setCells_row (g : Nat) (t : TypeId) : ∀ (vs : List Value) (o : Nat) (cur : List Value) (w : World), w.heap[g]? = some (.cells cur.toArray t (0, 0)) → o + vs.length ≤ cur.length →
    (w.setCells g o vs).heap[g]? = some (.cells (splice cur o vs).toArray t (0, 0))
  | [], o, cur, w, hg, _ => by simpa [World.setCells, splice] using hg
  | v :: rest, o, cur, w, hg, hl => by
    simp only [World.setCells]
    have hl' : o + 1 + rest.length ≤ cur.length := by simp at hl; omega
    have h1 : (w.setCell ⟨g, o, none⟩ v).heap[g]? = some (.cells (cur.set o v).toArray t (0, 0)) := by
      rw [setCell_eq_setRow w g o cur.toArray t (0, 0) v hg, setRow_heap w g _ _ t _ hg]
      simp
    rw [setCells_row g t rest (o + 1) (cur.set o v) _ h1 (by simpa using hl')]
    have e := list_seg_step cur o v rest (by omega)
    simp only [splice]
    rw [show o + (v :: rest).length = o + (rest.length + 1) by simp, ← List.append_assoc, ← List.append_assoc, e]
theorem setCells_apart (g : Nat) : ∀ (vs : List Value) (o : Nat) (w : World) (j : Nat), j ≠ g → (w.setCells g o vs).heap[j]? = w.heap[j]?
  | [], _, _, _, _ => rfl
  | v :: rest, o, w, j, hj => by
    simp only [World.setCells]
    rw [setCells_apart g rest (o + 1) _ j hj]
    exact heap_setCell_other w ⟨g, o, none⟩ j v hj
/-- 'clear(s)' of one element of several cells. -/
theorem run_clear_one {P : Program} (w : World) (t e ty : TypeId) (z : Value) (ht : P.underlying t = some (.slice e)) (hv : ∀ w, (zeroValue e).run P w = .ok z w) (h1 : ∀ v ∈ z.cells.toList, v.oneCell' = true) (g o c : Nat)
    (cur : List Value) (tt : TypeId) (hg : w.heap[g]? = some (.cells cur.toArray tt (0, 0))) (hfit : o + z.cells.size ≤ cur.length) :
    (Builtin.clear_ #[t] ty #[.slice (some ⟨g, o, none⟩) 1 c]).run P w = .ok (.tuple #[]) (w.setRow g (splice cur o z.cells.toList).toArray) := by
  have hzc : (Builtin.zeroCells z.cells 1).toList = z.cells.toList := by
    simp only [Builtin.zeroCells, Nat.one_mul]
    apply List.ext_getElem
    · simp
    · intro i h1 h2
      have h3 : i < z.cells.size := by simpa using h2
      simp [Nat.mod_eq_of_lt h3, h3]
  have hst := run_storeCells_at P g o tt z.cells.toList 0 cur.toArray w hg (by simpa using hfit) h1
  simp only [Nat.add_zero] at hst
  simp [Builtin.clear_, run_underlying ht, hv, hzc, hst, splice]
end Go.Proofs.Ytonaaimefcgcnaa

namespace Go.Proofs.Ytonaaimefcgcnaa
open Go.RowKit Go.Sort
def idxX {α : Type} (p : α → Bool) (L : List α) : Int := match L.findIdx? p with | some i => (i : Int) | none => -1
theorem idxX_hit {α : Type} {p : α → Bool} {L : List α} {k : Nat} (hk : k < L.length) (h : p L[k] = true) (hno : ∀ j (hj : j < k), p (L[j]'(by omega)) = false) : idxX p L = k := by
  have : L.findIdx? p = some k := by
    rw [List.findIdx?_eq_some_iff_getElem]
    exact ⟨hk, h, fun j hj => by simp [hno j hj]⟩
  simp [idxX, this]
theorem idxX_miss {α : Type} {p : α → Bool} {L : List α} (h : ∀ x ∈ L, p x = false) : idxX p L = -1 := by
  have : L.findIdx? p = none := by
    rw [List.findIdx?_eq_none_iff]
    exact h
  simp [idxX, this]
theorem idxX_cases {α : Type} (p : α → Bool) (L : List α) : (∃ (k : Nat) (hk : k < L.length), idxX p L = k ∧ p L[k] = true ∧ ∀ j (hj : j < k), p (L[j]'(by omega)) = false) ∨ (idxX p L = -1 ∧ ∀ x ∈ L, p x = false) := by
  cases h : L.findIdx? p with
  | none =>
    rw [List.findIdx?_eq_none_iff] at h
    exact .inr ⟨idxX_miss h, h⟩
  | some k =>
    have h0 := h
    rw [List.findIdx?_eq_some_iff_getElem] at h
    obtain ⟨hk, h1, h2⟩ := h
    exact .inl ⟨k, hk, by simp [idxX, h0], h1, fun j hj => by simpa using h2 j hj⟩

def keepX {α : Type} (p : α → Bool) (L : List α) : List α := L.filter fun x => !p x
theorem keepX_take {α : Type} {p : α → Bool} {L : List α} {k : Nat} (hk : k < L.length) : keepX p (L.take (k + 1)) = keepX p (L.take k) ++ if p L[k] = true then [] else [L[k]] := by
  unfold keepX
  rw [List.take_succ_eq_append_getElem hk, List.filter_append]
  cases h : p L[k] <;> simp [h]
theorem keepX_none {α : Type} {p : α → Bool} {L : List α} (h : ∀ x ∈ L, p x = false) : keepX p L = L := List.filter_eq_self.2 fun x hx => by rw [h x hx]; rfl
theorem keepX_step {α : Type} {p : α → Bool} {L : List α} {k : Nat} (hk : k < L.length) (hx : p L[k] = true) (hno : ∀ j (hj : j < k), p (L[j]'(by omega)) = false) : keepX p (L.take (k + 1)) = L.take k := by
  rw [keepX_take hk, if_pos hx, List.append_nil]
  refine keepX_none fun x hx => ?_
  obtain ⟨j, hj, rfl⟩ := List.getElem_of_mem hx
  rw [List.length_take] at hj
  rw [List.getElem_take]
  exact hno j (by omega)
/-- 'clear(s)' of elements of several cells. -/
theorem run_clear_x {P : Program} (w : World) (t e ty : TypeId) (z : Value) (ht : P.underlying t = some (.slice e)) (hv : ∀ w, (zeroValue e).run P w = .ok z w) (n : Nat) (hn : 0 < n) (h1 : ∀ v ∈ (Builtin.zeroCells z.cells n).toList, v.oneCell' = true) (g o c : Nat)
    (cur : List Value) (tt : TypeId) (hg : w.heap[g]? = some (.cells cur.toArray tt (0, 0))) (hfit : o + (Builtin.zeroCells z.cells n).toList.length ≤ cur.length) :
    (Builtin.clear_ #[t] ty #[.slice (some ⟨g, o, none⟩) n c]).run P w = .ok (.tuple #[]) (w.setRow g (splice cur o (Builtin.zeroCells z.cells n).toList).toArray) := by
  have hst := run_storeCells_at P g o tt (Builtin.zeroCells z.cells n).toList 0 cur.toArray w hg (by simpa using hfit) h1
  simp only [Nat.add_zero] at hst
  obtain ⟨m, rfl⟩ : ∃ m, n = m + 1 := ⟨n - 1, by omega⟩
  simp [Builtin.clear_, run_underlying ht, hv, hst, splice]
end Go.Proofs.Ytonaaimefcgcnaa

namespace Go.Proofs.Ytonaaimefcgcnaa
open Go.RowKit Go.Sort

set_option maxHeartbeats 2000000 in
theorem indexCli_any (g : Nat) (lb : Array Value) (p : Cli → Bool) (eg : ∀ args w, (callFunc g args).run Try.prog w = .ok (.enter g args) w) (w : World) (a : Option Addr) (cap : Nat) (L : List (Cli)) (hL : CliAt w a L w.heap.size) (hm : L.length ≤ 10000000)
    (hp : ∀ (W : World) (x : Cli), Below w.heap.size w W → Calls Try.prog g (#[.agg #[.int .i64 x.id, .string x.key, .int .i64 x.fe, .int .i64 x.fr, .int .i64 x.st, .string x.got, .int .i64 x.ag]] ++ lb) W fun e w' => e = .returned (.bool (p x)) ∧ Below w.heap.size w w') :
    Calls Try.prog 97 #[.slice a L.length cap, .func (.func g) #[] lb] w fun e w' => e = .returned (.int .i64 (idxX p L)) ∧ Below w.heap.size w w' := by
  go_enter Try.func97, Try.ntmps97
  go_wp2
  go_loopw [5, 8] (fun _ i wr => Box (∃ k : Nat, k ≤ L.length ∧ i = .int .i64 k ∧ Below w.heap.size w wr ∧ ∀ j (hj : j < k) (hl : j < L.length), p L[j] = false))
    (fun _ i _ => L.length - (intOf i).toNat)
  case atStart => exact ⟨⟨0, by omega, rfl, Below.refl _ _, fun j hj => absurd hj (Nat.not_lt_zero _)⟩⟩
  case round =>
    obtain ⟨k, hk, rfl, hb, hno⟩ := hrel.out
    by_cases hlt : k < L.length
    · obtain ⟨g1, off, rfl, _, hc0, hc1, hc2, hc3, hc4, hc5, hc6⟩ := (hL.below hb (Nat.le_refl _)) k hlt
      obtain ⟨f, hf⟩ : ∃ f, L[k] = f := ⟨_, rfl⟩
      have HF : Hid (L[k] = f) := hf
      rw [hf] at hc0 hc1 hc2 hc3 hc4 hc5 hc6
      have hcall := hp wr f hb
      have HNO : Hid (∀ j (hj : j < k) (hl : j < L.length), p L[j] = false) := hno
      clear hL hp hf hno hrel
      have hi1 : (0 : Int) ≤ (k : Int) := by omega
      have hi2 : (k : Int) < (L.length : Int) := by omega
      cases hq : p f with
      | true =>
        rw [hq] at hcall
        go_wp2_with (go_at_fn g; refine hcall.mono ?_; rintro e w' ⟨rfl, hb'⟩)
        go_ret
        refine ⟨?_, hb'⟩
        rw [idxX_hit hlt (by rw [HF.out]; exact hq) (fun j hj => HNO.out j hj (by omega))]
        rfl
      | false =>
        rw [hq] at hcall
        go_wp2_with (go_at_fn g; refine hcall.mono ?_; rintro e w' ⟨rfl, hb'⟩)
        go_roundw
        case rel =>
          try ((repeat apply Exists.intro); refine ⟨?_, rfl⟩)
          refine ⟨⟨k + 1, by omega, by go_num, hb', fun j hj hl => ?_⟩⟩
          by_cases e : j = k
          · subst e
            rw [HF.out]; exact hq
          · exact HNO.out j (by omega) hl
        case measure => simp [intOf]; omega
    · have hi2 : ¬ (k : Int) < (L.length : Int) := by omega
      go_wp2
      go_ret
      refine ⟨?_, hb⟩
      rw [idxX_miss (fun x hx => by
        obtain ⟨j, hj, rfl⟩ := List.getElem_of_mem hx
        exact hno j (by omega) hj)]
      rfl
end Go.Proofs.Ytonaaimefcgcnaa
