/- Texts that stand in one: KeyImpl, CopyMany, ToEnd. -/
import Derived.Test.YtbcjkinalghokafDoorSkNewSpecJ
import Derived.Laws.CopyOwn
import Derived.Lib.SliceRun
import Derived.Test.YtbcjkinalghokafDoorPolKitJ
import Derived.Deep.RegionLaw
import Derived.Deep.MidRow
namespace Go.Proofs.YtbcjkinalghokafDoor
open Go.RowKit Go.Sort

theorem bytes_nk' {z key : ByteArray} (h : ¬ z = key) : (key.toList == z.toList) = false := bytes_nk (fun e => h e.symm)
set_option maxHeartbeats 2000000 in
theorem indexS_any (w : World) (a : Option Addr) (c : Nat) (L : List ByteArray) (s : ByteArray) (hA : LAt w a L w.heap.size) (hm : L.length ≤ 10000000) :
    Calls Tryd.prog 69 #[.slice a L.length c, .string s] w fun e w' => ∃ r : Int, e = .returned (.int .i64 r) ∧ w' = w ∧ ((r = -1 ∧ inL L s = false) ∨ ∃ k : Nat, ∃ hk : k < L.length, r = k ∧ L[k] = s ∧ inL (L.take k) s = false) := by
  go_enter Tryd.func69, Tryd.ntmps69
  go_wp2
  go_loopw [8] (fun i wr => Box (∃ (k : Nat), k ≤ L.length ∧ i = .int .i64 k ∧ Hid (inL (L.take k) s = false) ∧ w = wr))
    (fun i _ => L.length - (intOf i).toNat)
  case atStart => exact ⟨⟨0, by omega, rfl, rfl, rfl⟩⟩
  case round =>
    obtain ⟨k, hk, rfl, HN, rfl⟩ := hrel.out
    by_cases hlt : k < L.length
    · obtain ⟨g, off, rfl, hg, hc⟩ := hA k hlt
      have hi1 : (0 : Int) ≤ (k : Int) := by omega
      have hi2 : (k : Int) < (L.length : Int) := by omega
      by_cases hz : L[k] = s
      · have HT : Hid (∃ k' : Nat, ∃ hk : k' < L.length, (k : Int) = k' ∧ L[k'] = s ∧ inL (L.take k') s = false) := ⟨k, hlt, rfl, hz, HN.out⟩
        rw [hz] at hc
        clear hrel hz hA
        go_wp2
        go_ret
        exact ⟨_, rfl, rfl, .inr HT.out⟩
      · have HT : Hid (inL (L.take (k + 1)) s = false) := inL_take hlt HN.out hz
        have hz1 := bytes_nk' hz
        obtain ⟨z, hzz⟩ : ∃ z, L[k] = z := ⟨_, rfl⟩
        rw [hzz] at hc hz1
        clear hrel hz hzz hA
        go_wp2
        go_roundw
        case rel =>
          try ((repeat apply Exists.intro); refine ⟨?_, rfl⟩)
          exact ⟨⟨k + 1, by omega, by go_num, HT, by first | rfl | trivial⟩⟩
        case measure => simp [intOf]; omega
    · go_wp2
      go_ret
      have hke : k = L.length := by omega
      have := HN.out
      rw [hke, List.take_length] at this
      exact ⟨_, rfl, rfl, .inl ⟨rfl, this⟩⟩
theorem containsS_any (w : World) (a : Option Addr) (c : Nat) (L : List ByteArray) (s : ByteArray) (hA : LAt w a L w.heap.size) (hm : L.length ≤ 10000000) :
    Calls Tryd.prog 42 #[.slice a L.length c, .string s] w fun e w' => e = .returned (.bool (inL L s)) ∧ w' = w := by
  have c1 := indexS_any w a c L s hA hm
  go_enter Tryd.func42, Tryd.ntmps42
  go_wp2_with fail
  refine c1.mono ?_
  rintro e w' ⟨r, rfl, rfl, h⟩
  clear c1
  rcases h with ⟨rfl, h⟩ | ⟨k, hk, rfl, h1, _⟩
  · go_wp2_with fail
    go_ret
    exact ⟨by rw [h]; rfl, rfl⟩
  · have HT : Hid (inL L s = true) := inL_iff.2 (by rw [← h1]; exact List.getElem_mem hk)
    have hi1 : (0 : Int) ≤ (k : Int) := by omega
    clear h1
    go_wp2_with fail
    go_ret
    exact ⟨by rw [HT.out]; simp, rfl⟩
theorem nokey_bytes {s : ByteArray} (h : 1 ≤ s.size) : s.toList.isEmpty = false := by
  rw [ByteArray.toList_eq, List.isEmpty_eq_false_iff]
  intro e
  have h1 : s.size = s.data.toList.length := by rw [Array.length_toList]; rfl
  rw [e, List.length_nil] at h1
  omega
set_option maxHeartbeats 2000000 in
theorem implKeyOk_any (w : World) (s : ByteArray) (hs : s.size ≤ 10000000) :
    Calls Tryd.prog 30 #[.string s] w fun e w' => e = .returned (.bool (keyOk s)) ∧ w' = w := by
  by_cases h : 1 ≤ s.size
  · have h1 := nokey_bytes h
    have HK : Hid (keyOk s = decide ((s.size : Int) ≤ 30)) := by
      show _ = _
      unfold keyOk
      by_cases h' : s.size ≤ 30
      · rw [decide_eq_true (⟨h, h'⟩ : 1 ≤ s.size ∧ s.size ≤ 30), decide_eq_true (by omega)]
      · rw [decide_eq_false (by omega), decide_eq_false (by omega)]
    clear h
    go_enter Tryd.func30, Tryd.ntmps30
    go_wp2
    go_ret
    exact ⟨by rw [HK.out]; rfl, rfl⟩
  · have h0 : s = ⟨#[]⟩ := by
      have h0 : s.data.size = 0 := by have : s.size = s.data.size := rfl; omega
      exact ByteArray.ext (Array.eq_empty_of_size_eq_zero h0)
    subst h0
    go_enter Tryd.func30, Tryd.ntmps30
    go_wp2
    go_ret
    exact ⟨rfl, rfl⟩
end Go.Proofs.YtbcjkinalghokafDoor

namespace Go.Proofs.YtbcjkinalghokafDoor
open Go.RowKit

theorem run_copy_rowN {P : Program} (w : World) (dT sT ty elem : TypeId) (g o dLen dCap : Nat) (a : Addr) (sLen sCap : Nat) (cur : Array Value) (t : TypeId) (cs : List Value) (k : Nat)
    (hu : P.underlying dT = some (.slice elem)) (hs : (P.info? elem).map (·.size) = some k)
    (hg : w.heap[g]? = some (.cells cur t (0, 0))) (hn : cs.length = Nat.min sLen dLen * k)
    (hsrc : ∀ j v, cs[j]? = some v → w.cell? (a.add j) = some v) (hfit : o + cs.length ≤ cur.size) (h1 : ∀ v ∈ cs, v.oneCell' = true) :
    (Builtin.copy_ #[dT, sT] ty #[.slice (some ⟨g, o, none⟩) dLen dCap, .slice (some a) sLen sCap]).run P w =
      .ok (goInt (Nat.min sLen dLen)) (w.setRow g (cur.toList.take o ++ cs ++ cur.toList.drop (o + cs.length)).toArray) := by
  have hl := run_loadCells_list (P := P) w a cs hsrc
  have hst := run_storeCells_at P g o t cs 0 cur w hg (by simpa using hfit) h1
  cases hq : P.info? elem with
  | none => simp [hq] at hs
  | some i =>
    have hi : i.size = k := by simpa [hq] using hs
    simp [Builtin.copy_, run_underlying hu, Builtin.lenOf, Builtin.firstCells, sizeOf, typeInfo, hq, hi, ← hn, hl, hst]

/-- 'copy(dst, src)' into a row that is known whole, as one step of a region that draws its order. -/
theorem step_copy_spliceN {P : Program} {ops : Array Oper} {o : Oper} {a : Act} {w : World} {K : Act → World → Prop} {Q : Exit → Act → World → Prop} {E : Prop} (hgd : o.guard = none) (d s : Operand) (dT sT : TypeId)
    (ho : o.op = .call { callee := .builtin .copy, args := #[d, s], argTypes := #[dT, sT] }) (elem : TypeId) (k : Nat) (hu : P.underlying dT = some (.slice elem)) (hsz : (P.info? elem).map (·.size) = some k)
    (dLen dCap sLen sCap : Nat) (g off : Nat) (ad : Addr) (hd : a.eval d = .slice (some ⟨g, off, none⟩) dLen dCap) (hs : a.eval s = .slice (some ad) sLen sCap)
    (cur : List Value) (t : TypeId) (hg : w.heap[g]? = some (.cells cur.toArray t (0, 0))) (cs : List Value) (hn : cs.length = Nat.min sLen dLen * k)
    (hsrc : ∀ j v, cs[j]? = some v → w.cell? (ad.add j) = some v)
    (hfit : off + cs.length ≤ cur.length) (h1 : ∀ v ∈ cs, v.oneCell' = true) (B : Nat) (w0 : World) (hb : Below B w0 w) (hBg : B ≤ g)
    (h : ∀ w', Hid (w'.heap[g]? = some (.cells (splice cur off cs).toArray t (0, 0)) ∧ ∀ j, j ≠ g → w'.heap[j]? = w.heap[j]?) → Below B w0 w' → K (a.put o.dst (goInt (Nat.min sLen dLen))) w') :
    if Region.wanted o (yielded ops a.tmps) = true then Oper.wp P o a w K Q else E := by
  have hw : Region.wanted o (yielded ops a.tmps) = true := by simp [Region.wanted, hgd]
  rw [if_pos hw]
  have hrun := run_copy_rowN (P := P) w dT sT o.type elem g off dLen dCap ad sLen sCap cur.toArray t cs k hu hsz hg hn hsrc (by simpa using hfit) h1
  unfold Oper.wp
  simp [execOp, ho, resolve, invoke, builtin, hd, hs, hrun, Result.andThen]
  exact h _ ⟨show _ = _ by simpa [splice] using setRow_heap w g _ _ t _ hg, fun j hj => setRow_other w g j _ hj⟩ (below_setRow hb hBg _)
theorem wpList_copy_spliceN {P : Program} {ops : Array Oper} {rest : List Oper} {o : Oper} {a : Act} {w : World} {Q : Exit → Act → World → Prop} (hgd : o.guard = none) (d s : Operand) (dT sT : TypeId)
    (ho : o.op = .call { callee := .builtin .copy, args := #[d, s], argTypes := #[dT, sT] }) (elem : TypeId) (k : Nat) (hu : P.underlying dT = some (.slice elem)) (hsz : (P.info? elem).map (·.size) = some k)
    (dLen dCap sLen sCap : Nat) (g off : Nat) (ad : Addr) (hd : a.eval d = .slice (some ⟨g, off, none⟩) dLen dCap) (hs : a.eval s = .slice (some ad) sLen sCap)
    (cur : List Value) (t : TypeId) (hg : w.heap[g]? = some (.cells cur.toArray t (0, 0))) (cs : List Value) (hn : cs.length = Nat.min sLen dLen * k)
    (hsrc : ∀ j v, cs[j]? = some v → w.cell? (ad.add j) = some v)
    (hfit : off + cs.length ≤ cur.length) (h1 : ∀ v ∈ cs, v.oneCell' = true) (B : Nat) (w0 : World) (hb : Below B w0 w) (hBg : B ≤ g)
    (h : ∀ w', Hid (w'.heap[g]? = some (.cells (splice cur off cs).toArray t (0, 0)) ∧ ∀ j, j ≠ g → w'.heap[j]? = w.heap[j]?) → Below B w0 w' → wpList P ops Q rest (a.put o.dst (goInt (Nat.min sLen dLen))) w') :
    wpList P ops Q (o :: rest) a w := by
  refine wpList_plain hgd fun K hK => ?_
  have hrun := run_copy_rowN (P := P) w dT sT o.type elem g off dLen dCap ad sLen sCap cur.toArray t cs k hu hsz hg hn hsrc (by simpa using hfit) h1
  unfold Oper.wp
  simp [execOp, ho, resolve, invoke, builtin, hd, hs, hrun, Result.andThen]
  exact hK _ _ (h _ ⟨show _ = _ by simpa [splice] using setRow_heap w g _ _ t _ hg, fun j hj => setRow_other w g j _ hj⟩ (below_setRow hb hBg _))
/-- A row that is known whole, written from a place on. -/
theorem setCells_row (g : Nat) (t : TypeId) : ∀ (vs : List Value) (o : Nat) (cur : List Value) (w : World), w.heap[g]? = some (.cells cur.toArray t (0, 0)) → o + vs.length ≤ cur.length →
    (w.setCells g o vs).heap[g]? = some (.cells (splice cur o vs).toArray t (0, 0))
  | [], o, cur, w, hg, _ => by simpa [World.setCells, splice] using hg
  | v :: rest, o, cur, w, hg, hl => by
    simp only [World.setCells]
    have hl' : o + 1 + rest.length ≤ cur.length := by simp at hl; omega
    have h1 : (w.setCell ⟨g, o, none⟩ v).heap[g]? = some (.cells (cur.set o v).toArray t (0, 0)) := by
      rw [setCell_eq_setRow w g o cur.toArray t (0, 0) v hg, setRow_heap w g _ _ t _ hg]
      simp
    rw [setCells_row g t rest (o + 1) (cur.set o v) _ h1 (by simpa using hl')]
    have e := list_seg_step cur o v rest (by omega)
    simp only [splice]
    rw [show o + (v :: rest).length = o + (rest.length + 1) by simp, ← List.append_assoc, ← List.append_assoc, e]
theorem setCells_apart (g : Nat) : ∀ (vs : List Value) (o : Nat) (w : World) (j : Nat), j ≠ g → (w.setCells g o vs).heap[j]? = w.heap[j]?
  | [], _, _, _, _ => rfl
  | v :: rest, o, w, j, hj => by
    simp only [World.setCells]
    rw [setCells_apart g rest (o + 1) _ j hj]
    exact heap_setCell_other w ⟨g, o, none⟩ j v hj
/-- 'clear(s)' of one element of several cells. -/
theorem run_clear_one {P : Program} (w : World) (t e ty : TypeId) (z : Value) (ht : P.underlying t = some (.slice e)) (hv : ∀ w, (zeroValue e).run P w = .ok z w) (h1 : ∀ v ∈ z.cells.toList, v.oneCell' = true) (g o c : Nat)
    (cur : List Value) (tt : TypeId) (hg : w.heap[g]? = some (.cells cur.toArray tt (0, 0))) (hfit : o + z.cells.size ≤ cur.length) :
    (Builtin.clear_ #[t] ty #[.slice (some ⟨g, o, none⟩) 1 c]).run P w = .ok (.tuple #[]) (w.setRow g (splice cur o z.cells.toList).toArray) := by
  have hzc : (Builtin.zeroCells z.cells 1).toList = z.cells.toList := by
    simp only [Builtin.zeroCells, Nat.one_mul]
    apply List.ext_getElem
    · simp
    · intro i h1 h2
      have h3 : i < z.cells.size := by simpa using h2
      simp [Nat.mod_eq_of_lt h3, h3]
  have hst := run_storeCells_at P g o tt z.cells.toList 0 cur.toArray w hg (by simpa using hfit) h1
  simp only [Nat.add_zero] at hst
  simp [Builtin.clear_, run_underlying ht, hv, hzc, hst, splice]
end Go.Proofs.YtbcjkinalghokafDoor

namespace Go.Proofs.YtbcjkinalghokafDoor
open Go.RowKit Go.Sort

theorem without_at {L : List ByteArray} {key : ByteArray} {k : Nat} (hn : L.Nodup) (hk : k < L.length) (h : L[k] = key) : without L key = L.take k ++ L.drop (k + 1) := by
  have e : L = L.take k ++ key :: L.drop (k + 1) := by
    rw [← h, ← List.drop_eq_getElem_cons hk, List.take_append_drop]
  rw [e] at hn
  rw [List.nodup_append, List.nodup_cons] at hn
  obtain ⟨_, ⟨h2, _⟩, h3⟩ := hn
  have h1 : key ∉ L.take k := fun hm => h3 key hm key (List.mem_cons_self ..) rfl
  have e2 : without L key = without (L.take k ++ key :: L.drop (k + 1)) key := congrArg (fun l => without l key) e
  rw [e2]
  unfold without
  rw [List.filter_append, List.filter_cons]
  simp only [decide_true, Bool.not_true, Bool.false_eq_true, if_false]
  have f1 := without_none h1
  have f2 := without_none h2
  unfold without at f1 f2
  rw [f1, f2]
theorem Tryd.sizeStr : (Tryd.prog.info? 9).map (·.size) = some 1 := by kernel_rfl
theorem end_row {cur cs : List Value} {k n : Nat} {xs : List Value} {z : Value} (hx : cur.take n = xs) (hl : xs.length = n) (hc : n ≤ cur.length) (hk : k < n) (hcs : cs = xs.drop (k + 1)) : ((splice cur k cs).set (n - 1) z).take n = xs.take k ++ xs.drop (k + 1) ++ [z] := by
  have hcl : cs.length = n - (k + 1) := by rw [hcs, List.length_drop, hl]
  have e1 : splice cur k cs = (xs.take k ++ cs) ++ cur.drop (n - 1) := by
    unfold splice
    rw [← hx, List.take_take, Nat.min_eq_left (by omega), hcl, show k + (n - (k + 1)) = n - 1 by omega, List.append_assoc]
  have el : (xs.take k ++ cs).length = n - 1 := by rw [List.length_append, List.length_take, hcl, hl]; omega
  obtain ⟨y, hy⟩ : ∃ y, cur.drop (n - 1) = y :: cur.drop n := by
    refine ⟨cur[n - 1], ?_⟩
    rw [List.drop_eq_getElem_cons (by omega), show n - 1 + 1 = n by omega]
  rw [e1, List.set_append_right _ _ (by omega), el, Nat.sub_self, hy, List.set_cons_zero, ← hcs]
  rw [show (xs.take k ++ cs) ++ z :: cur.drop n = ((xs.take k ++ cs) ++ [z]) ++ cur.drop n by simp]
  rw [List.take_append_of_le_length (by rw [List.length_append, el]; simp; omega)]
  exact List.take_of_length_le (by rw [List.length_append, el]; simp; omega)
theorem heap_put' {w : World} {V : Nat} {cs : Array Value} {ty : TypeId} (h : w.heap[V]? = some (.cells cs ty (0, 0))) (i : Nat) (x : Value) : (w.setCell ⟨V, i, none⟩ x).heap[V]? = some (.cells (cs.setIfInBounds i x) ty (0, 0)) := by
  simp only [World.setCell, Array.getElem?_modify, h]
  simp
set_option maxRecDepth 100000 in
set_option maxHeartbeats 4000000 in
theorem toEnd_row (w : World) (base g c : Nat) (L : List ByteArray) (cur : List Value) (key : ByteArray) (hg : w.heap[g]? = some (.cells cur.toArray 9 (0, 0))) (hcur : cur.length = c) (htk : cur.take L.length = strs L) (hcap : c ≤ maxLen) (hbg : base ≤ g) (hnc : L.length ≤ c) (hm : L.length ≤ 1048576) (hnd : L.Nodup) :
    Calls Tryd.prog 61 #[.slice (some ⟨g, 0, none⟩) L.length c, .string key] w fun e w' => (inL L key = false ∧ e = .returned (.bool false) ∧ w' = w) ∨ (inL L key = true ∧ e = .returned (.bool true) ∧ OwnV w' base 9 (.slice (some ⟨g, 0, none⟩) L.length c) (strs (without L key ++ [key])) ∧ w.grownBy w' (some g)) := by
  have hgs := (Array.getElem?_eq_some_iff.1 hg).1
  have hL : LAt w (some ⟨g, 0, none⟩) L w.heap.size := fun j hj => by
    refine ⟨g, 0, rfl, hgs, ?_⟩
    rw [Nat.zero_add, cell_of_row w g j _ _ (0, 0) hg]
    have h1 : (cur.take L.length)[j]? = (strs L)[j]? := by rw [htk]
    rw [List.getElem?_take_of_lt hj, List.getElem?_eq_getElem (l := strs L) (by rw [strs_length]; exact hj), strs_at hj] at h1
    simpa using h1
  have c1 := indexS_any w (some ⟨g, 0, none⟩) c L key hL (by omega)
  go_enter Tryd.func61, Tryd.ntmps61
  go_wp2_with fail
  refine c1.mono ?_
  rintro e w' ⟨r, rfl, hw', h⟩
  rw [hw']
  clear c1 hw'
  rcases h with ⟨rfl, h⟩ | ⟨k, hk, rfl, h1, h2⟩
  · have HI : Hid (inL L key = false) := h
    clear h
    go_wp2_with fail
    go_ret
    exact .inl ⟨HI.out, rfl, rfl⟩
  · have HI : Hid (inL L key = true) := inL_iff.2 (by rw [← h1]; exact List.getElem_mem hk)
    have HWA : Hid (without L key = L.take k ++ L.drop (k + 1)) := without_at hnd hk h1
    have hck : w.cell? ⟨g, k, none⟩ = some (.string key) := by
      obtain ⟨g', off, e1, _, e2⟩ := hL k hk
      simp only [Option.some.injEq, Addr.mk.injEq, and_true] at e1
      rw [← e1.1, ← e1.2, Nat.zero_add] at e2
      rw [e2, h1]
    obtain ⟨D, hD⟩ : ∃ D, (strs L).drop (k + 1) = D := ⟨_, rfl⟩
    have hDl : D.length = L.length - (k + 1) := by rw [← hD, List.length_drop, strs_length]
    have hsrc0 : ∀ j v, D[j]? = some v → w.cell? ⟨g, k + 1 + j, none⟩ = some v := fun j v hv => by
      have hjl : j < D.length := (List.getElem?_eq_some_iff.1 hv).1
      rw [cell_of_row w g (k + 1 + j) _ _ (0, 0) hg]
      rw [← hD, List.getElem?_drop, ← htk, List.getElem?_take_of_lt (by omega)] at hv
      simpa using hv
    obtain ⟨A, hA, hsrc⟩ : ∃ A : Addr, (if c = k + 1 then some (⟨g, 0, none⟩ : Addr) else some ⟨g, k + 1, none⟩) = some A ∧ Hid (∀ j v, D[j]? = some v → w.drew.cell? (A.add j) = some v) := by
      by_cases h : c = k + 1
      · refine ⟨⟨g, 0, none⟩, by simp [h], fun t u hu => ?_⟩
        have h0 : D.length = 0 := by rw [hDl]; omega
        rw [List.length_eq_zero_iff.1 h0] at hu
        simp at hu
      · exact ⟨⟨g, k + 1, none⟩, by simp [h], fun j v hv => by rw [Addr.add_mid]; exact hsrc0 j v hv⟩
    have HDl : Hid (D.length = L.length - (k + 1)) := hDl
    have HD : Hid ((strs L).drop (k + 1) = D) := hD
    have s2 : Hid (∀ v ∈ D, v.oneCell' = true) := by
      intro v hv
      rw [← hD] at hv
      have hv' := List.mem_of_mem_drop hv
      simp only [strs, List.mem_map] at hv'
      obtain ⟨b, _, rfl⟩ := hv'
      rfl
    have HG : Hid (w.drew.heap[g]? = some (.cells cur.toArray 9 (0, 0)) ∧ cur.length = c ∧ cur.take L.length = strs L ∧ w.heap.size = w.drew.heap.size) := ⟨hg, hcur, htk, rfl⟩
    have hdb : Hid (Below g w w.drew) := ⟨rfl, rfl, rfl, Nat.le_refl _, fun _ _ => rfl⟩
    have hw1 : IntKind.i64.wrap ((k : Int) + 1) = (k : Int) + 1 := by rw [IntKind.wrap_i64]; omega
    have hw2 : IntKind.i64.wrap ((L.length : Int) - 1) = (L.length : Int) - 1 := by rw [IntKind.wrap_i64]; omega
    have hn0 : ¬ ((k : Int) < 0) := by omega
    have hi1 : (0 : Int) ≤ (k : Int) := by omega
    have hi2 : (k : Int) < (L.length : Int) := by omega
    have hi3 : (k : Int) ≤ (L.length : Int) := by omega
    have hi4 : (L.length : Int) ≤ (c : Int) := by omega
    have hi5 : (0 : Int) ≤ (k : Int) + 1 := by omega
    have hi6 : (k : Int) + 1 ≤ (L.length : Int) := by omega
    have htn : ((k : Int) + 1).toNat = k + 1 := by omega
    have hl1 : (0 : Int) ≤ (L.length : Int) - 1 := by omega
    have hl2 : (L.length : Int) - 1 < (L.length : Int) := by omega
    have hl3 : ((L.length : Int) - 1).toNat = L.length - 1 := by omega
    have hd1 : ¬ (c = k) := by omega
    have HK : Hid (k < L.length ∧ L.length ≤ c) := ⟨hk, hnc⟩
    clear h1 h2 hk hL hg hcur htk hgs hD hDl hsrc0 hnd
    go_wp2_with fail
    go_region_law (refine step_copy_spliceN rfl (.tmp 18) (.tmp 22) 24 24 rfl 9 1 Tryd.underlying24 Tryd.sizeStr (L.length - k) (c - k) (L.length - (k + 1)) (c - (k + 1)) g k A (by simp [Act.eval, Act.put]) (by simp [Act.eval, Act.put]) cur 9 HG.out.1 D (by rw [HDl.out, Nat.mul_one]; simp only [Nat.min_def]; split <;> omega) hsrc.out (by rw [HDl.out, HG.out.2.1]; have := HK.out; omega) s2.out g w hdb.out (Nat.le_refl _) ?_; rintro w4 h4 hb4)
    obtain ⟨hrow, hoth⟩ := h4.out
    obtain ⟨_, hcl, htk, _⟩ := HG.out
    have hk := HK.out
    have hsl : (splice cur k D).length = c := by rw [length_splice _ _ _ (by rw [HDl.out, hcl]; omega), hcl]
    have q0 : ∃ y, w4.cell? ⟨g, L.length - 1, none⟩ = some y := by
      refine ⟨(splice cur k D)[L.length - 1]'(by rw [hsl]; omega), ?_⟩
      rw [cell_of_row w4 g (L.length - 1) _ _ (0, 0) hrow]
      simp
    obtain ⟨y, q0⟩ := q0
    have q1 : w4.frozen? ⟨g, L.length - 1, none⟩ = false := by simp [World.frozen?, hrow]
    have HF : Hid (OwnV (w4.setCell ⟨g, L.length - 1, none⟩ (.string key)) base 9 (.slice (some ⟨g, 0, none⟩) L.length c) (strs (without L key ++ [key])) ∧ w.grownBy (w4.setCell ⟨g, L.length - 1, none⟩ (.string key)) (some g)) := by
      have hln : (without L key ++ [key]).length = L.length := by rw [HWA.out]; simp; omega
      refine ⟨?_, ⟨hb4.os, hb4.tape, hb4.output, by simpa [World.setCell] using hb4.size, fun j hj hn => ?_⟩⟩
      · unfold OwnV
        rw [strs_length, hln]
        refine ⟨by rw [strs_length, hln, Nat.mul_one], .inr ⟨g, c, _, rfl, hbg, heap_put' hrow (L.length - 1) (.string key), by omega, hcap, ?_, ?_⟩⟩
        · simp [hsl]
        · have e := end_row (z := .string key) htk (strs_length L) (by omega) hk.1 HD.out.symm
          rw [Nat.mul_one, HWA.out]
          simp only [Array.toList_setIfInBounds]
          rw [e]
          simp [strs]
      · have hjg : j ≠ g := fun e => hn (by rw [e])
        rw [Below.heap_setCell _ _ _ _ (by exact hjg)]
        exact hoth j hjg
    clear hrow hoth h4 hcl htk hk hsl hb4 HD HDl HG hsrc s2 HWA hA
    go_wp2_with fail
    go_ret
    exact .inr ⟨HI.out, rfl, HF.out.1, HF.out.2⟩
/-- Who is there goes to the end. -/
theorem toEnd_any (w : World) (base : Nat) (v : Value) (L : List ByteArray) (key : ByteArray) (ho : OwnV w base 9 v (strs L)) (hm : L.length ≤ 1048576) (hnd : L.Nodup) :
    Calls Tryd.prog 61 #[v, .string key] w fun e w' => (inL L key = false ∧ e = .returned (.bool false) ∧ w' = w) ∨ (inL L key = true ∧ e = .returned (.bool true) ∧ OwnV w' base 9 v (strs (without L key ++ [key])) ∧ w.grownBy w' v.ownBlock) := by
  rcases ho.2 with ⟨rfl, h0⟩ | ⟨g, c, cur, rfl, h1, h2, h3, h4, h5, h6⟩
  · rw [strs_length] at h0
    have hl : L = [] := List.length_eq_zero_iff.1 h0
    subst hl
    have c1 := indexS_any w none 0 [] key (fun j hj => by simp at hj) (by simp)
    go_enter Tryd.func61, Tryd.ntmps61
    go_wp2_with fail
    refine c1.mono ?_
    rintro e w' ⟨r, rfl, hw', h⟩
    rw [hw']
    clear c1 hw'
    rcases h with ⟨rfl, h⟩ | ⟨k0, hk0, _⟩
    · go_wp2_with fail
      go_ret
      exact .inl ⟨rfl, rfl, rfl⟩
    · simp at hk0
  · rw [strs_length] at h3 h6 ⊢
    have h2' : w.heap[g]? = some (.cells cur.toList.toArray 9 (0, 0)) := by simpa using h2
    exact toEnd_row w base g c L cur.toList key h2' (by simpa using h5) (by rw [Nat.mul_one] at h6; exact h6) h4 h1 h3 hm hnd
end Go.Proofs.YtbcjkinalghokafDoor
