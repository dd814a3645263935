/- slices.DeleteFunc of readers: all that the predicate names go. -/
import Derived.Test.YtmpnjijbahjinafIdxReader
import Derived.Test.YtmpnjijbahjinafCopyMany
import Derived.Test.YtmpnjijbahjinafStmRow
import Derived.Test.YtmpnjijbahjinafTouch
import Derived.Test.YtmpnjijbahjinafRowed
namespace Go.Proofs.Ytmpnjijbahjinaf
open Go.RowKit Go.Sort

def keepR {α : Type} (p : α → Bool) (L : List α) : List α := L.filter fun x => !p x
theorem keepR_take {α : Type} {p : α → Bool} {L : List α} {k : Nat} (hk : k < L.length) : keepR p (L.take (k + 1)) = keepR p (L.take k) ++ if p L[k] = true then [] else [L[k]] := by
  unfold keepR
  rw [List.take_succ_eq_append_getElem hk, List.filter_append]
  cases h : p L[k] <;> simp [h]
theorem keepR_none {α : Type} {p : α → Bool} {L : List α} (h : ∀ x ∈ L, p x = false) : keepR p L = L := List.filter_eq_self.2 fun x hx => by rw [h x hx]; rfl
theorem keepR_step {α : Type} {p : α → Bool} {L : List α} {k : Nat} (hk : k < L.length) (hx : p L[k] = true) (hno : ∀ j (hj : j < k), p (L[j]'(by omega)) = false) : keepR p (L.take (k + 1)) = L.take k := by
  rw [keepR_take hk, if_pos hx, List.append_nil]
  refine keepR_none fun x hx => ?_
  obtain ⟨j, hj, rfl⟩ := List.getElem_of_mem hx
  rw [List.length_take] at hj
  rw [List.getElem_take]
  exact hno j (by omega)
/-- 'clear(s)' of elements of several cells. -/
theorem run_clear_many {P : Program} (w : World) (t e ty : TypeId) (z : Value) (ht : P.underlying t = some (.slice e)) (hv : ∀ w, (zeroValue e).run P w = .ok z w) (n : Nat) (hn : 0 < n) (h1 : ∀ v ∈ (Builtin.zeroCells z.cells n).toList, v.oneCell' = true) (g o c : Nat)
    (cur : List Value) (tt : TypeId) (hg : w.heap[g]? = some (.cells cur.toArray tt (0, 0))) (hfit : o + (Builtin.zeroCells z.cells n).toList.length ≤ cur.length) :
    (Builtin.clear_ #[t] ty #[.slice (some ⟨g, o, none⟩) n c]).run P w = .ok (.tuple #[]) (w.setRow g (splice cur o (Builtin.zeroCells z.cells n).toList).toArray) := by
  have hst := run_storeCells_at P g o tt (Builtin.zeroCells z.cells n).toList 0 cur.toArray w hg (by simpa using hfit) h1
  simp only [Nat.add_zero] at hst
  obtain ⟨m, rfl⟩ : ∃ m, n = m + 1 := ⟨n - 1, by omega⟩
  simp [Builtin.clear_, run_underlying ht, hv, hst, splice]
theorem zero2_len (n : Nat) : (Builtin.zeroCells (Value.agg #[.int .i64 0, .int .i64 0]).cells n).toList.length = n * 2 := by simp [Builtin.zeroCells, Value.cells]
theorem zero2_one (n : Nat) : ∀ v ∈ (Builtin.zeroCells (Value.agg #[.int .i64 0, .int .i64 0]).cells n).toList, v.oneCell' = true := by
  intro v hv
  simp only [Builtin.zeroCells, Array.toList_map, List.mem_map] at hv
  obtain ⟨i, _, rfl⟩ := hv
  have h2 : (Value.agg #[.int .i64 0, .int .i64 0]).cells = #[.int .i64 0, .int .i64 0] := rfl
  rw [h2]
  have h3 : i % (#[Value.int .i64 0, .int .i64 0]).size = 0 ∨ i % (#[Value.int .i64 0, .int .i64 0]).size = 1 := by simp; omega
  rcases h3 with h3 | h3 <;> rw [h3] <;> rfl
theorem OwnP.row {w : World} {base G n c : Nat} {e : TypeId} {L : List (Int × Int)} (h : OwnP w base e (.slice (some ⟨G, 0, none⟩) n c) L) : ∃ cur : List Value, w.heap[G]? = some (.cells cur.toArray e (0, 0)) ∧ base ≤ G ∧ n = L.length ∧ L.length ≤ c ∧ c ≤ maxLen ∧ cur.length = c * 2 ∧ cur.take (L.length * 2) = prl L := by
  rcases h.2 with ⟨e1, _⟩ | ⟨g', cp, cur, e1, h1, h2, h3, h4, h5, h6⟩
  · cases e1
  · simp only [Value.slice.injEq, Option.some.injEq, Addr.mk.injEq, and_true] at e1
    obtain ⟨rfl, rfl, rfl⟩ := e1
    exact ⟨cur.toList, by simpa using h2, h1, rfl, h3, h4, by simpa using h5, h6⟩
theorem OwnP.of_row {w : World} {base G c : Nat} {e : TypeId} {L : List (Int × Int)} {cur : List Value} (h2 : w.heap[G]? = some (.cells cur.toArray e (0, 0))) (h1 : base ≤ G) (h3 : L.length ≤ c) (h4 : c ≤ maxLen) (h5 : cur.length = c * 2) (h6 : cur.take (L.length * 2) = prl L) : OwnP w base e (.slice (some ⟨G, 0, none⟩) L.length c) L :=
  ⟨by rw [prl_length], .inr ⟨G, c, cur.toArray, rfl, h1, h2, h3, h4, by simpa using h5, by simpa using h6⟩⟩
theorem OwnP.cellP {w : World} {base G n c : Nat} {e : TypeId} {L : List (Int × Int)} (h : OwnP w base e (.slice (some ⟨G, 0, none⟩) n c) L) (j : Nat) (hj : j < L.length) : w.cell? ⟨G, j * 2, none⟩ = some (.int .i64 L[j].1) ∧ w.cell? ⟨G, j * 2 + 1, none⟩ = some (.int .i64 L[j].2) := by
  obtain ⟨a, cp, e1, hA⟩ := h.at
  simp only [Value.slice.injEq] at e1
  obtain ⟨rfl, _, _⟩ := e1
  obtain ⟨g, off, e2, _, q0, q1⟩ := hA j hj
  simp only [Option.some.injEq, Addr.mk.injEq, and_true] at e2
  obtain ⟨rfl, rfl⟩ := e2
  rw [Nat.zero_add] at q0 q1
  exact ⟨q0, q1⟩
theorem Try.zeroRdr : ∀ w, (zeroValue 38).run Try.prog w = .ok (.agg #[.int .i64 0, .int .i64 0]) w := by intro w; kernel_rfl
set_option maxRecDepth 100000 in
set_option maxHeartbeats 4000000 in
theorem deleteR_row (g : Nat) (lb : Array Value) (p : Int × Int → Bool) (eg : ∀ args w, (callFunc g args).run Try.prog w = .ok (.enter g args) w) (w : World) (base G c : Nat) (L : List (Int × Int)) (ho : OwnP w base 38 (.slice (some ⟨G, 0, none⟩) L.length c) L) (hm : L.length ≤ 1048576)
    (hp : ∀ (W : World) (x : Int × Int), Tch (fun k => k = G) w W → Calls Try.prog g (#[.agg #[.int .i64 x.1, .int .i64 x.2]] ++ lb) W fun e w' => e = .returned (.bool (p x)) ∧ Below W.heap.size W w') :
    Calls Try.prog 41 #[.slice (some ⟨G, 0, none⟩) L.length c, .func (.func g) #[] lb] w fun e w' => ∃ n c', e = .returned (.slice (some ⟨G, 0, none⟩) n c') ∧ OwnP w' base 38 (.slice (some ⟨G, 0, none⟩) n c') (keepR p L) ∧ Tch (fun k => k = G) w w' := by
  obtain ⟨cur0, hg0, hbG, hx1, hLc, hcm, hx2, hx3⟩ := ho.row
  have hGs : G < w.heap.size := (Array.getElem?_eq_some_iff.1 hg0).1
  obtain ⟨a0, c0, e0, hL⟩ := ho.at
  simp only [Value.slice.injEq, true_and] at e0
  obtain ⟨rfl, rfl⟩ := e0
  have c1 := indexR_any g lb p eg w (some ⟨G, 0, none⟩) c L hL (by omega) (fun W x hb => (hp W x (Tch.of_below hb)).mono (by rintro e w' ⟨rfl, h⟩; exact ⟨rfl, hb.trans (h.mono hb.size)⟩))
  have HP : Hid (∀ (W : World) (x : Int × Int), Tch (fun k => k = G) w W → Calls Try.prog g (#[.agg #[.int .i64 x.1, .int .i64 x.2]] ++ lb) W fun e w' => e = .returned (.bool (p x)) ∧ Below W.heap.size W w') := hp
  clear hp hg0 hx1 hx2 hx3 cur0
  go_enter Try.func41, Try.ntmps41
  go_wp2_with fail
  refine c1.mono ?_
  rintro e w1 ⟨rfl, hb1⟩
  clear c1
  have HT1 : Hid (Tch (fun k => k = G) w w1) := Tch.of_below hb1
  have ho1 := ho.below hb1 (Nat.le_refl _)
  clear hL ho hb1
  rcases idxP_cases p L with ⟨k0, hk0, hidx, h1, h2⟩ | ⟨hidx, h⟩
  · rw [hidx]
    have hi0 : ¬ ((k0 : Int) = -1) := by omega
    have HS : Hid (keepR p (L.take (k0 + 1)) = L.take k0) := keepR_step hk0 h1 h2
    have hk0b : k0 ≤ 1048576 := by omega
    have HLK : Hid (k0 < L.length) := hk0
    clear h1 h2 hk0 hidx
    go_wp2_with fail
    go_loopw [5, 6] (fun i j wr => Box (∃ (k n : Nat) (M : List (Int × Int)), k ≤ L.length ∧ j = .int .i64 k ∧ i = .int .i64 n ∧ n < k ∧ Hid (n = (keepR p (L.take k)).length) ∧ Hid (M.length = L.length) ∧ Hid (M.take n = keepR p (L.take k)) ∧ Hid (M.drop k = L.drop k) ∧ Hid (OwnP wr base 38 (.slice (some ⟨G, 0, none⟩) L.length c) M) ∧ Hid (Tch (fun k => k = G) w wr)))
      (fun _ j _ => L.length - (intOf j).toNat)
    case atStart => exact ⟨⟨k0 + 1, k0, L, HLK.out, by go_num, rfl, by omega, by show _ = _; rw [HS.out, List.length_take]; have := HLK.out; omega, rfl, by show _ = _; rw [HS.out], rfl, ho1, HT1⟩⟩
    case round =>
      obtain ⟨k, n, M, hk, rfl, rfl, hnk, HN, HML, HMT, HMD, HO, HG⟩ := hrel.out
      clear hrel ho1 HS
      by_cases hlt : k < L.length
      · have HMk : Hid (∃ h : k < M.length, M[k] = L[k]) := by
          have hx : k < M.length := by rw [HML.out]; exact hlt
          refine ⟨hx, ?_⟩
          have := congrArg (fun l => l[0]?) HMD.out
          simp only [List.getElem?_drop, Nat.add_zero] at this
          rw [List.getElem?_eq_getElem hx, List.getElem?_eq_getElem hlt] at this
          exact Option.some.inj this
        obtain ⟨z, hzz⟩ : ∃ z, L[k] = z := ⟨_, rfl⟩
        have HZ : Hid (keepR p (L.take (k + 1)) = keepR p (L.take k) ++ if p z = true then [] else [z]) := by show _ = _; rw [keepR_take hlt, hzz]
        have hck := HO.out.cellP k HMk.out.1
        rw [HMk.out.2, hzz] at hck
        obtain ⟨q0, q1⟩ := hck
        obtain ⟨w2, hw2⟩ : ∃ w2, wr.alloc (.cells #[.int .i64 z.1, .int .i64 z.2] 38) = w2 := ⟨_, rfl⟩
        have hb2 : Below wr.heap.size wr w2 := by rw [← hw2]; exact (Below.refl _ _).alloc (Nat.le_refl _) _
        have hV2 : w2.heap[wr.heap.size]? = some (.cells #[.int .i64 z.1, .int .i64 z.2] 38 (0, 0)) := by rw [← hw2]; exact heap_alloc_new wr _
        have v0 : w2.cell? ⟨wr.heap.size, 0, none⟩ = some (.int .i64 z.1) := by rw [cell_of_row w2 wr.heap.size 0 _ _ (0, 0) hV2]; rfl
        have v1 : w2.cell? ⟨wr.heap.size, 1, none⟩ = some (.int .i64 z.2) := by rw [cell_of_row w2 wr.heap.size 1 _ _ (0, 0) hV2]; rfl
        have HW2 : Hid (wr.alloc (.cells #[.int .i64 z.1, .int .i64 z.2] 38) = w2) := hw2
        have hT2 : Tch (fun k => k = G) w w2 := HG.out.trans (Tch.of_below hb2)
        have hcall := HP.out w2 z hT2
        have hO2 := HO.out.below hb2 (Nat.le_refl _)
        have hi1 : (0 : Int) ≤ (k : Int) := by omega
        have hi2 : (k : Int) < (L.length : Int) := by omega
        have hi3 : (0 : Int) ≤ (n : Int) := by omega
        have hi4 : (n : Int) < (L.length : Int) := by omega
        cases hz : p z with
        | true =>
          rw [hz] at hcall
          rw [hz, if_pos rfl, List.append_nil] at HZ
          have HC : Hid (OwnP w2 base 38 (.slice (some ⟨G, 0, none⟩) L.length c) M ∧ Tch (fun k => k = G) w w2) := ⟨hO2, hT2⟩
          clear hzz hO2 hT2 hb2 hV2 hw2 HO HG
          go_wp2_with fail
          rw [HW2.out]
          refine hcall.mono ?_
          rintro e w3 ⟨rfl, hb3⟩
          go_wp2_with fail
          go_roundw
          case rel =>
            try ((repeat apply Exists.intro); refine ⟨?_, rfl⟩)
            refine ⟨⟨k + 1, n, M, by omega, by go_num, rfl, by omega, by show _ = _; rw [HZ.out]; exact HN.out, HML, by show _ = _; rw [HZ.out]; exact HMT.out, ?_, HC.out.1.below hb3 (Nat.le_refl _), HC.out.2.trans (Tch.of_below hb3)⟩⟩
            show M.drop (k + 1) = L.drop (k + 1)
            rw [← List.drop_drop, HMD.out, List.drop_drop]
          case measure => simp [intOf]; omega
        | false =>
          rw [hz] at hcall
          rw [hz, if_neg (by decide)] at HZ
          have HC : Hid (OwnP w2 base 38 (.slice (some ⟨G, 0, none⟩) L.length c) M ∧ Tch (fun k => k = G) w w2 ∧ w2.heap[wr.heap.size]? = some (.cells #[.int .i64 z.1, .int .i64 z.2] 38 (0, 0))) := ⟨hO2, hT2, hV2⟩
          clear hzz hO2 hT2 hb2 hV2 hw2 HO HG
          go_wp2_with fail
          rw [HW2.out]
          refine hcall.mono ?_
          rintro e w3 ⟨rfl, hb3⟩
          obtain ⟨hO2, hT2, hV2⟩ := HC.out
          have hO3 := hO2.below hb3 (Nat.le_refl _)
          have hT3 := hT2.trans (Tch.of_below hb3)
          have hV3 : w3.heap[wr.heap.size]? = some (.cells #[.int .i64 z.1, .int .i64 z.2] 38 (0, 0)) := (hb3.block _ (Array.getElem?_eq_some_iff.1 hV2).1).trans hV2
          have x0 : w3.cell? ⟨wr.heap.size, 0, none⟩ = some (.int .i64 z.1) := by rw [cell_of_row w3 wr.heap.size 0 _ _ (0, 0) hV3]; rfl
          have x1 : w3.cell? ⟨wr.heap.size, 1, none⟩ = some (.int .i64 z.2) := by rw [cell_of_row w3 wr.heap.size 1 _ _ (0, 0) hV3]; rfl
          obtain ⟨y0, y1⟩ := hO3.cellP n (by rw [HML.out]; omega)
          have f0 := hO3.there HML.out.symm (n * 2)
          have f1 := hO3.there HML.out.symm (n * 2 + 1)
          have HST : Hid (OwnP ((w3.setCell ⟨G, n * 2, none⟩ (.int .i64 z.1)).setCell ⟨G, n * 2 + 1, none⟩ (.int .i64 z.2)) base 38 (.slice (some ⟨G, 0, none⟩) L.length c) (M.set n z) ∧ Tch (fun k => k = G) w ((w3.setCell ⟨G, n * 2, none⟩ (.int .i64 z.1)).setCell ⟨G, n * 2 + 1, none⟩ (.int .i64 z.2))) := ⟨(hO3.stored HML.out.symm n z).1, hT3.trans (Tch.of_grown (hO3.stored HML.out.symm n z).2 (fun k e => by cases e; rfl))⟩
          clear hO2 hT2 hV2 hO3 hT3 hV3 hb3 HC hcall
          go_wp2_with fail
          go_roundw
          case rel =>
            try ((repeat apply Exists.intro); refine ⟨?_, rfl⟩)
            have hML := HML.out
            have hMT := HMT.out
            have hN := HN.out
            refine ⟨⟨k + 1, n + 1, M.set n z, by omega, by go_num, by go_num, by omega, ?_, by show _ = _; rw [List.length_set]; exact hML, ?_, ?_, HST.out.1, HST.out.2⟩⟩
            · show n + 1 = _
              rw [HZ.out, List.length_append, ← hN]
              rfl
            · show (M.set n z).take (n + 1) = _
              rw [HZ.out, ← hMT, List.take_succ_eq_append_getElem (by rw [List.length_set]; omega), List.getElem_set_self, List.take_set_of_le (Nat.le_refl _)]
            · show (M.set n z).drop (k + 1) = L.drop (k + 1)
              rw [List.drop_set_of_lt (by omega), ← List.drop_drop, HMD.out, List.drop_drop]
          case measure => simp [intOf]; omega
      · have hke : k = L.length := by omega
        subst hke
        have hML := HML.out
        have hMT := HMT.out
        rw [List.take_length] at hMT
        have hnl : n < L.length := hnk
        obtain ⟨cur, hg, hy1, hy2, hy3, hy4, hcl, hct⟩ := HO.out.row
        have hzl := zero2_len (L.length - n)
        have hfit : n * 2 + (Builtin.zeroCells (Value.agg #[.int .i64 0, .int .i64 0]).cells (L.length - n)).toList.length ≤ cur.length := by rw [hzl]; omega
        have hclr : ∀ ty cc, (Builtin.clear_ #[24] ty #[.slice (some ⟨G, n * 2, none⟩) (L.length - n) cc]).run Try.prog wr = .ok (.tuple #[]) (wr.setRow G (splice cur (n * 2) (Builtin.zeroCells (Value.agg #[.int .i64 0, .int .i64 0]).cells (L.length - n)).toList).toArray) := fun ty cc =>
          run_clear_many wr 24 38 ty _ Try.underlying24 Try.zeroRdr (L.length - n) (by omega) (zero2_one _) G (n * 2) cc cur 38 hg hfit
        obtain ⟨W2, hW2⟩ : ∃ W2, wr.setRow G (splice cur (n * 2) (Builtin.zeroCells (Value.agg #[.int .i64 0, .int .i64 0]).cells (L.length - n)).toList).toArray = W2 := ⟨_, rfl⟩
        rw [hW2] at hclr
        have HF : Hid (OwnP W2 base 38 (.slice (some ⟨G, 0, none⟩) n c) (keepR p L) ∧ Tch (fun k => k = G) w W2) := by
          have hnl2 : (keepR p L).length = n := by rw [← hMT, List.length_take]; omega
          refine ⟨?_, ?_⟩
          · rw [← hnl2]
            refine OwnP.of_row (cur := splice cur (n * 2) (Builtin.zeroCells (Value.agg #[.int .i64 0, .int .i64 0]).cells (L.length - n)).toList) ?_ hbG (by omega) hcm (by rw [length_splice _ _ _ hfit]; exact hcl) ?_
            · rw [← hW2]; exact setRow_heap wr G _ _ _ _ hg
            · rw [hnl2]
              have e1 : (splice cur (n * 2) (Builtin.zeroCells (Value.agg #[.int .i64 0, .int .i64 0]).cells (L.length - n)).toList).take (n * 2) = cur.take (n * 2) := by
                unfold splice
                rw [List.take_append_of_le_length (by simp; omega), List.take_take, Nat.min_eq_left (Nat.le_refl _)]
              have e2 : cur.take (n * 2) = (prl M).take (n * 2) := by rw [← hct, List.take_take, Nat.min_eq_left (by omega)]
              have e3 : ∀ (A : List (Int × Int)) (i : Nat), (prl A).take (i * 2) = prl (A.take i) := by
                intro A
                induction A with
                | nil => intro i; simp [prl]
                | cons f A ih =>
                  intro i
                  cases i with
                  | zero => simp [prl]
                  | succ i => rw [prl_cons, show (i + 1) * 2 = i * 2 + 1 + 1 by omega]; simp only [prCells, List.cons_append, List.take_succ_cons, List.nil_append, prl_cons, ih]
              rw [e1, e2, e3, hMT]
          · rw [← hW2]
            exact HG.out.trans ⟨below_setRow (Below.refl 0 wr) (Nat.zero_le _) _, fun k _ hn => setRow_other wr G k _ hn⟩
        have hi1 : (0 : Int) ≤ (n : Int) := by omega
        have hi2 : (n : Int) ≤ (L.length : Int) := by omega
        have hi3 : (n : Int) ≤ (c : Int) := by omega
        have hi4 : (L.length : Int) ≤ (c : Int) := by omega
        have hd1 : ¬ (c = n) := by omega
        clear hML hMT HN HML HMT HMD HO HG hW2 hg hcl hct hzl hfit hy1 hy2 hy3 hy4
        go_wp2
        go_ret
        exact ⟨_, _, rfl, HF.out.1, HF.out.2⟩
  · rw [hidx]
    have HW : Hid (keepR p L = L) := keepR_none h
    clear h hidx
    go_wp2_with fail
    go_ret
    exact ⟨_, _, rfl, by rw [HW.out]; exact ho1, HT1.out⟩
/-- All that the predicate names go. -/
theorem deleteR_any (g : Nat) (lb : Array Value) (p : Int × Int → Bool) (eg : ∀ args w, (callFunc g args).run Try.prog w = .ok (.enter g args) w) (w : World) (base : Nat) (v : Value) (L : List (Int × Int)) (ho : OwnP w base 38 v L) (hm : L.length ≤ 1048576)
    (hp : ∀ (W : World) (x : Int × Int), Tch (fun k => v.ownBlock = some k) w W → Calls Try.prog g (#[.agg #[.int .i64 x.1, .int .i64 x.2]] ++ lb) W fun e w' => e = .returned (.bool (p x)) ∧ Below W.heap.size W w') :
    Calls Try.prog 41 #[v, .func (.func g) #[] lb] w fun e w' => ∃ v', e = .returned v' ∧ OwnP w' base 38 v' (keepR p L) ∧ Tch (fun k => v.ownBlock = some k) w w' := by
  rcases ho.2 with ⟨rfl, h0⟩ | ⟨G, c, cur, rfl, _⟩
  · have hl : L = [] := List.length_eq_zero_iff.1 h0
    subst hl
    have c1 := indexR_any g lb p eg w none 0 [] (fun j hj => by simp at hj) (by simp) (fun W x hb => (hp W x (Tch.of_below hb)).mono (by rintro e w' ⟨rfl, h⟩; exact ⟨rfl, hb.trans (h.mono hb.size)⟩))
    go_enter Try.func41, Try.ntmps41
    go_wp2_with fail
    refine c1.mono ?_
    rintro e w' ⟨rfl, hb⟩
    clear c1
    rw [idxP_miss (fun x hx => by cases hx)]
    go_wp2_with fail
    go_ret
    exact ⟨_, rfl, ho.below hb (Nat.le_refl _), Tch.of_below hb⟩
  · refine (deleteR_row g lb p eg w base G c L ho hm (fun W x ht => hp W x (ht.weak (fun k e => by rw [e]; rfl)))).mono ?_
    rintro e w' ⟨n, c', rfl, h1, h2⟩
    exact ⟨_, rfl, h1, h2.weak (fun k e => by rw [e]; rfl)⟩
end Go.Proofs.Ytmpnjijbahjinaf
