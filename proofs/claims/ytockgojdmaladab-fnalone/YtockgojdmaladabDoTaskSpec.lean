/- A task done in a list of pairs: the other text. -/
import Derived.Test.YtockgojdmaladabPairs
import Derived.Test.YtockgojdmaladabTaskKit
import Derived.Test.YtockgojdmaladabAlone
import Derived.Test.YtockgojdmaladabDoPlain6
import Derived.Deep.AppendLies
import Derived.Deep.RegionLaw
namespace Go.Proofs.Ytockgojdmaladab
open Go.RowKit Go.Sort

theorem Try.infoPair : (Try.prog.info? 46).map (fun i => (i.zero, i.size, i.bytes)) = some (some (.agg #[.int .i64 0, .int .i64 0]), 2, 16) := by kernel_rfl

/-- What is answered of the first k pairs. -/
def ansTo (L : List (Int × Int)) (key : Int) (k : Nat) : Int := (L.take k).foldl (fun a p => if p.1 = key ∧ a = 0 then wrap64 (p.2 + 1) else a) 0
theorem ansTo_succ {L : List (Int × Int)} {key : Int} {k : Nat} (hk : k < L.length) : ansTo L key (k + 1) = if L[k].1 = key ∧ ansTo L key k = 0 then wrap64 (L[k].2 + 1) else ansTo L key k := by
  unfold ansTo
  rw [List.take_succ_eq_append_getElem hk, List.foldl_append]
  rfl
/-- What a task does to pairs, whatever they are. -/
def doT (L : List (Int × Int)) (t : Tk) : List (Int × Int) × Int :=
  if t.kind = 1 then (L, ansTo L t.key L.length)
  else if t.kind = 2 then (if hasP L t.key then (L, 0) else (L.filter (fun p => decide (p.1 < t.key)) ++ (t.key, t.val) :: L.filter (fun p => decide (t.key < p.1)), 1))
  else if t.kind = 3 then (L.filter (fun p => !decide (p.1 = t.key)), if hasP L t.key then 1 else 0)
  else (L, 0)
theorem filter_step {f : Int × Int → Bool} {L : List (Int × Int)} {k : Nat} (hk : k < L.length) : (L.take (k + 1)).filter f = (L.take k).filter f ++ (if f L[k] then [L[k]] else []) := by
  rw [List.take_succ_eq_append_getElem hk, List.filter_append]
  by_cases h : f L[k] = true
  · simp [h]
  · simp [h]
theorem has_step {L : List (Int × Int)} {key : Int} {k : Nat} (hk : k < L.length) : hasP (L.take (k + 1)) key = (hasP (L.take k) key || decide (L[k].1 = key)) := by
  unfold hasP
  rw [List.take_succ_eq_append_getElem hk, List.any_append]
  simp
theorem has_at {L : List (Int × Int)} {key : Int} {k : Nat} (hk : k < L.length) (h : L[k].1 = key) : hasP L key = true := by
  unfold hasP
  rw [List.any_eq_true]
  exact ⟨L[k], List.getElem_mem hk, by simpa using h⟩
theorem PAt.none_nil {w : World} {l : List (Int × Int)} {B : Nat} (h : PAt w none l B) : l = [] := by
  cases l with
  | nil => rfl
  | cons x r => obtain ⟨g, off, ha, _⟩ := h 0 (by simp); simp at ha
theorem ownP_empty (w : World) : OwnP (w.alloc (.cells #[] 46)) w.heap.size 46 (.slice (some ⟨w.heap.size, 0, none⟩) 0 0) [] := ⟨rfl, .inr ⟨w.heap.size, 0, #[], rfl, Nat.le_refl _, heap_alloc_new _ _, Nat.le_refl _, by simp [maxLen], by simp, rfl⟩⟩

theorem step_snocP {P : Program} {ops : Array Oper} {o : Oper} {a : Act} {K : Act → World → Prop} {Q : Exit → Act → World → Prop} {E : Prop} {w : World} (hgd : o.guard = none) (s x : Operand) (t : TypeId)
    (ho : o.op = .call { callee := .builtin .append, args := #[s, x], argTypes := #[t, t] }) (base : Nat) (e : TypeId) (ht : P.underlying t = some (.slice e))
    (hinfo : (P.info? e).map (fun i => (i.zero, i.size, i.bytes)) = some (some (.agg #[.int .i64 0, .int .i64 0]), 2, 16)) (v : Value) (L : List (Int × Int)) (hs : a.eval s = v) (hown : OwnP w base e v L)
    (B : Nat) (f : Int × Int) (fr : Nat × Nat) (hx : a.eval x = .slice (some ⟨B, 0, none⟩) 1 1) (hB : w.heap[B]? = some (.cells #[.int .i64 f.1, .int .i64 f.2] e fr)) (hlen : L.length < 10000000) (hbase : base ≤ w.heap.size)
    (h : ∀ g cap w', OwnP w' base e (.slice (some ⟨g, 0, none⟩) (L.length + 1) cap) (L ++ [f]) → w.grownBy w' v.ownBlock → K (a.put o.dst (.slice (some ⟨g, 0, none⟩) (L.length + 1) cap)) w') :
    if Region.wanted o (yielded ops a.tmps) = true then Oper.wp P o a w K Q else E := by
  obtain ⟨i0, hi, hz0, hz1, hz2⟩ := info_parts hinfo
  refine step_append_lies w hgd s x t ho base e i0 _ 2 16 ht hi hz0 hz1 hz2 rfl (by decide) v L.length (prl L) hs hown ⟨B, 0, none⟩ 1 1 (prl [f]) hx rfl (fun j u hu => World.news_of_block hB j u (by simpa [prl, prCells] using hu)) ?_ (by decide) (by unfold maxLen; omega) (by omega) hbase w.heap.size rfl ?_
  · intro u hu
    simp [prl, prCells] at hu
    rcases hu with rfl | rfl <;> rfl
  · intro g cap w' h1 h2 _ _
    refine h g cap w' ?_ h2
    unfold OwnP
    rw [show prl (L ++ [f]) = prl L ++ prl [f] by simp [prl], List.length_append, List.length_singleton]
    exact h1
theorem snocP_below {B n : Nat} {w0 wr w4 : World} {o : Obj} {e : TypeId} {v : Value} {L : List (Int × Int)} (hb : Below B w0 wr) (ho : OwnP wr B e v L) (hB : B ≤ wr.heap.size) (hgr : ((wr.drewN n).alloc o).grownBy w4 v.ownBlock) : Below B w0 w4 := by
  have h1 : Below B w0 (wr.drewN n) := hb.trans ⟨rfl, rfl, rfl, Nat.le_refl _, fun _ _ => rfl⟩
  exact (h1.alloc hB o).grown hgr (by simp; omega) (fun k e => (ho.lt k e).1)

theorem PAt.dal {w : World} {a : Option Addr} {L : List (Int × Int)} {B : Nat} (h : PAt w a L B) (hB : B ≤ w.heap.size) (n : Nat) (o : Obj) : PAt ((w.drewN n).alloc o) a L B := by
  have h1 : Below w.heap.size w (w.drewN n) := ⟨rfl, rfl, rfl, Nat.le_refl _, fun _ _ => rfl⟩
  exact h.below (h1.alloc (Nat.le_refl _) o) hB
theorem allP_below {B n : Nat} {w0 wr w4 : World} {o : Obj} {v : Value} (hb : Below B w0 wr) (hB : B ≤ wr.heap.size) (hv : v.ownBlock = some wr.heap.size) (hgr : ((wr.drewN n).alloc o).grownBy w4 v.ownBlock) : Below B w0 w4 := by
  have h1 : Below B w0 (wr.drewN n) := hb.trans ⟨rfl, rfl, rfl, Nat.le_refl _, fun _ _ => rfl⟩
  exact (h1.alloc hB o).grown hgr (by simp; omega) (fun k e => by rw [hv] at e; cases e; exact hB)

set_option maxRecDepth 100000 in
set_option maxHeartbeats 4000000 in
theorem specDoTask_any (w : World) (a : Option Addr) (cap : Nat) (L : List (Int × Int)) (t : Tk) (hL : PAt w a L w.heap.size) (hm : L.length ≤ 1048576) :
    Calls Try.prog 28 #[.slice a L.length cap, .agg (tcs t)] w fun e w' => ∃ v, e = .returned (.tuple #[v, .int .i64 (doT L t).2]) ∧ OwnP w' w.heap.size 46 v (doT L t).1 ∧ Below w.heap.size w w' := by
  obtain ⟨wt, hwt⟩ : ∃ wt, w.alloc (.cells (tcs t) 43) = wt := ⟨_, rfl⟩
  have hbt : Below w.heap.size w wt := by rw [← hwt]; exact (Below.refl _ _).alloc (Nat.le_refl _) _
  have hTt : TBox wt w.heap.size t := by rw [← hwt]; exact TBox.new _ _
  obtain ⟨wb, hwb⟩ : ∃ wb, wt.alloc (.cells #[] 46) = wb := ⟨_, rfl⟩
  have hbb : Below wt.heap.size wt wb := by rw [← hwb]; exact (Below.refl _ _).alloc (Nat.le_refl _) _
  have hst : wt.heap.size = w.heap.size + 1 := by rw [← hwt]; simp
  have hown : OwnP wb (w.heap.size + 1) 46 (.slice (some ⟨w.heap.size + 1, 0, none⟩) 0 0) [] := by rw [← hwb, ← hst]; exact ownP_empty wt
  have hB : Below w.heap.size w wb := hbt.trans (hbb.mono hbt.size)
  have hTb := hTt.on hbb
  have hLb : PAt wb a L wb.heap.size := hL.on hB
  have HB : Hid (∀ wi, Below (w.heap.size + 1) wb wi → TBox wi w.heap.size t ∧ PAt wi a L (w.heap.size) ∧ Below w.heap.size w wi) := fun wi hi =>
    ⟨hTb.kept (hi.block _ (by omega)), fun j hj => by
      obtain ⟨g, off, ha, hg, h0, h1⟩ := hL j hj
      have hb2 : Below w.heap.size w wi := hB.trans (hi.mono (by omega))
      exact ⟨g, off, ha, hg, (hb2.cell hg).trans h0, (hb2.cell hg).trans h1⟩, hB.trans (hi.mono (by omega))⟩
  have HW : Hid ((w.alloc (.cells #[.int .i64 t.kind, .int .i64 t.key, .int .i64 t.val, .int .i64 t.node, .int .i64 t.pc, .int .i64 t.prev, .int .i64 t.cur, .int .i64 t.next, .int .i64 t.mark, .bool t.done, .int .i64 t.ans] 43)).alloc (.cells #[] 46) = wb) := by rw [← hwb, ← hwt]; rfl
  have hsb : w.heap.size + 1 < wb.heap.size := by rw [← hwb]; simp; omega
  clear hwt hbt hTt hwb hbb hst hB hL hLb hTb
  obtain ⟨hT0, hP0, hB0⟩ := HB.out wb (Below.refl _ _)
  obtain ⟨b0, b1, b2, _⟩ := hT0.cells
  have c1 := in_any t.kind 1 3 wb
  unfold tcs
  by_cases hk : 1 ≤ t.kind ∧ t.kind ≤ 3
  · have hin : inN t.kind 1 3 = true := decide_eq_true hk
    rw [hin] at c1
    go_enter Try.func28, Try.ntmps28
    go_wp2_with fail
    rw [HW.out]
    refine c1.mono ?_
    rintro e wb' ⟨rfl, hq⟩
    subst hq
    clear c1
    go_wp2
    go_loopw [7, 8] (fun an i wr => Box (∃ (k nq : Nat), k ≤ L.length ∧ i = .int .i64 k ∧ an = .int .i64 (ansTo L t.key k) ∧ wr = wb'.drewN nq))
      (fun _ i _ => L.length - (intOf i).toNat)
    case atStart => exact ⟨⟨0, 0, by omega, rfl, rfl, rfl⟩⟩
    case round =>
      obtain ⟨k, nq, hkl, rfl, rfl, rfl⟩ := hrel.out
      clear hrel
      by_cases hlt : k < L.length
      · obtain ⟨g, off, rfl, _, q0, q1⟩ := hP0 k hlt
        have hs := ansTo_succ (key := t.key) hlt
        obtain ⟨⟨pk, pv⟩, hpp⟩ : ∃ p, L[k] = p := ⟨_, rfl⟩
        rw [hpp] at q0 q1 hs
        dsimp only at q0 q1 hs
        obtain ⟨an, han⟩ : ∃ an, ansTo L t.key k = an := ⟨_, rfl⟩
        rw [han] at hs ⊢
        have hi1 : (0 : Int) ≤ (k : Int) := by omega
        have hi2 : (k : Int) < (L.length : Int) := by omega
        clear hpp han hP0
        by_cases he : pk = t.key
        · by_cases h0 : an = 0
          · rw [if_pos ⟨he, h0⟩] at hs
            have HS : Hid (ansTo L t.key (k + 1) = wrap64 (pv + 1)) := hs
            subst h0
            subst he
            clear hs
            go_wp2
            go_quiet (fail)
            go_wp2
            go_roundw
            case rel =>
              try ((repeat apply Exists.intro); refine ⟨?_, rfl⟩)
              exact ⟨⟨k + 1, _, by omega, by go_num, by rw [HS.out], rfl⟩⟩
            case measure => simp [intOf]; omega
          · rw [if_neg (fun h => h0 h.2)] at hs
            have HS : Hid (ansTo L t.key (k + 1) = an) := hs
            have d0 : decide (an = 0) = false := decide_eq_false h0
            subst he
            clear hs
            go_wp2
            go_quiet (fail)
            go_wp2
            go_roundw
            case rel =>
              try ((repeat apply Exists.intro); refine ⟨?_, rfl⟩)
              exact ⟨⟨k + 1, _, by omega, by go_num, by rw [HS.out], rfl⟩⟩
            case measure => simp [intOf]; omega
        · rw [if_neg (fun h => he h.1)] at hs
          have HS : Hid (ansTo L t.key (k + 1) = an) := hs
          have d0 : decide (pk = t.key) = false := decide_eq_false he
          clear hs
          go_wp2
          go_quiet (fail)
          go_wp2
          go_roundw
          case rel =>
            try ((repeat apply Exists.intro); refine ⟨?_, rfl⟩)
            exact ⟨⟨k + 1, _, by omega, by go_num, by rw [HS.out], rfl⟩⟩
          case measure => simp [intOf]; omega
      · have hke : k = L.length := by omega
        subst hke
        obtain ⟨wq, hwq⟩ : ∃ wq, wq = wb'.drewN nq := ⟨_, rfl⟩
        have hbq : Below (w.heap.size + 1) wb' wq := by rw [hwq]; exact ⟨rfl, rfl, rfl, Nat.le_refl _, fun _ _ => rfl⟩
        have hownq : OwnP wq (w.heap.size + 1) 46 (.slice (some ⟨w.heap.size + 1, 0, none⟩) 0 0) [] := by rw [hwq]; exact hown.kept fun _ _ => rfl
        rw [← hwq]
        have hsq : w.heap.size + 1 < wq.heap.size := by rw [hwq]; simpa using hsb
        obtain ⟨hT, hP, hBq⟩ := HB.out wq hbq
        clear hown hsb hT0 hP0 hB0 b0 b1 b2
        obtain ⟨b0, b1, b2, _⟩ := hT.cells
        by_cases h1 : t.kind = 1
        · have HD : Hid (doT L t = (L, ansTo L t.key L.length)) := by show _ = _; simp [doT, h1]
          obtain ⟨an, han⟩ : ∃ an, ansTo L t.key L.length = an := ⟨_, rfl⟩
          rw [han] at HD ⊢
          rw [h1] at b0
          clear han hwq hT
          cases a with
          | none =>
            have := hP.none_nil
            subst this
            go_wp2
            go_ret2
            rw [HD.out]
            exact ⟨_, rfl, hownq.mono (by omega), hBq⟩
          | some ad =>
            go_wp2_with (at_builtin; refine wpList_allP rfl (.tmp 49) (.tmp 50) 39 rfl (w.heap.size + 1) 46 Try.underlying39 Try.infoPair _ rfl hownq ad cap L _ rfl hP hm (by omega) ?_; intro v4 w4 hown4 hgr4)
            go_ret2
            rw [HD.out]
            exact ⟨_, rfl, hown4.mono (by omega), hBq.grown hgr4 hBq.size (fun k e => by cases e; exact Nat.le_succ _)⟩
        · by_cases h2 : t.kind = 2
          · rw [h2] at b0
            have HN : Hid (¬ t.kind = 1 ∧ t.kind = 2) := ⟨h1, h2⟩
            have hpk := hP
            have hAN : ∃ an, ansTo L t.key L.length = an := ⟨_, rfl⟩
            obtain ⟨an, han⟩ := hAN
            rw [han]
            clear h1 h2 han hk hin hwq
            go_wp2
            go_loopw [9] (fun i wr => Box (∃ (k nq : Nat), k ≤ L.length ∧ i = .int .i64 k ∧ wr = wq.drewN nq ∧ hasP (L.take k) t.key = false))
              (fun i _ => L.length - (intOf i).toNat)
            case atStart => exact ⟨⟨0, 0, by omega, rfl, rfl, rfl⟩⟩
            case round =>
              obtain ⟨k, nq, hkl, rfl, rfl, hno⟩ := hrel.out
              clear hrel
              by_cases hlt : k < L.length
              · obtain ⟨g, off, rfl, _, q0, q1⟩ := hP k hlt
                have hs := has_step (key := t.key) hlt
                have hh := has_at (key := t.key) hlt
                obtain ⟨⟨pk, pv⟩, hpp⟩ : ∃ p, L[k] = p := ⟨_, rfl⟩
                rw [hpp] at q0 q1 hs hh
                rw [hno] at hs
                dsimp only at q0 q1 hs hh
                have hi1 : (0 : Int) ≤ (k : Int) := by omega
                have hi2 : (k : Int) < (L.length : Int) := by omega
                clear hpp
                by_cases he : pk = t.key
                · have HD : Hid (doT L t = (L, 0)) := by show _ = _; simp [doT, HN.out, hh he]
                  subst he
                  clear hs hh
                  go_wp2
                  go_quiet (fail)
                  go_wp2_with (at_builtin; refine wpList_allP rfl (.tmp 70) (.tmp 71) 39 rfl wq.heap.size 46 Try.underlying39 Try.infoPair _ rfl (by exact ownP_empty _) _ cap L (w.heap.size) rfl (by exact hpk.dal (by omega) _ _) hm (by simp) ?_; intro v4 w4 hown4 hgr4)
                  go_ret2
                  rw [HD.out]
                  exact ⟨_, rfl, hown4.mono (by omega), allP_below hBq (by omega) rfl hgr4⟩
                · have HS : Hid (hasP (L.take (k + 1)) t.key = false) := by show _ = _; rw [hs]; simpa using he
                  have d0 : decide (pk = t.key) = false := decide_eq_false he
                  clear hs hh
                  go_wp2
                  go_quiet (fail)
                  go_wp2
                  go_roundw
                  case rel =>
                    try ((repeat apply Exists.intro); refine ⟨?_, rfl⟩)
                    exact ⟨⟨k + 1, _, by omega, by go_num, rfl, HS.out⟩⟩
                  case measure => simp [intOf]; omega
              · have hke : k = L.length := by omega
                subst hke
                rw [List.take_length] at hno
                obtain ⟨w2, hw2⟩ : ∃ w2, w2 = wq.drewN nq := ⟨_, rfl⟩
                have hb2 : Below (w.heap.size + 1) wb' w2 := by rw [hw2]; exact hbq.trans ⟨rfl, rfl, rfl, Nat.le_refl _, fun _ _ => rfl⟩
                have hown2 : OwnP w2 (w.heap.size + 1) 46 (.slice (some ⟨w.heap.size + 1, 0, none⟩) 0 0) [] := by rw [hw2]; exact hownq.kept fun _ _ => rfl
                rw [← hw2]
                have HD : Hid (doT L t = (L.filter (fun p => decide (p.1 < t.key)) ++ (t.key, t.val) :: L.filter (fun p => decide (t.key < p.1)), 1)) := by show _ = _; simp [doT, HN.out, hno]
                have hs2 : w.heap.size + 1 < w2.heap.size := by rw [hw2]; simpa using hsq
                clear hno hT hP hpk hBq b0 b1 b2 hw2 hownq hsq hbq HN
                go_wp2
                go_loopw [6, 10] (fun v i wr => Box (∃ (k : Nat), k ≤ L.length ∧ i = .int .i64 k ∧ OwnP wr (w.heap.size + 1) 46 v ((L.take k).filter (fun p => decide (p.1 < t.key))) ∧ Below (w.heap.size + 1) wb' wr))
                  (fun _ i _ => L.length - (intOf i).toNat)
                case atStart => exact ⟨⟨0, by omega, rfl, hown2, hb2⟩⟩
                case round =>
                  obtain ⟨k, hkl, rfl, ho, hb⟩ := hrel.out
                  clear hrel
                  obtain ⟨hT, hP, hBr⟩ := HB.out wr hb
                  obtain ⟨b0, b1, b2, _⟩ := hT.cells
                  have hsr : w.heap.size < wr.heap.size := hT.lt
                  by_cases hlt : k < L.length
                  · obtain ⟨g, off, rfl, _, q0, q1⟩ := hP k hlt
                    have hs := filter_step (f := fun p => decide (p.1 < t.key)) hlt
                    have hlen : ((L.take k).filter (fun p => decide (p.1 < t.key))).length ≤ L.length := Nat.le_trans (List.length_filter_le _ _) (by simp; omega)
                    obtain ⟨⟨pk, pv⟩, hpp⟩ : ∃ p, L[k] = p := ⟨_, rfl⟩
                    rw [hpp] at q0 q1 hs
                    dsimp only at q0 q1 hs
                    have hi1 : (0 : Int) ≤ (k : Int) := by omega
                    have hi2 : (k : Int) < (L.length : Int) := by omega
                    clear hpp hP
                    by_cases he : pk < t.key
                    · have d0 : decide (pk < t.key) = true := decide_eq_true he
                      rw [d0] at hs
                      have HS : Hid ((L.take (k + 1)).filter (fun p => decide (p.1 < t.key)) = (L.take k).filter (fun p => decide (p.1 < t.key)) ++ [(pk, pv)]) := hs
                      clear hs
                      go_wp2
                      go_quiet (fail)
                      go_wp2_with (at_builtin; refine wpList_snocP rfl (.tmp 87) (.tmp 92) 39 rfl (w.heap.size + 1) 46 Try.underlying39 Try.infoPair _ _ rfl (by exact ho.kept fun _ _ => rfl) (pk, pv) _ rfl rfl (by omega) (by simp; omega) ?_; intro v4 w4 hown4 hgr4)
                      go_roundw
                      case rel =>
                        try ((repeat apply Exists.intro); refine ⟨?_, rfl⟩)
                        exact ⟨⟨k + 1, by omega, by go_num, by rw [HS.out]; exact hown4, snocP_below hb ho (by omega) hgr4⟩⟩
                      case measure => simp [intOf]; omega
                    · have d0 : decide (pk < t.key) = false := decide_eq_false he
                      rw [d0] at hs
                      have HS : Hid ((L.take (k + 1)).filter (fun p => decide (p.1 < t.key)) = (L.take k).filter (fun p => decide (p.1 < t.key))) := by show _ = _; simpa using hs
                      clear hs
                      go_wp2
                      go_quiet (fail)
                      go_wp2
                      go_roundw
                      case rel =>
                        try ((repeat apply Exists.intro); refine ⟨?_, rfl⟩)
                        exact ⟨⟨k + 1, by omega, by go_num, by rw [HS.out]; exact ho.kept fun _ _ => rfl, hb.trans ⟨rfl, rfl, rfl, Nat.le_refl _, fun _ _ => rfl⟩⟩⟩
                      case measure => simp [intOf]; omega
                  · have hke : k = L.length := by omega
                    subst hke
                    rw [List.take_length] at ho
                    have hln : (L.filter (fun p => decide (p.1 < t.key))).length < 10000000 := Nat.lt_of_le_of_lt (List.length_filter_le _ _) (by omega)
                    have hff := List.length_filter_le (fun p : Int × Int => decide (p.1 < t.key)) L
                    have hown20 := ho
                    have hb20 := hb
                    clear hP hown2 hb2
                    go_wp2_with (at_builtin; refine wpList_snocP rfl (.tmp 94) (.tmp 100) 39 rfl (w.heap.size + 1) 46 Try.underlying39 Try.infoPair _ _ rfl (by exact ho.kept fun _ _ => rfl) (t.key, t.val) _ rfl rfl hln (by first | omega | (simp; omega)) ?_; intro v4 w4 hown4 hgr4)
                    have hown2 := hown4
                    have hb2 := snocP_below (n := 0) hb ho (by omega) hgr4
                    clear hown4 hgr4 hT hBr b0 b1 b2 ho hb hsr
                    go_loopw [6, 11] (fun v i wr => Box (∃ (k : Nat), k ≤ L.length ∧ i = .int .i64 k ∧ OwnP wr (w.heap.size + 1) 46 v ((L.filter (fun p => decide (p.1 < t.key)) ++ [(t.key, t.val)]) ++ ((L.take k).filter (fun p => decide (t.key < p.1)))) ∧ Below (w.heap.size + 1) wb' wr))
                      (fun _ i _ => L.length - (intOf i).toNat)
                    case atStart => exact ⟨⟨0, by omega, rfl, by simpa using hown2, hb2⟩⟩
                    case round =>
                      obtain ⟨k, hkl, rfl, ho, hb⟩ := hrel.out
                      clear hrel
                      obtain ⟨hT, hP, hBr⟩ := HB.out wr hb
                      obtain ⟨b0, b1, b2, _⟩ := hT.cells
                      have hsr : w.heap.size < wr.heap.size := hT.lt
                      by_cases hlt : k < L.length
                      · obtain ⟨g, off, rfl, _, q0, q1⟩ := hP k hlt
                        have hs := filter_step (f := fun p => decide (t.key < p.1)) hlt
                        have hlen : ((L.take k).filter (fun p => decide (t.key < p.1))).length ≤ L.length := Nat.le_trans (List.length_filter_le _ _) (by simp; omega)
                        obtain ⟨⟨pk, pv⟩, hpp⟩ : ∃ p, L[k] = p := ⟨_, rfl⟩
                        rw [hpp] at q0 q1 hs
                        dsimp only at q0 q1 hs
                        have hi1 : (0 : Int) ≤ (k : Int) := by omega
                        have hi2 : (k : Int) < (L.length : Int) := by omega
                        clear hpp hP
                        by_cases he : t.key < pk
                        · have d0 : decide (t.key < pk) = true := decide_eq_true he
                          rw [d0] at hs
                          have HS : Hid ((L.filter (fun p => decide (p.1 < t.key)) ++ [(t.key, t.val)]) ++ ((L.take (k + 1)).filter (fun p => decide (t.key < p.1))) = (L.filter (fun p => decide (p.1 < t.key)) ++ [(t.key, t.val)]) ++ ((L.take k).filter (fun p => decide (t.key < p.1))) ++ [(pk, pv)]) := by show _ = _; rw [hs]; simp
                          have hln : ((L.filter (fun p => decide (p.1 < t.key)) ++ [(t.key, t.val)]) ++ ((L.take k).filter (fun p => decide (t.key < p.1)))).length < 10000000 := by simp only [List.length_append, List.length_cons, List.length_nil]; omega
                          clear hs
                          go_wp2
                          go_quiet (fail)
                          go_wp2_with (at_builtin; refine wpList_snocP rfl (.tmp 116) (.tmp 121) 39 rfl (w.heap.size + 1) 46 Try.underlying39 Try.infoPair _ _ rfl (by exact ho.kept fun _ _ => rfl) (pk, pv) _ rfl rfl hln (by simp; omega) ?_; intro v4 w4 hown4 hgr4)
                          go_roundw
                          case rel =>
                            try ((repeat apply Exists.intro); refine ⟨?_, rfl⟩)
                            exact ⟨⟨k + 1, by omega, by go_num, by rw [HS.out]; exact hown4, snocP_below hb ho (by omega) hgr4⟩⟩
                          case measure => simp [intOf]; omega
                        · have d0 : decide (t.key < pk) = false := decide_eq_false he
                          rw [d0] at hs
                          have HS : Hid ((L.filter (fun p => decide (p.1 < t.key)) ++ [(t.key, t.val)]) ++ ((L.take (k + 1)).filter (fun p => decide (t.key < p.1))) = (L.filter (fun p => decide (p.1 < t.key)) ++ [(t.key, t.val)]) ++ ((L.take k).filter (fun p => decide (t.key < p.1)))) := by show _ = _; rw [hs]; simp
                          clear hs
                          go_wp2
                          go_quiet (fail)
                          go_wp2
                          go_roundw
                          case rel =>
                            try ((repeat apply Exists.intro); refine ⟨?_, rfl⟩)
                            exact ⟨⟨k + 1, by omega, by go_num, by rw [HS.out]; exact ho.kept fun _ _ => rfl, hb.trans ⟨rfl, rfl, rfl, Nat.le_refl _, fun _ _ => rfl⟩⟩⟩
                          case measure => simp [intOf]; omega
                      · have hke : k = L.length := by omega
                        subst hke
                        rw [List.take_length] at ho
                        have HR : Hid (doT L t = (L.filter (fun p => decide (p.1 < t.key)) ++ [(t.key, t.val)] ++ L.filter (fun p => decide (t.key < p.1)), 1)) := by show _ = _; rw [HD.out]; simp
                        go_wp2
                        go_ret2
                        rw [HR.out]
                        exact ⟨_, rfl, ho.mono (by omega), hBr⟩
          · have h3 : t.kind = 3 := by omega
            rw [h3] at b0
            have HD : Hid (doT L t = (L.filter (fun p => !decide (p.1 = t.key)), if hasP L t.key then 1 else 0)) := by show _ = _; simp [doT, h3]
            obtain ⟨an, han⟩ : ∃ an, ansTo L t.key L.length = an := ⟨_, rfl⟩
            rw [han]
            have hown2 := hownq
            have hb2 := hbq
            clear h1 h2 h3 han hk hin hwq hP hBq
            go_wp2
            go_loopw [6, 12, 13] (fun v gn i wr => Box (∃ (k : Nat), k ≤ L.length ∧ i = .int .i64 k ∧ gn = .int .i64 (if hasP (L.take k) t.key then 1 else 0) ∧ OwnP wr (w.heap.size + 1) 46 v ((L.take k).filter (fun p => !decide (p.1 = t.key))) ∧ Below (w.heap.size + 1) wb' wr))
              (fun _ _ i _ => L.length - (intOf i).toNat)
            case atStart => exact ⟨⟨0, by omega, rfl, rfl, by simpa using hown2, hb2⟩⟩
            case round =>
              obtain ⟨k, hkl, rfl, rfl, ho, hb⟩ := hrel.out
              clear hrel hT b0 b1 b2
              obtain ⟨hT, hP, hBr⟩ := HB.out wr hb
              obtain ⟨b0, b1, b2, _⟩ := hT.cells
              have hsr : w.heap.size < wr.heap.size := hT.lt
              by_cases hlt : k < L.length
              · obtain ⟨g, off, rfl, _, q0, q1⟩ := hP k hlt
                have hs := filter_step (f := fun p => !decide (p.1 = t.key)) hlt
                have hh := has_step (key := t.key) hlt
                have hlen : ((L.take k).filter (fun p => !decide (p.1 = t.key))).length < 10000000 := Nat.lt_of_le_of_lt (List.length_filter_le _ _) (by simp; omega)
                obtain ⟨⟨pk, pv⟩, hpp⟩ : ∃ p, L[k] = p := ⟨_, rfl⟩
                rw [hpp] at q0 q1 hs hh
                dsimp only at q0 q1 hs hh
                have hi1 : (0 : Int) ≤ (k : Int) := by omega
                have hi2 : (k : Int) < (L.length : Int) := by omega
                obtain ⟨gn, hgn⟩ : ∃ gn : Int, (if hasP (L.take k) t.key then 1 else 0) = gn := ⟨_, rfl⟩
                rw [hgn]
                clear hpp hP
                by_cases he : pk = t.key
                · have d0 : decide (pk = t.key) = true := decide_eq_true he
                  rw [d0] at hs hh
                  have HS : Hid (((L.take (k + 1)).filter (fun p => !decide (p.1 = t.key))) = ((L.take k).filter (fun p => !decide (p.1 = t.key)))) := by show _ = _; rw [hs]; simp
                  have HH : Hid (hasP (L.take (k + 1)) t.key = true) := by show _ = _; rw [hh]; simp
                  subst he
                  clear hs hh d0
                  go_wp2
                  go_quiet (fail)
                  go_wp2
                  go_roundw
                  case rel =>
                    try ((repeat apply Exists.intro); refine ⟨?_, rfl⟩)
                    exact ⟨⟨k + 1, by omega, by go_num, by rw [HH.out]; rfl, by rw [HS.out]; exact ho.kept fun _ _ => rfl, hb.trans ⟨rfl, rfl, rfl, Nat.le_refl _, fun _ _ => rfl⟩⟩⟩
                  case measure => simp [intOf]; omega
                · have d0 : decide (pk = t.key) = false := decide_eq_false he
                  rw [d0] at hs hh
                  have HS : Hid (((L.take (k + 1)).filter (fun p => !decide (p.1 = t.key))) = ((L.take k).filter (fun p => !decide (p.1 = t.key))) ++ [(pk, pv)]) := by show _ = _; rw [hs]; simp
                  have HH : Hid ((if hasP (L.take (k + 1)) t.key then (1 : Int) else 0) = gn) := by show _ = _; rw [hh, Bool.or_false]; exact hgn
                  clear hs hh
                  go_wp2
                  go_quiet (fail)
                  go_wp2_with (at_builtin; refine wpList_snocP rfl (.tmp 138) (.tmp 143) 39 rfl (w.heap.size + 1) 46 Try.underlying39 Try.infoPair _ _ rfl (by exact ho.kept fun _ _ => rfl) (pk, pv) _ rfl rfl hlen (by first | omega | (simp; omega)) ?_; intro v4 w4 hown4 hgr4)
                  go_roundw
                  case rel =>
                    try ((repeat apply Exists.intro); refine ⟨?_, rfl⟩)
                    exact ⟨⟨k + 1, by omega, by go_num, by rw [HH.out], by rw [HS.out]; exact hown4, snocP_below hb ho (by omega) hgr4⟩⟩
                  case measure => simp [intOf]; omega
              · have hke : k = L.length := by omega
                subst hke
                rw [List.take_length] at ho ⊢
                obtain ⟨gn, hgn⟩ : ∃ gn : Int, (if hasP L t.key then 1 else 0) = gn := ⟨_, rfl⟩
                rw [hgn] at HD ⊢
                go_wp2
                go_ret2
                rw [HD.out]
                exact ⟨_, rfl, ho.mono (by omega), hBr⟩
  · have hin : inN t.kind 1 3 = false := decide_eq_false hk
    rw [hin] at c1
    have HD : Hid (doT L t = (L, 0)) := by
      show _ = _
      have h1 : ¬ t.kind = 1 := by omega
      have h2 : ¬ t.kind = 2 := by omega
      have h3 : ¬ t.kind = 3 := by omega
      simp [doT, h1, h2, h3]
    go_enter Try.func28, Try.ntmps28
    go_wp2_with fail
    rw [HW.out]
    refine c1.mono ?_
    rintro e wb' ⟨rfl, hq⟩
    subst hq
    clear c1
    cases a with
    | none =>
      have := hP0.none_nil
      subst this
      go_wp2
      go_ret2
      rw [HD.out]
      exact ⟨_, rfl, hown.mono (by omega), hB0⟩
    | some ad =>
      go_wp2_with (at_builtin; refine wpList_allP rfl (.tmp 19) (.tmp 20) 39 rfl (w.heap.size + 1) 46 Try.underlying39 Try.infoPair _ rfl hown ad cap L _ rfl hP0 hm (by omega) ?_; intro v4 w4 hown4 hgr4)
      go_ret2
      rw [HD.out]
      exact ⟨_, rfl, hown4.mono (by omega), hB0.grown hgr4 hB0.size (fun k e => by cases e; exact Nat.le_succ _)⟩
end Go.Proofs.Ytockgojdmaladab
