/- The program's DoTask over pairs whose keys go up. -/
import Derived.Test.YtogfkbkfcelgcaoAscPlain
import Derived.Test.YtogfkbkfcelgcaoIdxPair
import Derived.Test.YtogfkbkfcelgcaoInsPair
import Derived.Test.YtogfkbkfcelgcaoDelPair
namespace Go.Proofs.Ytogfkbkfcelgcao
open Go.RowKit Go.Sort

theorem wpList_allP0 {P : Program} {ops : Array Oper} {rest : List Oper} {o : Oper} {a : Act} {Q : Exit → Act → World → Prop} {w : World} (hgd : o.guard = none) (s x : Operand) (t : TypeId)
    (ho : o.op = .call { callee := .builtin .append, args := #[s, x], argTypes := #[t, t] }) (base : Nat) (e : TypeId) (ht : P.underlying t = some (.slice e))
    (hinfo : (P.info? e).map (fun i => (i.zero, i.size, i.bytes)) = some (some (.agg #[.int .i64 0, .int .i64 0]), 2, 16)) (v : Value) (hs : a.eval s = v) (hown : OwnP w base e v [])
    (a0 : Option Addr) (cap : Nat) (l : List (Int × Int)) (B : Nat) (hx : a.eval x = .slice a0 l.length cap) (hI : PAt w a0 l B) (hlen : l.length ≤ 1048576) (hbase : base ≤ w.heap.size)
    (h : ∀ v' w', OwnP w' base e v' l → w.grownBy w' v.ownBlock → wpList P ops Q rest (a.put o.dst v') w') :
    wpList P ops Q (o :: rest) a w := by
  cases a0 with
  | some ad => exact wpList_allP hgd s x t ho base e ht hinfo v hs hown ad cap l B hx hI hlen hbase h
  | none =>
    have := hI.none_nil
    subst this
    obtain ⟨i0, hi, hz0, hz1, hz2⟩ := info_parts hinfo
    refine wpList_plain hgd fun K hK => ?_
    have hrun : (Builtin.append_ #[t, t] o.type #[v, .slice none 0 cap]).run P w = .ok v w := by
      rcases hown.2 with ⟨rfl, _⟩ | ⟨g, cp, cur, rfl, _, _, hnc, _⟩
      · simp [Builtin.append_, run_underlying ht, sizeOf, typeInfo, hi, Builtin.lenOf, Builtin.firstCells]
      · simp [Builtin.append_, run_underlying ht, sizeOf, typeInfo, hi, Builtin.lenOf, Builtin.firstCells, storeCells]
    unfold Oper.wp
    simp at hx
    simp [execOp, ho, resolve, invoke, builtin, hs, hx, hrun, Result.andThen]
    exact hK _ _ (h v w hown ⟨rfl, rfl, rfl, Nat.le_refl _, fun _ _ _ => rfl⟩)

theorem keyIs_any (w : World) (T : Nat) (t : Tk) (hT : TBox w T t) (W : World) (x : Int × Int) (hb : Below w.heap.size w W) :
    Calls Try.prog 54 (#[.agg #[.int .i64 x.1, .int .i64 x.2]] ++ #[.pointer (some ⟨T, 0, none⟩)]) W fun e w' => e = .returned (.bool (decide (x.1 = t.key))) ∧ Below w.heap.size w w' := by
  obtain ⟨_, b1, _⟩ := (hT.on hb).cells
  have hlt : T < W.heap.size := Nat.lt_of_lt_of_le hT.lt hb.size
  have b1' : (W.alloc (.cells #[.int .i64 x.1, .int .i64 x.2] 87)).cell? ⟨T, 1, none⟩ = some (.int .i64 t.key) := (World.cell?_alloc_past (w := W) _ T 1 hlt).trans b1
  go_enter Try.func54, Try.ntmps54
  go_wp2
  go_ret
  exact ⟨rfl, hb.trans ((Below.refl _ _).alloc hb.size _)⟩
theorem keyOver_any (w : World) (B : Nat) (f : Int × Int) (hB : w.heap[B]? = some (.cells #[.int .i64 f.1, .int .i64 f.2] 87 (0, 0))) (W : World) (x : Int × Int) (hb : Below w.heap.size w W) :
    Calls Try.prog 73 (#[.agg #[.int .i64 x.1, .int .i64 x.2]] ++ #[.pointer (some ⟨B, 0, none⟩)]) W fun e w' => e = .returned (.bool (decide (f.1 < x.1))) ∧ Below w.heap.size w w' := by
  have hlw : B < w.heap.size := (Array.getElem?_eq_some_iff.1 hB).1
  have b1 : W.cell? ⟨B, 0, none⟩ = some (.int .i64 f.1) := by simp [World.cell?, hb.block B hlw, hB]
  have hlt : B < W.heap.size := Nat.lt_of_lt_of_le hlw hb.size
  have b1' : (W.alloc (.cells #[.int .i64 x.1, .int .i64 x.2] 87)).cell? ⟨B, 0, none⟩ = some (.int .i64 f.1) := (World.cell?_alloc_past (w := W) _ B 0 hlt).trans b1
  go_enter Try.func73, Try.ntmps73
  go_wp2
  go_ret
  exact ⟨rfl, hb.trans ((Below.refl _ _).alloc hb.size _)⟩

set_option maxRecDepth 100000 in
set_option maxHeartbeats 4000000 in
/-- The place of a pair is found, and it is put there. -/
theorem putPair_any (w : World) (base : Nat) (v : Value) (L : List (Int × Int)) (f : Int × Int) (ho : OwnP w base 87 v L) (hbase : base ≤ w.heap.size) (hm : L.length ≤ 1048577) :
    Calls Try.prog 55 #[v, .agg #[.int .i64 f.1, .int .i64 f.2]] w fun e w' => ∃ (v' : Value) (i : Nat), e = .returned v' ∧ i ≤ L.length ∧ (∀ j (hj : j < L.length), j < i → decide (f.1 < L[j].1) = false) ∧ (∀ (hl : i < L.length), decide (f.1 < L[i].1) = true) ∧
      OwnP w' base 87 v' (L.take i ++ f :: L.drop i) ∧ Below base w w' := by
  obtain ⟨w1, hw1⟩ : ∃ w1, w.alloc (.cells #[.int .i64 f.1, .int .i64 f.2] 87) = w1 := ⟨_, rfl⟩
  have hb1 : Below w.heap.size w w1 := by rw [← hw1]; exact (Below.refl _ _).alloc (Nat.le_refl _) _
  have hB1 : w1.heap[w.heap.size]? = some (.cells #[.int .i64 f.1, .int .i64 f.2] 87 (0, 0)) := by rw [← hw1]; exact heap_alloc_new w _
  have ho1 : OwnP w1 base 87 v L := ho.below hb1 (Nat.le_refl _)
  have HW : Hid (w.alloc (.cells #[.int .i64 f.1, .int .i64 f.2] 87) = w1) := hw1
  obtain ⟨a, cap, hva, hP⟩ := ho1.at
  have c1 := indexP_any 73 #[.pointer (some ⟨w.heap.size, 0, none⟩)] (fun x => decide (f.1 < x.1)) (enters_of Try.func73 (by kernel_rfl) rfl) w1 a cap L hP (by omega) (fun W x hb => keyOver_any w1 w.heap.size f hB1 W x hb)
  rw [← hva] at c1
  have hown : Hid (∀ wi, Below w1.heap.size w1 wi → OwnP wi base 87 v L ∧ wi.heap[w.heap.size]? = some (.cells #[.int .i64 f.1, .int .i64 f.2] 87 (0, 0)) ∧ Below w.heap.size w wi ∧ w1.heap.size ≤ wi.heap.size) := fun wi hi =>
    ⟨ho1.below hi (Nat.le_refl _), (hi.block _ (by rw [← hw1]; simp)).trans hB1, hb1.trans (hi.mono hb1.size), hi.size⟩
  have hlt : Hid (∀ k, v.ownBlock = some k → k < w.heap.size) := fun k hk => (ho.lt k hk).2
  have hs1 : Hid (w.heap.size < w1.heap.size) := by show _ < _; rw [← hw1]; simp
  have HL : Hid (L.length ≤ 1048577 ∧ base ≤ w.heap.size) := ⟨hm, hbase⟩
  have hlen : ∃ a cap, v = .slice a L.length cap := ⟨a, cap, hva⟩
  have hvs : v = .slice a L.length cap := hva
  clear hw1 ho1 hP ho hb1 hB1 hva
  subst hvs
  obtain ⟨S, hS⟩ : ∃ S, w.heap.size = S := ⟨_, rfl⟩
  rw [hS] at c1 hown hlt hs1 HL
  have HS : Hid (w.heap.size = S) := hS
  clear hS hlen
  go_enter Try.func55, Try.ntmps55
  go_wp2_with fail
  rw [HW.out, HS.out]
  refine c1.mono ?_
  rintro e w2 ⟨rfl, hb2⟩
  obtain ⟨hown2, hB2, hbb2, hsz2⟩ := hown.out w2 hb2
  have hd0 : w2.cell? ⟨S, 0, none⟩ = some (.int .i64 f.1) := by simp [World.cell?, hB2]
  have hd1 : w2.cell? ⟨S, 1, none⟩ = some (.int .i64 f.2) := by simp [World.cell?, hB2]
  obtain ⟨w3, hw3⟩ : ∃ w3, w2.alloc (.cells #[.int .i64 f.1, .int .i64 f.2] 87) = w3 := ⟨_, rfl⟩
  have hb3 : Below w2.heap.size w2 w3 := by rw [← hw3]; exact (Below.refl _ _).alloc (Nat.le_refl _) _
  have hV3 : w3.heap[w2.heap.size]? = some (.cells #[.int .i64 f.1, .int .i64 f.2] 87 (0, 0)) := by rw [← hw3]; exact heap_alloc_new w2 _
  have hown3 := hown2.below hb3 (Nat.le_refl _)
  have HW3 : Hid (w2.alloc (.cells #[.int .i64 f.1, .int .i64 f.2] 87) = w3) := hw3
  have hbs : base ≤ w3.heap.size := by have := HL.out.2; have := hs1.out; have := hb3.size; omega
  have hne : (Value.slice a L.length cap).ownBlock ≠ some w2.heap.size := fun e => by have h := hlt.out _ e; have := hs1.out; omega
  have c3 := fun i hi => insertP_any w3 base (.slice a L.length cap) L i f w2.heap.size hown3 hbs HL.out.1 hi hV3 hne
  have HB : Hid (Below base w w3) := (hbb2.mono HL.out.2).trans (hb3.mono (by have := HL.out.2; have := hs1.out; omega))
  obtain ⟨V, hV⟩ : ∃ V, w2.heap.size = V := ⟨_, rfl⟩
  rw [hV] at c3
  have HV : Hid (w2.heap.size = V) := hV
  clear hw3 hb3 hV3 hown3 hbs hne c1 hown2 hB2 hbb2 hsz2 hV hb2
  rcases idxP_cases (fun x : Int × Int => decide (f.1 < x.1)) L with ⟨k, hk, he, hp, hno⟩ | ⟨he, hno⟩
  · rw [he]
    have c4 := c3 k (by omega)
    have HH : Hid (∀ j (hj : j < L.length), j < k → decide (f.1 < L[j].1) = false) := fun j hj h => hno j h
    have HP : Hid (k < L.length ∧ decide (f.1 < L[k].1) = true) := ⟨hk, hp⟩
    clear c3 he hp hno
    have hz : ¬ ((k : Int) < 0) := by omega
    go_wp2_with fail
    rw [HW3.out, HV.out]
    refine c4.mono ?_
    rintro e w4 ⟨v4, rfl, ho4, hb4⟩
    go_wp2
    go_ret
    exact ⟨v4, k, rfl, by omega, HH.out, fun _ => HP.out.2, ho4, HB.out.trans hb4⟩
  · rw [he]
    have c4 := c3 L.length (Nat.le_refl _)
    have HH : Hid (∀ x ∈ L, decide (f.1 < x.1) = false) := hno
    clear c3 he hno
    go_wp2_with fail
    rw [HW3.out, HV.out]
    refine c4.mono ?_
    rintro e w4 ⟨v4, rfl, ho4, hb4⟩
    go_wp2
    go_ret
    exact ⟨v4, L.length, rfl, Nat.le_refl _, fun j hj _ => HH.out _ (List.getElem_mem _), fun h => absurd h (Nat.lt_irrefl _), ho4, HB.out.trans hb4⟩

set_option maxRecDepth 100000 in
set_option maxHeartbeats 4000000 in
theorem implDoTask_asc (w : World) (a : Option Addr) (cap : Nat) (L : List (Int × Int)) (t : Tk) (hL : PAt w a L w.heap.size) (hm : L.length ≤ 1048576) (hasc : Asc L) :
    Calls Try.prog 40 #[.slice a L.length cap, .agg (tcs t)] w fun e w' => ∃ v, e = .returned (.tuple #[v, .int .i64 (doT L t).2]) ∧ OwnP w' w.heap.size 87 v (doT L t).1 ∧ Below w.heap.size w w' := by
  obtain ⟨wt, hwt⟩ : ∃ wt, w.alloc (.cells (tcs t) 45) = wt := ⟨_, rfl⟩
  have hbt : Below w.heap.size w wt := by rw [← hwt]; exact (Below.refl _ _).alloc (Nat.le_refl _) _
  have hTt : TBox wt w.heap.size t := by rw [← hwt]; exact TBox.new _ _
  obtain ⟨wb, hwb⟩ : ∃ wb, wt.alloc (.cells #[] 87) = wb := ⟨_, rfl⟩
  have hbb : Below wt.heap.size wt wb := by rw [← hwb]; exact (Below.refl _ _).alloc (Nat.le_refl _) _
  have hst : wt.heap.size = w.heap.size + 1 := by rw [← hwt]; simp
  have hown : OwnP wb (w.heap.size + 1) 87 (.slice (some ⟨w.heap.size + 1, 0, none⟩) 0 0) [] := by rw [← hwb, ← hst]; exact ownP_empty wt
  have hB : Below w.heap.size w wb := hbt.trans (hbb.mono hbt.size)
  have hTb := hTt.on hbb
  have hLb : PAt wb a L wb.heap.size := hL.on hB
  have HW : Hid ((w.alloc (.cells #[.int .i64 t.kind, .int .i64 t.key, .int .i64 t.val, .int .i64 t.node, .int .i64 t.pc, .int .i64 t.prev, .int .i64 t.cur, .int .i64 t.next, .int .i64 t.mark, .bool t.done, .int .i64 t.ans] 45)).alloc (.cells #[] 87) = wb) := by rw [← hwb, ← hwt]; rfl
  have hsb : w.heap.size + 1 < wb.heap.size := by rw [← hwb]; simp; omega
  clear hwt hbt hTt hwb hbb hst hL
  obtain ⟨S, hS⟩ : ∃ S, w.heap.size = S := ⟨_, rfl⟩
  have HS : Hid (w.heap.size = S) := hS
  rw [hS] at hown hTb hsb hB
  unfold tcs
  go_enter Try.func40, Try.ntmps40
  go_wp2_with (at_builtin; rw [HW.out]; refine wpList_allP0 rfl (.tmp 8) (.tmp 9) 66 rfl (S + 1) 87 Try.underlying66 Try.infoPair _ rfl hown a cap L _ rfl hLb hm (by omega) ?_; intro v4 w4 hown4 hgr4)
  have hS4 : S < w4.heap.size := Nat.lt_of_lt_of_le (by omega) hgr4.size
  have hB4 : Below S w w4 := hB.grown hgr4 (by omega) (fun k e => by cases e; exact Nat.le_succ _)
  have hT4 : TBox w4 S t := hTb.kept (hgr4.block S (by omega) (fun e => by cases e))
  obtain ⟨y, cy, hv4, hP4⟩ := hown4.at
  have c1 := indexP_any 54 #[.pointer (some ⟨S, 0, none⟩)] (fun x => decide (x.1 = t.key)) (enters_of Try.func54 (by kernel_rfl) rfl) w4 y cy L hP4 (by omega) (fun W x hb => keyIs_any w4 S t hT4 W x hb)
  rw [← hv4] at c1
  have HB : Hid (∀ wi, Below w4.heap.size w4 wi → OwnP wi (S + 1) 87 v4 L ∧ TBox wi S t ∧ Below S w wi ∧ PAt wi y L wi.heap.size ∧ S < wi.heap.size) := fun wi hi =>
    ⟨hown4.below hi (Nat.le_refl _), hT4.on hi, hB4.trans (hi.mono (by omega)), hP4.on hi, Nat.lt_of_lt_of_le hS4 hi.size⟩
  have HL : Hid (L.length ≤ 1048576 ∧ Asc L ∧ L.length ≤ 1048577) := ⟨hm, hasc, by omega⟩
  clear hown hTb hsb hB hLb hgr4 hP4 hT4 hB4 hown4 hS4 hasc
  clear hS
  refine c1.mono ?_
  rintro e w5 ⟨rfl, hb5⟩
  obtain ⟨hown5, hT5, hB5, hP5, hS5⟩ := HB.out w5 hb5
  obtain ⟨b0, b1, b2, _⟩ := hT5.cells
  clear c1 hb5 HB hT5
  subst hv4
  rcases idxP_cases (fun x : Int × Int => decide (x.1 = t.key)) L with ⟨k, hk, he, hp, hno⟩ | ⟨he, hno⟩
  · rw [he]
    have hkey : L[k].1 = t.key := by simpa using hp
    have hhas : hasP L t.key = true := has_at hk hkey
    clear he hp hno
    have hz : (0 : Int) ≤ (k : Int) := by omega
    have hz' : ¬ ((k : Int) < 0) := by omega
    by_cases h1 : t.kind = 1
    · have HD : Hid (doT L t = (L, wrap64 (L[k].2 + 1))) := by show _ = _; simp only [doT, h1, if_pos]; rw [← hkey, ans_at HL.out.2.1 hk]
      have HO : Hid (OwnP w5 (S + 1) 87 (.slice y L.length cy) L ∧ Below S w w5) := ⟨hown5, hB5⟩
      obtain ⟨g, off, rfl, _, q0, q1⟩ := hP5 k hk
      obtain ⟨pv, hpv⟩ : ∃ pv, L[k].2 = pv := ⟨_, rfl⟩
      rw [hpv] at q1 HD
      rw [h1] at b0
      have hi2 : (k : Int) < (L.length : Int) := by omega
      clear hown5 hB5 hP5 q0
      go_wp2
      go_quiet (fail)
      go_wp2
      go_ret2
      rw [HD.out, HS.out]
      exact ⟨_, rfl, (HO.out.1.kept fun _ _ => rfl).mono (Nat.le_succ S), HO.out.2.trans ⟨rfl, rfl, rfl, Nat.le_refl _, fun _ _ => rfl⟩⟩
    · by_cases h3 : t.kind = 3
      · have HD : Hid (doT L t = (L.take k ++ L.drop (k + 1), 1)) := by show _ = _; simp only [doT, h3, hhas]; rw [← hkey, erase_at HL.out.2.1 hk]; simp
        have c2 := deleteP_any w5 (S + 1) _ L k hown5 hk
        rw [h3] at b0
        have HO : Hid (Below S w w5) := hB5
        have hw1 : IntKind.i64.wrap ((k : Int) + 1) = (k : Int) + 1 := by rw [IntKind.wrap_i64]; omega
        clear hown5 hB5 hP5 hhas
        have C2 : Hid _ := c2
        clear c2
        go_wp2_with fail
        refine Calls.mono C2.out ?_
        rintro e w6 ⟨v6, rfl, ho6, hb6⟩
        go_wp2
        go_ret2
        rw [HD.out, HS.out]
        exact ⟨_, rfl, ho6.mono (Nat.le_succ S), HO.out.trans (hb6.mono (Nat.le_succ S))⟩
      · have HD : Hid (doT L t = (L, 0)) := by
          show _ = _
          unfold doT
          by_cases h2 : t.kind = 2
          · simp [h2, hhas]
          · simp [h1, h2, h3]
        have d1 : decide (t.kind = 1) = false := decide_eq_false h1
        have d3 : decide (t.kind = 3) = false := decide_eq_false h3
        have HO : Hid (OwnP w5 (S + 1) 87 (.slice y L.length cy) L ∧ Below S w w5) := ⟨hown5, hB5⟩
        clear hown5 hB5 hP5 hhas
        by_cases h2 : t.kind = 2
        · rw [h2] at b0
          go_wp2
          go_ret2
          rw [HD.out, HS.out]
          exact ⟨_, rfl, HO.out.1.mono (Nat.le_succ S), HO.out.2⟩
        · have d2 : decide (t.kind = 2) = false := decide_eq_false h2
          go_wp2
          go_ret2
          rw [HD.out, HS.out]
          exact ⟨_, rfl, HO.out.1.mono (Nat.le_succ S), HO.out.2⟩
  · rw [he]
    have hhas := has_no hno
    by_cases h2 : t.kind = 2
    · have c2 := putPair_any w5 (S + 1) _ L (t.key, t.val) hown5 (by omega) HL.out.2.2
      rw [h2] at b0
      have HO : Hid (Below S w w5) := hB5
      have HN : Hid (∀ x ∈ L, decide (x.1 = t.key) = false) := hno
      have HH : Hid (hasP L t.key = false) := hhas.1
      clear hown5 hB5 hP5 hno he hhas
      dsimp only at c2
      have C2 : Hid _ := c2
      clear c2
      go_wp2_with fail
      refine Calls.mono C2.out ?_
      rintro e w6 ⟨v6, i, rfl, hi, hbe, haf, ho6, hb6⟩
      have hins := insert_at HL.out.2.1 HN.out hi (fun j hj => hbe j (by omega) hj) haf
      have HD : Hid (doT L t = (L.take i ++ (t.key, t.val) :: L.drop i, 1)) := by show _ = _; unfold doT; rw [if_neg (by omega), if_pos h2, HH.out, hins.1, hins.2]; rfl
      clear hins hbe haf
      go_wp2
      go_ret2
      rw [HD.out, HS.out]
      exact ⟨_, rfl, ho6.mono (Nat.le_succ S), HO.out.trans (hb6.mono (Nat.le_succ S))⟩
    · have HD : Hid (doT L t = (L, 0)) := by
        show _ = _
        unfold doT
        by_cases h1 : t.kind = 1
        · simp [h1, hhas.2]
        · by_cases h3 : t.kind = 3
          · have hf : L.filter (fun p => !decide (p.1 = t.key)) = L := List.filter_eq_self.2 fun x hx => by rw [hno x hx]; rfl
            simp only [h3, hhas.1, hf]
            simp
          · simp [h1, h2, h3]
      have d2 : decide (t.kind = 2) = false := decide_eq_false h2
      have HO : Hid (OwnP w5 (S + 1) 87 (.slice y L.length cy) L ∧ Below S w w5) := ⟨hown5, hB5⟩
      clear hown5 hB5 hP5 hhas hno he
      by_cases h1 : t.kind = 1
      · rw [h1] at b0
        go_wp2
        go_ret2
        rw [HD.out, HS.out]
        exact ⟨_, rfl, HO.out.1.mono (Nat.le_succ S), HO.out.2⟩
      · have d1 : decide (t.kind = 1) = false := decide_eq_false h1
        by_cases h3 : t.kind = 3
        · rw [h3] at b0
          go_wp2
          go_ret2
          rw [HD.out, HS.out]
          exact ⟨_, rfl, HO.out.1.mono (Nat.le_succ S), HO.out.2⟩
        · have d3 : decide (t.kind = 3) = false := decide_eq_false h3
          go_wp2
          go_ret2
          rw [HD.out, HS.out]
          exact ⟨_, rfl, HO.out.1.mono (Nat.le_succ S), HO.out.2⟩
end Go.Proofs.Ytogfkbkfcelgcao
