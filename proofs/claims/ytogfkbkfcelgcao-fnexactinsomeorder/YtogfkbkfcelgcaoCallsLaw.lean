/- What a law does with calls: it copies them and compares them. Written by mkcalllaw.py. -/
import Derived.Test.YtogfkbkfcelgcaoCallKit
import Derived.Test.YtogfkbkfcelgcaoConcatK
import Derived.Test.YtogfkbkfcelgcaoTaskLaw
import Derived.Lib.QuietBelow
import Derived.BigQuiet
namespace Go.Proofs.Ytogfkbkfcelgcao
open Go.RowKit Go.Sort

def Cl.zero : Cl := ⟨⟨0, 0, 0, 0, 0, 0, 0, 0, 0, false, 0⟩, 0, 0⟩
theorem cll_zero (n : Nat) : (madeCells (Value.agg #[.int .i64 0, .int .i64 0, .int .i64 0, .int .i64 0, .int .i64 0, .int .i64 0, .int .i64 0, .int .i64 0, .int .i64 0, .bool false, .int .i64 0, .int .i64 0, .int .i64 0]).cells (n * 13)).toList = cll (List.replicate n Cl.zero) := by
  have hz : (Value.agg #[.int .i64 0, .int .i64 0, .int .i64 0, .int .i64 0, .int .i64 0, .int .i64 0, .int .i64 0, .int .i64 0, .int .i64 0, .bool false, .int .i64 0, .int .i64 0, .int .i64 0]).cells = (Cl.zero.cells).toArray := rfl
  rw [hz]
  apply List.ext_getElem?
  intro j
  by_cases hj : j < n * 13
  · have e2 : (cll (List.replicate n Cl.zero))[j]? = Cl.zero.cells[j % 13]? := by
      clear hz
      induction n generalizing j with
      | zero => omega
      | succ n ih =>
        rw [List.replicate_succ, cll_cons]
        by_cases h13 : j < 13
        · rw [List.getElem?_append_left (by simp [Cl.cells]; omega), Nat.mod_eq_of_lt h13]
        · rw [List.getElem?_append_right (by simp [Cl.cells]; omega), show (Cl.zero.cells).length = 13 from rfl, ih (j - 13) (by omega)]
          congr 1
          omega
    rw [e2]
    have h13 : j % 13 < 13 := Nat.mod_lt _ (by omega)
    have hs : (Cl.zero.cells).toArray.size = 13 := rfl
    simp [madeCells, hj]
    have hl : (Cl.zero.cells).length = 13 := rfl
    rw [hl]
    rw [List.getElem?_eq_getElem (by rw [hl]; exact h13)]
    rfl
  · rw [List.getElem?_eq_none, List.getElem?_eq_none]
    · rw [cll_length]; simp; omega
    · simp [madeCells]; omega
/-- 'make([]Call, n)'. -/
theorem make_calls {P : Program} (w : World) (t e : TypeId) (ht : P.underlying t = some (.slice e)) (hinfo : (P.info? e).map (fun i => (i.zero, i.size, i.bytes)) = some (some (.agg #[.int .i64 0, .int .i64 0, .int .i64 0, .int .i64 0, .int .i64 0, .int .i64 0, .int .i64 0, .int .i64 0, .int .i64 0, .bool false, .int .i64 0, .int .i64 0, .int .i64 0]), 13, 104)) (n : Nat) (hn : n ≤ 1048576) :
    ∃ w', (Instr.makeSlice t (.int .i64 (n : Int)) (.int .i64 (n : Int))).run P w = .ok (.slice (some ⟨w.heap.size, 0, none⟩) n n) w' ∧ OwnK w' w.heap.size e (.slice (some ⟨w.heap.size, 0, none⟩) n n) (List.replicate n Cl.zero) ∧ Below w.heap.size w w' := by
  obtain ⟨i0, hi, hz0, hz1, hz2⟩ := info_parts hinfo
  obtain ⟨w', h1, h2, h3⟩ := run_make_full w w.heap.size t e i0 _ 13 ht hi hz0 hz1 .i64 .i64 n (by rw [hz2]; omega) (by unfold maxLen; omega) (Nat.le_refl _)
  refine ⟨w', h1, ?_, ⟨h3.os, h3.tape, h3.output, h3.size, fun j hj => h3.block j hj (by simp)⟩⟩
  unfold OwnK
  rw [List.length_replicate, ← cll_zero]
  exact h2
theorem row13_there {w : World} {base : Nat} {e : TypeId} {g n cap : Nat} {xs : List Value} (h : w.ownsRow base e 13 (.slice (some ⟨g, 0, none⟩) n cap) n xs) (i : Nat) (hi : i < n * 13) : ∃ u, w.cell? ⟨g, i, none⟩ = some u ∧ w.frozen? ⟨g, i, none⟩ = false := by
  refine ⟨xs[i]'(by rw [h.1]; exact hi), ?_, World.ownsRow.frozenAt h i⟩
  rw [World.ownsRow.cellAt h i hi, List.getElem?_eq_getElem (by rw [h.1]; exact hi)]
theorem take_set_zk (L : List Cl) (k : Nat) (h : k < L.length) (f : Cl) (hf : L[k] = f) : (L.take k ++ List.replicate (L.length - k) Cl.zero).set k f = L.take (k + 1) ++ List.replicate (L.length - (k + 1)) Cl.zero := by
  subst hf
  rw [List.set_append_right _ _ (by simp; omega), List.length_take, show k - min k L.length = 0 by omega, show L.length - k = (L.length - (k + 1)) + 1 by omega, List.replicate_succ, List.set_cons_zero, List.take_succ_eq_append_getElem h]
  rw [List.append_assoc]
  rfl

theorem szCallS_any (w : World) (a : Option Addr) (cap n : Nat) (left : Int) (h0 : 0 ≤ left) (h1 : left ≤ 1048576) (hm : n ≤ maxLen) :
    Calls Try.prog 18 #[.slice a n cap, .int .i64 left] w fun e w' => ∃ r : Int, e = .returned (.int .i64 r) ∧ (r = -1 ∨ 0 ≤ r ∧ r + (n : Int) = left) ∧ w' = w := by
  unfold maxLen at hm
  by_cases hA : left - n < 0
  · go_enter Try.func18, Try.ntmps18
    go_wp2
    go_ret
    exact ⟨_, rfl, .inl rfl, rfl⟩
  · go_enter Try.func18, Try.ntmps18
    go_wp2
    go_ret
    exact ⟨_, rfl, .inr ⟨by omega, by omega⟩, rfl⟩
set_option maxRecDepth 100000 in
set_option maxHeartbeats 4000000 in
theorem toCall_any (w : World) (f : Cl) :
    Calls Try.prog 38 #[.agg #[.int .i64 f.t.kind, .int .i64 f.t.key, .int .i64 f.t.val, .int .i64 f.t.node, .int .i64 f.t.pc, .int .i64 f.t.prev, .int .i64 f.t.cur, .int .i64 f.t.next, .int .i64 f.t.mark, .bool f.t.done, .int .i64 f.t.ans, .int .i64 f.bg, .int .i64 f.nd]] w fun e w' => e = .returned (.agg #[.int .i64 f.t.kind, .int .i64 f.t.key, .int .i64 f.t.val, .int .i64 f.t.node, .int .i64 f.t.pc, .int .i64 f.t.prev, .int .i64 f.t.cur, .int .i64 f.t.next, .int .i64 f.t.mark, .bool f.t.done, .int .i64 f.t.ans, .int .i64 f.bg, .int .i64 f.nd]) ∧ Below w.heap.size w w' := by
  obtain ⟨w0, hw0⟩ : ∃ x, w.alloc (.cells #[.int .i64 f.t.kind, .int .i64 f.t.key, .int .i64 f.t.val, .int .i64 f.t.node, .int .i64 f.t.pc, .int .i64 f.t.prev, .int .i64 f.t.cur, .int .i64 f.t.next, .int .i64 f.t.mark, .bool f.t.done, .int .i64 f.t.ans, .int .i64 f.bg, .int .i64 f.nd] 69) = x := ⟨_, rfl⟩
  obtain ⟨w1, hw1⟩ : ∃ x, w0.alloc (.cells #[.int .i64 0, .int .i64 0, .int .i64 0, .int .i64 0, .int .i64 0, .int .i64 0, .int .i64 0, .int .i64 0, .int .i64 0, .bool false, .int .i64 0, .int .i64 0, .int .i64 0] 50) = x := ⟨_, rfl⟩
  obtain ⟨w2, hw2⟩ : ∃ x, w1.alloc (.cells #[.int .i64 0, .int .i64 0, .int .i64 0, .int .i64 0, .int .i64 0, .int .i64 0, .int .i64 0, .int .i64 0, .int .i64 0, .bool false, .int .i64 0, .int .i64 0, .int .i64 0] 50) = x := ⟨_, rfl⟩
  have s0 : w0.heap.size = w.heap.size + 1 := by rw [← hw0]; simp
  have s1 : w1.heap.size = w.heap.size + 1 + 1 := by rw [← hw1]; simp; omega
  have s2 : w2.heap.size = w.heap.size + 3 := by rw [← hw2]; simp; omega
  have g0 : w2.heap[w.heap.size]? = some (.cells #[.int .i64 f.t.kind, .int .i64 f.t.key, .int .i64 f.t.val, .int .i64 f.t.node, .int .i64 f.t.pc, .int .i64 f.t.prev, .int .i64 f.t.cur, .int .i64 f.t.next, .int .i64 f.t.mark, .bool f.t.done, .int .i64 f.t.ans, .int .i64 f.bg, .int .i64 f.nd] 69 (0, 0)) := by
    rw [← hw2, Below.heap_alloc w1 _ _ (by omega), ← hw1, Below.heap_alloc w0 _ _ (by omega), ← hw0]; exact heap_alloc_new w _
  have g1 : w2.heap[w.heap.size + 1]? = some (.cells #[.int .i64 0, .int .i64 0, .int .i64 0, .int .i64 0, .int .i64 0, .int .i64 0, .int .i64 0, .int .i64 0, .int .i64 0, .bool false, .int .i64 0, .int .i64 0, .int .i64 0] 50 (0, 0)) := by
    rw [← hw2, Below.heap_alloc w1 _ _ (by omega), ← hw1, ← s0]; exact heap_alloc_new w0 _
  have g2 : w2.heap[w.heap.size + 1 + 1]? = some (.cells #[.int .i64 0, .int .i64 0, .int .i64 0, .int .i64 0, .int .i64 0, .int .i64 0, .int .i64 0, .int .i64 0, .int .i64 0, .bool false, .int .i64 0, .int .i64 0, .int .i64 0] 50 (0, 0)) := by
    rw [← hw2, ← s1]; exact heap_alloc_new w1 _
  have hb : Below w.heap.size w w2 := by
    rw [← hw2, ← hw1, ← hw0]
    exact (((Below.refl w.heap.size w).alloc (Nat.le_refl _) _).alloc (by simp) _).alloc (by simp; omega) _
  have HW : Hid (((w.alloc (.cells #[.int .i64 f.t.kind, .int .i64 f.t.key, .int .i64 f.t.val, .int .i64 f.t.node, .int .i64 f.t.pc, .int .i64 f.t.prev, .int .i64 f.t.cur, .int .i64 f.t.next, .int .i64 f.t.mark, .bool f.t.done, .int .i64 f.t.ans, .int .i64 f.bg, .int .i64 f.nd] 69)).alloc (.cells #[.int .i64 0, .int .i64 0, .int .i64 0, .int .i64 0, .int .i64 0, .int .i64 0, .int .i64 0, .int .i64 0, .int .i64 0, .bool false, .int .i64 0, .int .i64 0, .int .i64 0] 50)).alloc (.cells #[.int .i64 0, .int .i64 0, .int .i64 0, .int .i64 0, .int .i64 0, .int .i64 0, .int .i64 0, .int .i64 0, .int .i64 0, .bool false, .int .i64 0, .int .i64 0, .int .i64 0] 50) = w2) := by rw [hw0, hw1]; exact hw2
  have HX : Hid (∀ wi, Below w2.heap.size w2 wi → wi.heap[w.heap.size]? = some (.cells #[.int .i64 f.t.kind, .int .i64 f.t.key, .int .i64 f.t.val, .int .i64 f.t.node, .int .i64 f.t.pc, .int .i64 f.t.prev, .int .i64 f.t.cur, .int .i64 f.t.next, .int .i64 f.t.mark, .bool f.t.done, .int .i64 f.t.ans, .int .i64 f.bg, .int .i64 f.nd] 69 (0, 0)) ∧ KBox wi (w.heap.size + 1) Cl.zero ∧ KBox wi (w.heap.size + 1 + 1) Cl.zero ∧ Below w.heap.size w wi) := fun wi hi =>
    ⟨(hi.block _ (by omega)).trans g0, (hi.block _ (by omega)).trans g1, (hi.block _ (by omega)).trans g2, hb.trans (hi.mono hb.size)⟩
  have c1 := toTask_any f.t w2
  unfold tcs at c1
  obtain ⟨q0, q1, q2, q3, q4, q5, q6, q7, q8, q9, q10, q11, q12⟩ : w2.cell? ⟨w.heap.size, 0, none⟩ = some (.int .i64 f.t.kind) ∧ w2.cell? ⟨w.heap.size, 1, none⟩ = some (.int .i64 f.t.key) ∧ w2.cell? ⟨w.heap.size, 2, none⟩ = some (.int .i64 f.t.val) ∧ w2.cell? ⟨w.heap.size, 3, none⟩ = some (.int .i64 f.t.node) ∧ w2.cell? ⟨w.heap.size, 4, none⟩ = some (.int .i64 f.t.pc) ∧ w2.cell? ⟨w.heap.size, 5, none⟩ = some (.int .i64 f.t.prev) ∧ w2.cell? ⟨w.heap.size, 6, none⟩ = some (.int .i64 f.t.cur) ∧ w2.cell? ⟨w.heap.size, 7, none⟩ = some (.int .i64 f.t.next) ∧ w2.cell? ⟨w.heap.size, 8, none⟩ = some (.int .i64 f.t.mark) ∧ w2.cell? ⟨w.heap.size, 9, none⟩ = some (.bool f.t.done) ∧ w2.cell? ⟨w.heap.size, 10, none⟩ = some (.int .i64 f.t.ans) ∧ w2.cell? ⟨w.heap.size, 11, none⟩ = some (.int .i64 f.bg) ∧ w2.cell? ⟨w.heap.size, 12, none⟩ = some (.int .i64 f.nd) := by refine ⟨by rw [cell_of_row w2 w.heap.size 0 _ _ (0, 0) g0]; rfl, by rw [cell_of_row w2 w.heap.size 1 _ _ (0, 0) g0]; rfl, by rw [cell_of_row w2 w.heap.size 2 _ _ (0, 0) g0]; rfl, by rw [cell_of_row w2 w.heap.size 3 _ _ (0, 0) g0]; rfl, by rw [cell_of_row w2 w.heap.size 4 _ _ (0, 0) g0]; rfl, by rw [cell_of_row w2 w.heap.size 5 _ _ (0, 0) g0]; rfl, by rw [cell_of_row w2 w.heap.size 6 _ _ (0, 0) g0]; rfl, by rw [cell_of_row w2 w.heap.size 7 _ _ (0, 0) g0]; rfl, by rw [cell_of_row w2 w.heap.size 8 _ _ (0, 0) g0]; rfl, by rw [cell_of_row w2 w.heap.size 9 _ _ (0, 0) g0]; rfl, by rw [cell_of_row w2 w.heap.size 10 _ _ (0, 0) g0]; rfl, by rw [cell_of_row w2 w.heap.size 11 _ _ (0, 0) g0]; rfl, by rw [cell_of_row w2 w.heap.size 12 _ _ (0, 0) g0]; rfl⟩
  clear hw0 hw1 hw2 s0 s1 s2 g0 g1 g2 hb
  go_enter Try.func38, Try.ntmps38
  obtain ⟨S, hS⟩ : ∃ S, w.heap.size = S := ⟨_, rfl⟩
  go_wp2_with fail
  rw [HW.out]
  rw [hS] at HX q0 q1 q2 q3 q4 q5 q6 q7 q8 q9 q10 q11 q12
  try rw [hS]
  have HS : Hid (w.heap.size = S) := hS
  clear hS HW q0 q1 q2 q3 q4 q5 q6 q7 q8 q9 q10 q11 q12
  refine c1.mono ?_
  rintro e w3 ⟨rfl, hb3⟩
  obtain ⟨g0, hR, hV, hB⟩ := HX.out w3 hb3
  clear c1 HX hb3
  have b11 : w3.cell? ⟨S, 11, none⟩ = some (.int .i64 f.bg) := by rw [cell_of_row w3 S 11 _ _ (0, 0) g0]; rfl
  have b12 : w3.cell? ⟨S, 12, none⟩ = some (.int .i64 f.nd) := by rw [cell_of_row w3 S 12 _ _ (0, 0) g0]; rfl
  obtain ⟨v0, v1, v2, v3, v4, v5, v6, v7, v8, v9, v10, v11, v12⟩ := hV.cells
  obtain ⟨r0, r1, r2, r3, r4, r5, r6, r7, r8, r9, r10, r11, r12⟩ := hR.cells
  dsimp only [Cl.zero] at v0 v1 v2 v3 v4 v5 v6 v7 v8 v9 v10 v11 v12 r0 r1 r2 r3 r4 r5 r6 r7 r8 r9 r10 r11 r12
  have vt0 := hV.thaw 0
  have rt0 := hR.thaw 0
  have vt1 := hV.thaw 1
  have rt1 := hR.thaw 1
  have vt2 := hV.thaw 2
  have rt2 := hR.thaw 2
  have vt3 := hV.thaw 3
  have rt3 := hR.thaw 3
  have vt4 := hV.thaw 4
  have rt4 := hR.thaw 4
  have vt5 := hV.thaw 5
  have rt5 := hR.thaw 5
  have vt6 := hV.thaw 6
  have rt6 := hR.thaw 6
  have vt7 := hV.thaw 7
  have rt7 := hR.thaw 7
  have vt8 := hV.thaw 8
  have rt8 := hR.thaw 8
  have vt9 := hV.thaw 9
  have rt9 := hR.thaw 9
  have vt10 := hV.thaw 10
  have rt10 := hR.thaw 10
  have vt11 := hV.thaw 11
  have rt11 := hR.thaw 11
  have vt12 := hV.thaw 12
  have rt12 := hR.thaw 12
  have HR : Hid (KBox w3 (S + 1) Cl.zero ∧ KBox w3 (S + 1 + 1) Cl.zero ∧ Below S w w3) := ⟨hR, hV, hB⟩
  clear hR hV hB g0
  have HK : Hid (KBox (put13 (put13 w3 (S + 1 + 1) f) (S + 1) f) (S + 1) f ∧ Below S w (put13 (put13 w3 (S + 1 + 1) f) (S + 1) f)) :=
    ⟨put13_box (HR.out.1.kept (put13_other w3 (S + 1 + 1) f (by omega))) f, put13_below (put13_below HR.out.2.2 (by omega) f) (by omega) f⟩
  go_wp2_with fail
  clear v0 v1 v2 v3 v4 v5 v6 v7 v8 v9 v10 v11 v12 r0 r1 r2 r3 r4 r5 r6 r7 r8 r9 r10 r11 r12 vt0 rt0 vt1 rt1 vt2 rt2 vt3 rt3 vt4 rt4 vt5 rt5 vt6 rt6 vt7 rt7 vt8 rt8 vt9 rt9 vt10 rt10 vt11 rt11 vt12 rt12 b11 b12
  obtain ⟨s0, s1, s2, s3, s4, s5, s6, s7, s8, s9, s10, s11, s12⟩ := HK.out.1.cells
  have hfin := HK.out.2
  unfold put13 at s0 s1 s2 s3 s4 s5 s6 s7 s8 s9 s10 s11 s12 hfin
  clear HK HR
  refine bodyPost_ret (v := .agg #[.int .i64 f.t.kind, .int .i64 f.t.key, .int .i64 f.t.val, .int .i64 f.t.node, .int .i64 f.t.pc, .int .i64 f.t.prev, .int .i64 f.t.cur, .int .i64 f.t.next, .int .i64 f.t.mark, .bool f.t.done, .int .i64 f.t.ans, .int .i64 f.bg, .int .i64 f.nd]) (by simp [results, Try.results38, go_sem, s0, s1, s2, s3, s4, s5, s6, s7, s8, s9, s10, s11, s12]) rfl ⟨rfl, ?_⟩
  rw [HS.out]
  exact hfin
set_option maxRecDepth 100000 in
set_option maxHeartbeats 2000000 in
theorem toCallS_any (w : World) (a : Option Addr) (cap : Nat) (L : List Cl) (hL : KAt w a L w.heap.size) (hm : L.length ≤ 1048576) :
    Calls Try.prog 20 #[.slice a L.length cap] w fun e w' => ∃ v, e = .returned v ∧ OwnK w' w.heap.size 50 v L ∧ Below w.heap.size w w' := by
  obtain ⟨w0, hmk, hown, hb0⟩ := make_calls (P := Try.prog) w 25 50 Try.underlying25 Try.infoCl L.length hm
  obtain ⟨G, hG⟩ : ∃ G, w.heap.size = G := ⟨_, rfl⟩
  rw [hG] at hmk hown
  go_enter Try.func20, Try.ntmps20
  go_wp2
  go_loopw [4] (fun i wr => Box (∃ (k : Nat), k ≤ L.length ∧ i = .int .i64 k ∧ OwnK wr G 50 (.slice (some ⟨G, 0, none⟩) L.length L.length) (L.take k ++ List.replicate (L.length - k) Cl.zero) ∧ Below w.heap.size w wr))
    (fun i _ => L.length - (intOf i).toNat)
  case atStart => exact ⟨⟨0, by omega, rfl, by simpa using hown, hb0⟩⟩
  case round =>
    obtain ⟨k, hk, rfl, hown1, hbel⟩ := hrel.out
    by_cases hlt : k < L.length
    · obtain ⟨g, off, rfl, hg, c0, c1, c2, c3, c4, c5, c6, c7, c8, c9, c10, c11, c12⟩ := (hL.below hbel (Nat.le_refl _)) k hlt
      have hset := take_set_zk L k hlt
      obtain ⟨f, hf⟩ : ∃ f, L[k] = f := ⟨_, rfl⟩
      rw [hf] at c0 c1 c2 c3 c4 c5 c6 c7 c8 c9 c10 c11 c12
      have c := toCall_any wr f
      have hlen : L.length = (L.take k ++ List.replicate (L.length - k) Cl.zero).length := by simp; omega
      have HX : Hid (∀ w1, Below wr.heap.size wr w1 → OwnK w1 G 50 (.slice (some ⟨G, 0, none⟩) L.length L.length) (L.take k ++ List.replicate (L.length - k) Cl.zero)) := fun w1 hb => hown1.below hb (Nat.le_refl _)
      have HS : Hid (L.length = (L.take k ++ List.replicate (L.length - k) Cl.zero).length ∧ (L.take k ++ List.replicate (L.length - k) Cl.zero).set k f = L.take (k + 1) ++ List.replicate (L.length - (k + 1)) Cl.zero) := ⟨hlen, hset f hf⟩
      clear hL hrel
      have hi1 : (0 : Int) ≤ (k : Int) := by omega
      have hi2 : (k : Int) < (L.length : Int) := by omega
      clear hmk hown hb0 hset hlen hown1
      go_wp2_with fail
      refine c.mono ?_
      rintro e w1 ⟨rfl, hb1⟩
      clear c0 c1 c2 c3 c4 c5 c6 c7 c8 c9 c10 c11 c12
      have hown2 := HX.out w1 hb1
      have hrow2 : w1.ownsRow G 50 13 (.slice (some ⟨G, 0, none⟩) L.length L.length) L.length (cll (L.take k ++ List.replicate (L.length - k) Cl.zero)) := by
        have h := hown2
        unfold OwnK at h
        rwa [← HS.out.1] at h
      obtain ⟨u0, s0, f0⟩ := row13_there hrow2 (k * 13) (by omega)
      obtain ⟨u1, s1, f1⟩ := row13_there hrow2 (k * 13 + 1) (by omega)
      obtain ⟨u2, s2, f2⟩ := row13_there hrow2 (k * 13 + 2) (by omega)
      obtain ⟨u3, s3, f3⟩ := row13_there hrow2 (k * 13 + 3) (by omega)
      obtain ⟨u4, s4, f4⟩ := row13_there hrow2 (k * 13 + 4) (by omega)
      obtain ⟨u5, s5, f5⟩ := row13_there hrow2 (k * 13 + 5) (by omega)
      obtain ⟨u6, s6, f6⟩ := row13_there hrow2 (k * 13 + 6) (by omega)
      obtain ⟨u7, s7, f7⟩ := row13_there hrow2 (k * 13 + 7) (by omega)
      obtain ⟨u8, s8, f8⟩ := row13_there hrow2 (k * 13 + 8) (by omega)
      obtain ⟨u9, s9, f9⟩ := row13_there hrow2 (k * 13 + 9) (by omega)
      obtain ⟨u10, s10, f10⟩ := row13_there hrow2 (k * 13 + 10) (by omega)
      obtain ⟨u11, s11, f11⟩ := row13_there hrow2 (k * 13 + 11) (by omega)
      obtain ⟨u12, s12, f12⟩ := row13_there hrow2 (k * 13 + 12) (by omega)

      clear hrow2
      have H2 : Hid _ := hown2
      clear hown2
      go_wp2
      go_roundw
      case rel =>
        try ((repeat apply Exists.intro); refine ⟨?_, rfl⟩)
        have h2 := OwnK.stored H2.out HS.out.1 k f
        rw [HS.out.2] at h2
        exact ⟨⟨k + 1, by omega, by go_num, h2.1, Below.grown (hbel.trans (hb1.mono hbel.size)) h2.2 (Nat.le_trans hbel.size hb1.size) (fun j hj => by simp at hj; omega)⟩⟩
      case measure => simp [intOf]; omega
    · go_wp2
      go_ret
      have hke : k = L.length := by omega
      subst hke
      simp only [List.take_length, Nat.sub_self, List.replicate_zero, List.append_nil] at hown1
      exact ⟨_, rfl, by rw [hG]; exact hown1, hbel⟩
set_option maxRecDepth 100000 in
theorem eqCall_same (w : World) (f : Cl) :
    Calls Try.prog 35 #[.agg #[.int .i64 f.t.kind, .int .i64 f.t.key, .int .i64 f.t.val, .int .i64 f.t.node, .int .i64 f.t.pc, .int .i64 f.t.prev, .int .i64 f.t.cur, .int .i64 f.t.next, .int .i64 f.t.mark, .bool f.t.done, .int .i64 f.t.ans, .int .i64 f.bg, .int .i64 f.nd], .agg #[.int .i64 f.t.kind, .int .i64 f.t.key, .int .i64 f.t.val, .int .i64 f.t.node, .int .i64 f.t.pc, .int .i64 f.t.prev, .int .i64 f.t.cur, .int .i64 f.t.next, .int .i64 f.t.mark, .bool f.t.done, .int .i64 f.t.ans, .int .i64 f.bg, .int .i64 f.nd]] w fun e w' => e = .returned (.bool true) ∧ Below w.heap.size w w' := by
  obtain ⟨w1, hw1⟩ : ∃ x, (w.alloc (.cells #[.int .i64 f.t.kind, .int .i64 f.t.key, .int .i64 f.t.val, .int .i64 f.t.node, .int .i64 f.t.pc, .int .i64 f.t.prev, .int .i64 f.t.cur, .int .i64 f.t.next, .int .i64 f.t.mark, .bool f.t.done, .int .i64 f.t.ans, .int .i64 f.bg, .int .i64 f.nd] 50)).alloc (.cells #[.int .i64 f.t.kind, .int .i64 f.t.key, .int .i64 f.t.val, .int .i64 f.t.node, .int .i64 f.t.pc, .int .i64 f.t.prev, .int .i64 f.t.cur, .int .i64 f.t.next, .int .i64 f.t.mark, .bool f.t.done, .int .i64 f.t.ans, .int .i64 f.bg, .int .i64 f.nd] 50) = x := ⟨_, rfl⟩
  have hb1 : Below w.heap.size w w1 := by rw [← hw1]; exact ((Below.refl w.heap.size w).alloc (Nat.le_refl _) _).alloc (by simp) _
  have hA : KBox w1 w.heap.size f := by
    have h := KBox.new w f
    rw [← hw1]
    exact h.kept (Below.heap_alloc _ _ _ (by simp))
  have hB : KBox w1 (w.heap.size + 1) f := by
    have h := KBox.new (w.alloc (.cells #[.int .i64 f.t.kind, .int .i64 f.t.key, .int .i64 f.t.val, .int .i64 f.t.node, .int .i64 f.t.pc, .int .i64 f.t.prev, .int .i64 f.t.cur, .int .i64 f.t.next, .int .i64 f.t.mark, .bool f.t.done, .int .i64 f.t.ans, .int .i64 f.bg, .int .i64 f.nd] 50)) f
    rw [hw1] at h
    simpa using h
  have HW : Hid ((w.alloc (.cells #[.int .i64 f.t.kind, .int .i64 f.t.key, .int .i64 f.t.val, .int .i64 f.t.node, .int .i64 f.t.pc, .int .i64 f.t.prev, .int .i64 f.t.cur, .int .i64 f.t.next, .int .i64 f.t.mark, .bool f.t.done, .int .i64 f.t.ans, .int .i64 f.bg, .int .i64 f.nd] 50)).alloc (.cells #[.int .i64 f.t.kind, .int .i64 f.t.key, .int .i64 f.t.val, .int .i64 f.t.node, .int .i64 f.t.pc, .int .i64 f.t.prev, .int .i64 f.t.cur, .int .i64 f.t.next, .int .i64 f.t.mark, .bool f.t.done, .int .i64 f.t.ans, .int .i64 f.bg, .int .i64 f.nd] 50) = w1) := hw1
  have c1 := eqTask_same f.t w1
  unfold tcs at c1
  clear hw1
  go_enter Try.func35, Try.ntmps35
  go_wp2_with fail
  rw [HW.out]
  refine c1.mono ?_
  rintro e w2 ⟨rfl, hb2⟩
  have a11 := (hA.on hb2).cells.2.2.2.2.2.2.2.2.2.2.2.1
  have a12 := (hA.on hb2).cells.2.2.2.2.2.2.2.2.2.2.2.2
  have e11 := (hB.on hb2).cells.2.2.2.2.2.2.2.2.2.2.2.1
  have e12 := (hB.on hb2).cells.2.2.2.2.2.2.2.2.2.2.2.2
  clear hA hB c1
  go_wp2_with fail
  go_ret
  exact ⟨rfl, hb1.trans (hb2.mono hb1.size)⟩
set_option maxRecDepth 100000 in
set_option maxHeartbeats 2000000 in
theorem eqCallS_same (w : World) (a b : Option Addr) (c1 c2 : Nat) (L : List Cl) (hA : KAt w a L w.heap.size) (hB : KAt w b L w.heap.size) (hl : L.length ≤ 1048577) :
    Calls Try.prog 11 #[.slice a L.length c1, .slice b L.length c2] w fun e w' => e = .returned (.bool true) ∧ Below w.heap.size w w' := by
  go_enter Try.func11, Try.ntmps11
  go_wp2
  go_loopw [5] (fun i wr => Box (∃ (k : Nat), k ≤ L.length ∧ i = .int .i64 k ∧ Below w.heap.size w wr))
    (fun i _ => L.length - (intOf i).toNat)
  case atStart => exact ⟨⟨0, by omega, rfl, Below.refl _ _⟩⟩
  case round =>
    obtain ⟨k, hk, rfl, hbel⟩ := hrel.out
    by_cases hlt : k < L.length
    · obtain ⟨g, off, rfl, hg, c0, c1, c2, c3, c4, c5, c6, c7, c8, c9, c10, c11, c12⟩ := (hA.below hbel (Nat.le_refl _)) k hlt
      obtain ⟨g', off', rfl, hg', d0, d1, d2, d3, d4, d5, d6, d7, d8, d9, d10, d11, d12⟩ := (hB.below hbel (Nat.le_refl _)) k hlt
      obtain ⟨f, hf⟩ : ∃ f, L[k] = f := ⟨_, rfl⟩
      rw [hf] at c0 c1 c2 c3 c4 c5 c6 c7 c8 c9 c10 c11 c12 d0 d1 d2 d3 d4 d5 d6 d7 d8 d9 d10 d11 d12
      have k0 := cell_regrown c0
      have l0 := cell_regrown d0
      have k1 := cell_regrown c1
      have l1 := cell_regrown d1
      have k2 := cell_regrown c2
      have l2 := cell_regrown d2
      have k3 := cell_regrown c3
      have l3 := cell_regrown d3
      have k4 := cell_regrown c4
      have l4 := cell_regrown d4
      have k5 := cell_regrown c5
      have l5 := cell_regrown d5
      have k6 := cell_regrown c6
      have l6 := cell_regrown d6
      have k7 := cell_regrown c7
      have l7 := cell_regrown d7
      have k8 := cell_regrown c8
      have l8 := cell_regrown d8
      have k9 := cell_regrown c9
      have l9 := cell_regrown d9
      have k10 := cell_regrown c10
      have l10 := cell_regrown d10
      have k11 := cell_regrown c11
      have l11 := cell_regrown d11
      have k12 := cell_regrown c12
      have l12 := cell_regrown d12

      have cV : ∀ d os, Calls Try.prog 35 #[.agg #[.int .i64 f.t.kind, .int .i64 f.t.key, .int .i64 f.t.val, .int .i64 f.t.node, .int .i64 f.t.pc, .int .i64 f.t.prev, .int .i64 f.t.cur, .int .i64 f.t.next, .int .i64 f.t.mark, .bool f.t.done, .int .i64 f.t.ans, .int .i64 f.bg, .int .i64 f.nd], .agg #[.int .i64 f.t.kind, .int .i64 f.t.key, .int .i64 f.t.val, .int .i64 f.t.node, .int .i64 f.t.pc, .int .i64 f.t.prev, .int .i64 f.t.cur, .int .i64 f.t.next, .int .i64 f.t.mark, .bool f.t.done, .int .i64 f.t.ans, .int .i64 f.bg, .int .i64 f.nd]] (grow (redrawn wr d) os) fun e w'' => e = .returned (.bool true) ∧ ∃ p : Regrown, w'' = grow (redrawn wr p.d) p.os := fun d os => Calls.regrown_of (by have := eqCall_same (grow (redrawn wr d) os) f; simpa using this)
      clear hA hB hrel c0 c1 c2 c3 c4 c5 c6 c7 c8 c9 c10 c11 c12 d0 d1 d2 d3 d4 d5 d6 d7 d8 d9 d10 d11 d12
      have hi1 : (0 : Int) ≤ (k : Int) := by omega
      have hi2 : (k : Int) < (L.length : Int) := by omega
      go_wp2
      refine wp_region_quiet_below (by kernel_rfl) (by kernel_rfl) ?_
      repeat (first | go_big_quiet_step (exact cV _ _) | quiet_step (exact cV _ _))
      refine wpQuiet_nil ?_
      intro _ hw'
      obtain ⟨⟨dq, osq⟩, hw''⟩ := hw'
      subst hw''
      go_wp2
      go_roundw
      case rel =>
        try ((repeat apply Exists.intro); refine ⟨?_, rfl⟩)
        exact ⟨⟨k + 1, by omega, by go_num, hbel.trans ((below_regrown wr dq osq).mono hbel.size)⟩⟩
      case measure => simp [intOf]; omega
    · go_wp2
      go_ret
      exact ⟨rfl, hbel⟩
end Go.Proofs.Ytogfkbkfcelgcao
