/- slices.Insert of one reader into readers that are owned. Written by mkinsr.py. -/
import Derived.Test.YtmpnjijbahjinafPairs
import Derived.Test.YtmpnjijbahjinafCopyMany
import Derived.Test.YtmpnjijbahjinafStmRow
import Derived.Test.YtmpnjijbahjinafTouch
import Derived.Lib.Overlaps
import Derived.Lib.AppendZerosOnto
import Derived.Deep.RegionLaw
import Derived.Deep.AppendLies
namespace Go.Proofs.Ytmpnjijbahjinaf
open Go.RowKit Go.Sort


theorem prl_takeR (L : List (Int × Int)) (i : Nat) : (prl L).take (i * 2) = prl (L.take i) := by
  induction L generalizing i with
  | nil => simp [prl]
  | cons f L ih =>
    cases i with
    | zero => simp [prl]
    | succ i =>
      rw [prl_cons, show (i + 1) * 2 = i * 2 + 1 + 1 by omega]
      simp only [prCells, List.cons_append, List.take_succ_cons, List.nil_append, prl_cons, ih]
theorem prl_dropR (L : List (Int × Int)) (i : Nat) : (prl L).drop (i * 2) = prl (L.drop i) := by
  induction L generalizing i with
  | nil => simp [prl]
  | cons f L ih =>
    cases i with
    | zero => simp
    | succ i =>
      rw [prl_cons, show (i + 1) * 2 = i * 2 + 1 + 1 by omega]
      simp only [prCells, List.cons_append, List.drop_succ_cons, List.nil_append, ih]
theorem prl_appendR (A B : List (Int × Int)) : prl (A ++ B) = prl A ++ prl B := by simp [prl]

set_option maxHeartbeats 4000000 in
set_option maxRecDepth 100000 in
/-- At the end. -/
theorem insertR_end (w : World) (base : Nat) (v : Value) (L : List (Int × Int)) (f : Int × Int) (vb : Nat) (ho : OwnP w base 38 v L) (hbase : base ≤ w.heap.size) (hm : L.length ≤ 1048577)
    (hV : w.heap[vb]? = some (.cells #[.int .i64 f.1, .int .i64 f.2] 38 (0, 0))) :
    Calls Try.prog 38 #[v, .int .i64 L.length, .slice (some ⟨vb, 0, none⟩) 1 1] w fun e w' => ∃ v', e = .returned v' ∧ OwnP w' base 38 v' (L ++ [f]) ∧ Tch (fun k => v.ownBlock = some k) w w' := by
  have hsrc : ∀ j u, (prl [f])[j]? = some u → w.cell? ((⟨vb, 0, none⟩ : Addr).add j) = some u := fun j u hu => World.news_of_block hV j u (by simpa [prl, prCells] using hu)
  obtain ⟨i0, hi, hz0, hz1, hz2⟩ := info_parts Try.infoRdr
  have hone : ∀ u ∈ prl [f], u.oneCell' = true := prl_one' [f]
  have hlt : ∀ k, v.ownBlock = some k → base ≤ k := fun k hk => (ho.lt k hk).1
  obtain ⟨a, cap, rfl, hP⟩ := ho.at
  have hn : (L.length : Int) ≤ 1048577 := by omega
  have HO : Hid (OwnP w base 38 (.slice a L.length cap) L) := ho
  have hcap : L.length ≤ cap := by
    rcases ho.2 with ⟨e, h0⟩ | ⟨g, cp, cur, e, _, _, h1, _⟩
    · simp only [Value.slice.injEq] at e; omega
    · simp only [Value.slice.injEq] at e; omega
  clear ho hV hP
  go_enter Try.func38, Try.ntmps38
  go_wp2_with (at_builtin; refine wpList_append_own _ rfl _ _ 24 rfl base 38 i0 _ 2 16 Try.underlying24 hi hz0 hz1 hz2 rfl (by decide) _ L.length (prl L) rfl HO.out ⟨vb, 0, none⟩ 1 1 (prl [f]) rfl rfl hsrc hone (by unfold maxLen; omega) (by omega) hbase ?_; intro v' w' h1 h2 _)
  all_goals (
    go_ret
    refine ⟨_, rfl, ?_, Tch.of_grown (row := (Value.slice a L.length cap).ownBlock) h2 (fun k e => by cases a <;> exact e)⟩
    unfold OwnP
    rw [prl_appendR, List.length_append, List.length_singleton]
    exact h1)

theorem ins_spliceR {α : Type} (X D F : List α) (o m : Nat) (hF : F.length = m) (hX : o + m + D.length ≤ X.length) : (splice (splice X (o + m) D) o F).take (o + m + D.length) = X.take o ++ F ++ D := by
  subst hF
  unfold splice
  have e1 : (X.take (o + F.length) ++ (D ++ X.drop (o + F.length + D.length))).take o = X.take o := by
    rw [List.take_append_of_le_length (by simp; omega), List.take_take, Nat.min_eq_left (by omega)]
  have e2 : (X.take (o + F.length) ++ (D ++ X.drop (o + F.length + D.length))).drop (o + F.length) = D ++ X.drop (o + F.length + D.length) := by
    rw [List.drop_append_of_le_length (by simp; omega), List.drop_of_length_le (by simp; omega), List.nil_append]
  rw [e1, e2, ← List.append_assoc, ← List.append_assoc, List.take_append_of_le_length (by simp; omega)]
  exact List.take_of_length_le (by simp; omega)
theorem ins_spliceR' {α : Type} (X D F : List α) (o m : Nat) (hF : F.length = m) (hX : o + m + D.length ≤ X.length) : (splice (splice X o F) (o + m) D).take (o + m + D.length) = X.take o ++ F ++ D := by
  subst hF
  unfold splice
  have e1 : (X.take o ++ (F ++ X.drop (o + F.length))).take (o + F.length) = X.take o ++ F := by
    rw [← List.append_assoc, List.take_append_of_le_length (by simp; omega)]
    exact List.take_of_length_le (by simp; omega)
  rw [e1, ← List.append_assoc, List.take_append_of_le_length (by simp; omega)]
  exact List.take_of_length_le (by simp; omega)
/-- Pairs that a row is known to hold from a place on. -/
theorem row_srcR {w : World} {g : Nat} {cur : List Value} {t : TypeId} {fr : Nat × Nat} (hg : w.heap[g]? = some (.cells cur.toArray t fr)) (L : List (Int × Int)) (hL : cur.take (L.length * 2) = prl L) (i : Nat) (hi : i ≤ L.length) :
    ∀ j v, (prl (L.drop i))[j]? = some v → w.cell? ((⟨g, i * 2, none⟩ : Addr).add j) = some v := by
  intro j v hj
  rw [Addr.add_mid]
  have hlt := (List.getElem?_eq_some_iff.1 hj).1
  rw [prl_length, List.length_drop] at hlt
  rw [← prl_dropR, ← hL, List.getElem?_drop, List.getElem?_take, if_pos (by omega)] at hj
  simp [World.cell?, hg, hj]

theorem Try.sizeRdr : (Try.prog.info? 38).map (·.size) = some 2 := by kernel_rfl
theorem overR (w : World) (vb g : Nat) (hne : vb ≠ g) (vcur cur : List Value) (hV : w.heap[vb]? = some (.cells vcur.toArray 38 (0, 0))) (hG : w.heap[g]? = some (.cells cur.toArray 38 (0, 0))) (h0 : cur.length ≠ 0) (m vc o lb cb : Nat) :
    (callFunc 65 #[.slice (some ⟨vb, 0, none⟩) m vc, .slice (some ⟨g, o, none⟩) lb cb]).run Try.prog w = .ok (.value (.bool false)) w := by
  rw [run_callFunc_extern Try.func65 (by kernel_rfl) (by kernel_rfl) (by kernel_rfl) (e := Extern.SlicesOverlaps.overlaps #[24, 24] #[4]) (by kernel_rfl),
    Lib.run_overlaps_apart w 24 4 38 Try.underlying24 2 (by intro w; kernel_rfl) ⟨vb, 0, none⟩ ⟨g, o, none⟩ m vc lb cb hne 38 38 vcur.length cur.length (by simp [World.shape?, hV]) (by simp [World.shape?, hG]) h0 (by simp [World.frozen?, hV]) (by simp [World.frozen?, hV])]
  rfl

set_option maxHeartbeats 4000000 in
set_option maxRecDepth 100000 in
/-- Ahead of the end, where there is room. -/
theorem insertR_room (w : World) (base g cap i : Nat) (L : List (Int × Int)) (f : Int × Int) (vb : Nat) (cur : List Value) (hg : w.heap[g]? = some (.cells cur.toArray 38 (0, 0))) (hcur : cur.length = cap * 2) (htk : cur.take (L.length * 2) = prl L)
    (hcap : cap ≤ maxLen) (hbg : base ≤ g) (hroom : L.length + 1 ≤ cap) (hi : i < L.length)
    (hV : w.heap[vb]? = some (.cells #[.int .i64 f.1, .int .i64 f.2] 38 (0, 0))) (hne : vb ≠ g) :
    Calls Try.prog 38 #[.slice (some ⟨g, 0, none⟩) L.length cap, .int .i64 i, .slice (some ⟨vb, 0, none⟩) 1 1] w fun e w' => ∃ v', e = .returned v' ∧ OwnP w' base 38 v' (L.take i ++ f :: L.drop i) ∧ Tch (fun k => k = g) w w' := by
  have hov := overR w vb g hne [.int .i64 f.1, .int .i64 f.2] cur hV hg (by omega) 1 1
  have hsrc1 : Hid (∀ (wi : World), wi.heap[g]? = w.heap[g]? → ∀ j v, (prl (L.drop i))[j]? = some v → wi.cell? ((⟨g, i * 2, none⟩ : Addr).add j) = some v) := fun wi h => row_srcR (h.trans hg) L htk i (by omega)
  have hsrc2 : Hid (∀ (wi : World), wi.heap[vb]? = w.heap[vb]? → ∀ j v, (prl [f])[j]? = some v → wi.cell? ((⟨vb, 0, none⟩ : Addr).add j) = some v) := fun wi h j u hu => World.news_of_block (h.trans hV) j u (by simpa [prl, prCells] using hu)
  have HG : Hid (w.heap[g]? = some (.cells cur.toArray 38 (0, 0)) ∧ cur.length = cap * 2 ∧ cur.take (L.length * 2) = prl L) := ⟨hg, hcur, htk⟩
  obtain ⟨D, hD⟩ : ∃ D, prl (L.drop i) = D := ⟨_, rfl⟩
  obtain ⟨F, hF⟩ : ∃ F, prl [f] = F := ⟨_, rfl⟩
  have hDl : Hid (D.length = (L.length - i) * 2) := by show _ = _; rw [← hD, prl_length, List.length_drop]
  have hFl : Hid (F.length = 2) := by show _ = _; rw [← hF]; rfl
  have hD1 : Hid (∀ v ∈ D, v.oneCell' = true) := by show ∀ v ∈ D, _; rw [← hD]; exact prl_one' _
  have hF1 : Hid (∀ v ∈ F, v.oneCell' = true) := by show ∀ v ∈ F, _; rw [← hF]; exact prl_one' _
  rw [hD] at hsrc1
  rw [hF] at hsrc2
  have HD : Hid (prl (L.drop i) = D ∧ prl [f] = F) := ⟨hD, hF⟩
  obtain ⟨n, hn⟩ : ∃ n, L.length = n := ⟨_, rfl⟩
  have HN : Hid (L.length = n) := hn
  rw [hn] at hroom hi hDl HG ⊢
  clear hg hcur htk hV hD hF hn
  have hc1 : (cap : Int) ≤ 9223372036854775807 := by unfold maxLen at hcap; omega
  have hz2 : ¬ ((i : Int) = (n : Int)) := by omega
  have hw1 : IntKind.i64.wrap ((i : Int) + 1) = (i : Int) + 1 := by rw [IntKind.wrap_i64]; omega
  have hw2 : IntKind.i64.wrap ((n : Int) + 1) = (n : Int) + 1 := by rw [IntKind.wrap_i64]; omega
  have hz3 : ¬ ((cap : Int) < (n : Int) + 1) := by omega
  have htn : ((i : Int) + 1).toNat = i + 1 := by omega
  have htn2 : ((n : Int) + 1).toNat = n + 1 := by omega
  have hb1 : (0 : Int) ≤ (i : Int) + 1 := by omega
  have hb2 : ¬ (cap = i + 1) := by omega
  have hb3 : (i : Int) ≤ (n : Int) + 1 := by omega
  have hb4 : ¬ (cap = i) := by omega
  have hb5 : (i : Int) + 1 ≤ (n : Int) + 1 := by omega
  have hb6 : (0 : Int) ≤ (n : Int) + 1 := by omega
  have hb7 : (n : Int) + 1 ≤ (cap : Int) := by omega
  have hin : i ≤ n := by omega
  go_enter Try.func38, Try.ntmps38
  go_wp2_with (simp only [hov])
  go_region_law (refine step_copy_spliceN rfl (.tmp 73) (.tmp 76) 24 24 rfl 38 2 Try.underlying24 Try.sizeRdr (n - i) (cap - (i + 1)) (n + 1 - i) (cap - i) g ((i + 1) * 2) ⟨g, i * 2, none⟩ (by simp [Act.eval, Act.put]) (by simp [Act.eval, Act.put]) cur 38 HG.out.1 D (by rw [hDl.out]; simp only [Nat.min_def]; split <;> omega) (hsrc1.out _ rfl) (by rw [hDl.out, HG.out.2.1]; omega) hD1.out base w ⟨rfl, rfl, rfl, Nat.le_refl _, fun _ _ => rfl⟩ hbg ?_; intro w1 hW1 hB1)
  go_wp2_with (refine wpList_copy_spliceN rfl (.tmp 80) (.tmp 81) 24 24 rfl 38 2 Try.underlying24 Try.sizeRdr (n + 1 - i) (cap - i) 1 1 g (i * 2) ⟨vb, 0, none⟩ rfl rfl (splice cur ((i + 1) * 2) D) 38 hW1.out.1 F (by rw [hFl.out]; simp only [Nat.min_def]; split <;> omega) (hsrc2.out _ (hW1.out.2 _ hne)) (by rw [length_splice _ _ _ (by rw [hDl.out, HG.out.2.1]; omega), hFl.out, HG.out.2.1]; omega) hF1.out base w hB1 hbg ?_; intro w2 hW2 hB2)
  go_ret
  refine ⟨_, rfl, ?_, ⟨hB2.mono (Nat.zero_le _), fun k _ hn => (hW2.out.2 k hn).trans (hW1.out.2 k hn)⟩⟩
  have hl1 : (splice cur ((i + 1) * 2) D).length = cap * 2 := by rw [length_splice _ _ _ (by rw [hDl.out, HG.out.2.1]; omega), HG.out.2.1]
  have hl2 : (splice (splice cur ((i + 1) * 2) D) (i * 2) F).length = cap * 2 := by rw [length_splice _ _ _ (by rw [hl1, hFl.out]; omega), hl1]
  have hLn : (L.take i ++ f :: L.drop i).length = n + 1 := by have := HN.out; simp; omega
  refine ⟨by rw [prl_length], .inr ⟨g, cap, (splice (splice cur ((i + 1) * 2) D) (i * 2) F).toArray, by rw [hLn]; rfl, hbg, hW2.out.1, by omega, hcap, by simpa using hl2, ?_⟩⟩
  have e := ins_spliceR cur D F (i * 2) 2 hFl.out (by rw [hDl.out, HG.out.2.1]; omega)
  rw [show (i + 1) * 2 = i * 2 + 2 by omega, hLn, show (n + 1) * 2 = i * 2 + 2 + D.length by rw [hDl.out]; omega]
  show List.take _ (splice (splice cur (i * 2 + 2) D) (i * 2) F) = _
  rw [e, ← HD.out.1, ← HD.out.2, show cur.take (i * 2) = prl (L.take i) by rw [← prl_takeR, ← HG.out.2.2, List.take_take, Nat.min_eq_left (by omega)]]
  rw [show L.take i ++ f :: L.drop i = L.take i ++ [f] ++ L.drop i by simp, prl_appendR, prl_appendR]

set_option maxHeartbeats 4000000 in
set_option maxRecDepth 100000 in
/-- Ahead of the end, where there is no room. -/
theorem insertR_grow (w : World) (base g cap i : Nat) (L : List (Int × Int)) (f : Int × Int) (vb : Nat) (cur : List Value) (hg : w.heap[g]? = some (.cells cur.toArray 38 (0, 0))) (htk : cur.take (L.length * 2) = prl L)
    (hnc : L.length ≤ cap) (hroom : cap < L.length + 1) (hi : i < L.length) (hm : L.length ≤ 1048577) (hbase : base ≤ w.heap.size)
    (hV : w.heap[vb]? = some (.cells #[.int .i64 f.1, .int .i64 f.2] 38 (0, 0))) :
    Calls Try.prog 38 #[.slice (some ⟨g, 0, none⟩) L.length cap, .int .i64 i, .slice (some ⟨vb, 0, none⟩) 1 1] w fun e w' => ∃ v', e = .returned v' ∧ OwnP w' base 38 v' (L.take i ++ f :: L.drop i) ∧ Below w.heap.size w w' := by
  have hgs : g < w.heap.size := (Array.getElem?_eq_some_iff.1 hg).1
  have hvs : vb < w.heap.size := (Array.getElem?_eq_some_iff.1 hV).1
  obtain ⟨i0, hi0, hz0, hzs, hzb⟩ := info_parts Try.infoRdr
  have hsrc1 : Hid (∀ (wi : World), wi.heap[g]? = w.heap[g]? → ∀ j v, (prl (L.drop i))[j]? = some v → wi.cell? ((⟨g, i * 2, none⟩ : Addr).add j) = some v) := fun wi h => row_srcR (h.trans hg) L htk i (by omega)
  have hsrc2 : Hid (∀ (wi : World), wi.heap[vb]? = w.heap[vb]? → ∀ j v, (prl [f])[j]? = some v → wi.cell? ((⟨vb, 0, none⟩ : Addr).add j) = some v) := fun wi h j u hu => World.news_of_block (h.trans hV) j u (by simpa [prl, prCells] using hu)
  have hold : (Builtin.firstCells i0.size i (.slice (some ⟨g, 0, none⟩) i cap)).run Try.prog w.drew = .ok (prl (L.take i)).toArray w.drew := by
    rw [hzs]
    exact run_firstCells_some w.drew 2 i ⟨g, 0, none⟩ i cap (prl (L.take i)) (by rw [prl_length, List.length_take]; omega) (fun j v hj => by
      have h0 := row_srcR (w := w.drew) hg L htk 0 (by omega) j v (by
        have hl := (List.getElem?_eq_some_iff.1 hj).1
        rw [← prl_takeR, List.getElem?_take] at hj
        split at hj
        · exact hj
        · cases hj)
      simpa using h0)
  obtain ⟨D, hD⟩ : ∃ D, prl (L.drop i) = D := ⟨_, rfl⟩
  obtain ⟨F, hF⟩ : ∃ F, prl [f] = F := ⟨_, rfl⟩
  have hDl : Hid (D.length = (L.length - i) * 2) := by show _ = _; rw [← hD, prl_length, List.length_drop]
  have hFl : Hid (F.length = 2) := by show _ = _; rw [← hF]; rfl
  have hD1 : Hid (∀ v ∈ D, v.oneCell' = true) := by show ∀ v ∈ D, _; rw [← hD]; exact prl_one' _
  have hF1 : Hid (∀ v ∈ F, v.oneCell' = true) := by show ∀ v ∈ F, _; rw [← hF]; exact prl_one' _
  rw [hD] at hsrc1
  rw [hF] at hsrc2
  have HD : Hid (prl (L.drop i) = D ∧ prl [f] = F) := ⟨hD, hF⟩
  obtain ⟨n, hn⟩ : ∃ n, L.length = n := ⟨_, rfl⟩
  have HN : Hid (L.length = n) := hn
  rw [hn] at hnc hroom hi hDl hm ⊢
  have hkk : (n : Int) + 1 - (i : Int) = ((n + 1 - i : Nat) : Int) := by omega
  have hik : i + (n + 1 - i) = n + 1 := by omega
  obtain ⟨G, hG⟩ : ∃ G, G = grownCap w (n + 1) cap 38 := ⟨_, rfl⟩
  obtain ⟨ROW, hROW⟩ : ∃ ROW : Array Value, ROW = (prl (L.take i)).toArray ++ Builtin.zeroCells (Value.agg #[.int .i64 0, .int .i64 0]).cells (n + 1 - i) ++ Builtin.zeroCells (Value.agg #[.int .i64 0, .int .i64 0]).cells (G - (n + 1)) := ⟨_, rfl⟩
  have hGn : n + 1 ≤ G := by rw [hG]; exact grownCap_ge w _ _ _
  have hG63 : G ≤ maxLen := by rw [hG]; exact grownCap_le_maxLen w (n + 1) cap 38 (by unfold maxLen; omega)
  have hRl : ROW.toList.length = G * 2 := by
    have hzl : ∀ k, (Builtin.zeroCells (Value.agg #[.int .i64 0, .int .i64 0]).cells k).size = k * 2 := fun k => by simp [Builtin.zeroCells, Value.cells]
    rw [hROW, Array.length_toList, Array.size_append, Array.size_append, hzl, hzl, List.size_toArray, prl_length, List.length_take]
    omega
  have hRt : ROW.toList.take (i * 2) = prl (L.take i) := by
    rw [hROW]
    simp only [Array.toList_append]
    rw [List.append_assoc, List.take_append_of_le_length (by rw [prl_length, List.length_take]; omega)]
    exact List.take_of_length_le (by rw [prl_length, List.length_take]; omega)
  have hrz : ∀ ty, (Builtin.append_ #[24, 3] ty #[.slice (some ⟨g, 0, none⟩) i cap, .int .i64 ((n : Int) + 1 - (i : Int))]).run Try.prog w =
      .ok (.slice (some ⟨w.heap.size, 0, none⟩) (n + 1) G) (w.drew.alloc (.cells ROW 38)) := fun ty => by
    have h := Lib.run_append_grow_zeros w 24 3 ty 38 i0 _ .i64 .i64 Try.underlying24 Try.underlying3 hi0 hz0 (some ⟨g, 0, none⟩) i cap (prl (L.take i)) hold (n + 1 - i) (by omega) (by omega) (by omega) (by omega) (by rw [hzb]; omega) (by rw [hzb, hik]; exact growslice_fits hroom (by omega))
    rw [hik] at h
    rw [hkk, hROW, hG]
    exact h
  obtain ⟨W1, hW1⟩ : ∃ W1, w.drew.alloc (.cells ROW 38) = W1 := ⟨_, rfl⟩
  rw [hW1] at hrz
  have HW : Hid (W1.heap[w.heap.size]? = some (.cells ROW.toList.toArray 38 (0, 0)) ∧ W1.heap[g]? = w.heap[g]? ∧ W1.heap[vb]? = w.heap[vb]? ∧ Below w.heap.size w W1) := by
    rw [← hW1]
    refine ⟨by rw [Array.toArray_toList]; exact heap_alloc_new w.drew _, Below.heap_alloc w.drew _ _ hgs, Below.heap_alloc w.drew _ _ hvs, ?_⟩
    exact (show Below w.heap.size w w.drew from ⟨rfl, rfl, rfl, Nat.le_refl _, fun _ _ => rfl⟩).alloc (Nat.le_refl _) _
  obtain ⟨S, hS⟩ : ∃ S, w.heap.size = S := ⟨_, rfl⟩
  rw [hS] at hrz HW hbase hgs hvs
  have HR : Hid (ROW.toList.length = G * 2 ∧ ROW.toList.take (i * 2) = prl (L.take i)) := ⟨hRl, hRt⟩
  clear hg htk hV hD hF hn hold hROW hG hRl hRt hW1 hkk hik
  have hc1 : (G : Int) ≤ 9223372036854775807 := by unfold maxLen at hG63; omega
  have hz2 : ¬ ((i : Int) = (n : Int)) := by omega
  have hw1 : IntKind.i64.wrap ((i : Int) + 1) = (i : Int) + 1 := by rw [IntKind.wrap_i64]; omega
  have hw2 : IntKind.i64.wrap ((n : Int) + 1) = (n : Int) + 1 := by rw [IntKind.wrap_i64]; omega
  have hw3 : IntKind.i64.wrap ((n : Int) + 1 - (i : Int)) = (n : Int) + 1 - (i : Int) := by rw [IntKind.wrap_i64]; omega
  have hz3 : (cap : Int) < (n : Int) + 1 := by omega
  have htn : ((i : Int) + 1).toNat = i + 1 := by omega
  have hb1 : (0 : Int) ≤ (i : Int) + 1 := by omega
  have hb2 : ¬ (G = i + 1) := by omega
  have hb3 : (i : Int) ≤ (n : Int) + 1 := by omega
  have hb4 : ¬ (G = i) := by omega
  have hb8 : ¬ (cap = i) := by omega
  have hb5 : (i : Int) + 1 ≤ (n : Int) + 1 := by omega
  have hic : (i : Int) ≤ (cap : Int) := by omega
  have hin : i ≤ n := by omega
  have hin' : (i : Int) ≤ (n : Int) := by omega
  have hne1 : g ≠ S := by omega
  have hne2 : vb ≠ S := by omega
  go_enter Try.func38, Try.ntmps38
  go_wp2_with (first | (at_builtin; refine Lib.wpList_append_run _ rfl _ _ _ _ rfl _ _ rfl rfl _ _ (hrz _) ?_) | (refine wpList_copy_spliceN rfl (.tmp 43) (.tmp 44) 24 24 rfl 38 2 Try.underlying24 Try.sizeRdr (n + 1 - i) (G - i) 1 1 S (i * 2) ⟨vb, 0, none⟩ rfl rfl ROW.toList 38 HW.out.1 F (by rw [hFl.out]; simp only [Nat.min_def]; split <;> omega) (hsrc2.out _ HW.out.2.2.1) (by rw [HR.out.1, hFl.out]; omega) hF1.out S w HW.out.2.2.2 (Nat.le_refl _) ?_; intro w1 hC1 hB1))
  go_region_law (refine step_copy_spliceN rfl (.tmp 50) (.tmp 53) 24 24 rfl 38 2 Try.underlying24 Try.sizeRdr (n - i) (G - (i + 1)) (n - i) (cap - i) S ((i + 1) * 2) ⟨g, i * 2, none⟩ (by simp [Act.eval, Act.put]) (by simp [Act.eval, Act.put]) (splice ROW.toList (i * 2) F) 38 hC1.out.1 D (by rw [hDl.out]; simp only [Nat.min_def]; split <;> omega) (hsrc1.out _ ((hC1.out.2 _ hne1).trans HW.out.2.1)) (by rw [length_splice _ _ _ (by rw [HR.out.1, hFl.out]; omega), hDl.out, HR.out.1]; omega) hD1.out S w (hB1.trans ⟨rfl, rfl, rfl, Nat.le_refl _, fun _ _ => rfl⟩) (Nat.le_refl _) ?_; intro w2 hC2 hB2)
  go_wp2
  go_ret
  refine ⟨_, rfl, ?_, by rw [hS]; exact hB2⟩
  have hl1 : (splice ROW.toList (i * 2) F).length = G * 2 := by rw [length_splice _ _ _ (by rw [HR.out.1, hFl.out]; omega), HR.out.1]
  have hl2 : (splice (splice ROW.toList (i * 2) F) ((i + 1) * 2) D).length = G * 2 := by rw [length_splice _ _ _ (by rw [hl1, hDl.out]; omega), hl1]
  have hLn : (L.take i ++ f :: L.drop i).length = n + 1 := by have := HN.out; simp; omega
  refine ⟨by rw [prl_length], .inr ⟨S, G, (splice (splice ROW.toList (i * 2) F) ((i + 1) * 2) D).toArray, by rw [hLn]; rfl, hbase, hC2.out.1, by omega, hG63, by simpa using hl2, ?_⟩⟩
  have e := ins_spliceR' ROW.toList D F (i * 2) 2 hFl.out (by rw [hDl.out, HR.out.1]; omega)
  rw [show (i + 1) * 2 = i * 2 + 2 by omega, hLn, show (n + 1) * 2 = i * 2 + 2 + D.length by rw [hDl.out]; omega]
  show List.take _ (splice (splice ROW.toList (i * 2) F) (i * 2 + 2) D) = _
  rw [e, ← HD.out.1, ← HD.out.2, HR.out.2]
  rw [show L.take i ++ f :: L.drop i = L.take i ++ [f] ++ L.drop i by simp, prl_appendR, prl_appendR]

/-- slices.Insert of one pair, wherever. -/
theorem insertR_any (w : World) (base : Nat) (v : Value) (L : List (Int × Int)) (i : Nat) (f : Int × Int) (vb : Nat) (ho : OwnP w base 38 v L) (hbase : base ≤ w.heap.size) (hm : L.length ≤ 1048577) (hi : i ≤ L.length)
    (hV : w.heap[vb]? = some (.cells #[.int .i64 f.1, .int .i64 f.2] 38 (0, 0))) (hne : v.ownBlock ≠ some vb) :
    Calls Try.prog 38 #[v, .int .i64 i, .slice (some ⟨vb, 0, none⟩) 1 1] w fun e w' => ∃ v', e = .returned v' ∧ OwnP w' base 38 v' (L.take i ++ f :: L.drop i) ∧ Tch (fun k => v.ownBlock = some k) w w' := by
  by_cases he : i = L.length
  · subst he
    have := insertR_end w base v L f vb ho hbase hm hV
    simpa using this
  · rcases ho.2 with ⟨_, h0⟩ | ⟨g, cap, cur, rfl, hb, hg, h1, h2, h3, h4⟩
    · omega
    · have hg' : w.heap[g]? = some (.cells cur.toList.toArray 38 (0, 0)) := by simpa using hg
      by_cases hr : L.length + 1 ≤ cap
      · exact (insertR_room w base g cap i L f vb cur.toList hg' (by simpa using h3) h4 h2 hb hr (by omega) hV (fun e => hne (by rw [e]; rfl))).mono (fun e w' h => by obtain ⟨v', he, ho', ht⟩ := h; exact ⟨v', he, ho', ht.weak (fun k e => by rw [e]; rfl)⟩)
      · exact (insertR_grow w base g cap i L f vb cur.toList hg' h4 h1 (by omega) (by omega) hm hbase hV).mono (fun e w' h => by obtain ⟨v', he, ho', ht⟩ := h; exact ⟨v', he, ho', Tch.of_below ht⟩)
end Go.Proofs.Ytmpnjijbahjinaf
