/- Who is asked for goes to the end: the program's toEnd. -/
import Derived.Test.YtbcjkinalghokafDoorKeyImplJ
import Derived.Test.YtbcjkinalghokafDoorPolKitJ
import Derived.Deep.RegionLaw
import Derived.Deep.MidRow
namespace Go.Proofs.YtbcjkinalghokafDoor
open Go.RowKit Go.Sort

theorem without_at {L : List ByteArray} {key : ByteArray} {k : Nat} (hn : L.Nodup) (hk : k < L.length) (h : L[k] = key) : without L key = L.take k ++ L.drop (k + 1) := by
  have e : L = L.take k ++ key :: L.drop (k + 1) := by
    rw [← h, ← List.drop_eq_getElem_cons hk, List.take_append_drop]
  rw [e] at hn
  rw [List.nodup_append, List.nodup_cons] at hn
  obtain ⟨_, ⟨h2, _⟩, h3⟩ := hn
  have h1 : key ∉ L.take k := fun hm => h3 key hm key (List.mem_cons_self ..) rfl
  have e2 : without L key = without (L.take k ++ key :: L.drop (k + 1)) key := congrArg (fun l => without l key) e
  rw [e2]
  unfold without
  rw [List.filter_append, List.filter_cons]
  simp only [decide_true, Bool.not_true, Bool.false_eq_true, if_false]
  have f1 := without_none h1
  have f2 := without_none h2
  unfold without at f1 f2
  rw [f1, f2]
theorem Tryd.sizeStr : (Tryd.prog.info? 9).map (·.size) = some 1 := by kernel_rfl
theorem end_row {cur cs : List Value} {k n : Nat} {xs : List Value} {z : Value} (hx : cur.take n = xs) (hl : xs.length = n) (hc : n ≤ cur.length) (hk : k < n) (hcs : cs = xs.drop (k + 1)) : ((splice cur k cs).set (n - 1) z).take n = xs.take k ++ xs.drop (k + 1) ++ [z] := by
  have hcl : cs.length = n - (k + 1) := by rw [hcs, List.length_drop, hl]
  have e1 : splice cur k cs = (xs.take k ++ cs) ++ cur.drop (n - 1) := by
    unfold splice
    rw [← hx, List.take_take, Nat.min_eq_left (by omega), hcl, show k + (n - (k + 1)) = n - 1 by omega, List.append_assoc]
  have el : (xs.take k ++ cs).length = n - 1 := by rw [List.length_append, List.length_take, hcl, hl]; omega
  obtain ⟨y, hy⟩ : ∃ y, cur.drop (n - 1) = y :: cur.drop n := by
    refine ⟨cur[n - 1], ?_⟩
    rw [List.drop_eq_getElem_cons (by omega), show n - 1 + 1 = n by omega]
  rw [e1, List.set_append_right _ _ (by omega), el, Nat.sub_self, hy, List.set_cons_zero, ← hcs]
  rw [show (xs.take k ++ cs) ++ z :: cur.drop n = ((xs.take k ++ cs) ++ [z]) ++ cur.drop n by simp]
  rw [List.take_append_of_le_length (by rw [List.length_append, el]; simp; omega)]
  exact List.take_of_length_le (by rw [List.length_append, el]; simp; omega)
theorem heap_put' {w : World} {V : Nat} {cs : Array Value} {ty : TypeId} (h : w.heap[V]? = some (.cells cs ty (0, 0))) (i : Nat) (x : Value) : (w.setCell ⟨V, i, none⟩ x).heap[V]? = some (.cells (cs.setIfInBounds i x) ty (0, 0)) := by
  simp only [World.setCell, Array.getElem?_modify, h]
  simp
set_option maxRecDepth 100000 in
set_option maxHeartbeats 4000000 in
theorem toEnd_row (w : World) (base g c : Nat) (L : List ByteArray) (cur : List Value) (key : ByteArray) (hg : w.heap[g]? = some (.cells cur.toArray 9 (0, 0))) (hcur : cur.length = c) (htk : cur.take L.length = strs L) (hcap : c ≤ maxLen) (hbg : base ≤ g) (hnc : L.length ≤ c) (hm : L.length ≤ 1048576) (hnd : L.Nodup) :
    Calls Tryd.prog 61 #[.slice (some ⟨g, 0, none⟩) L.length c, .string key] w fun e w' => (inL L key = false ∧ e = .returned (.bool false) ∧ w' = w) ∨ (inL L key = true ∧ e = .returned (.bool true) ∧ OwnV w' base 9 (.slice (some ⟨g, 0, none⟩) L.length c) (strs (without L key ++ [key])) ∧ w.grownBy w' (some g)) := by
  have hgs := (Array.getElem?_eq_some_iff.1 hg).1
  have hL : LAt w (some ⟨g, 0, none⟩) L w.heap.size := fun j hj => by
    refine ⟨g, 0, rfl, hgs, ?_⟩
    rw [Nat.zero_add, cell_of_row w g j _ _ (0, 0) hg]
    have h1 : (cur.take L.length)[j]? = (strs L)[j]? := by rw [htk]
    rw [List.getElem?_take_of_lt hj, List.getElem?_eq_getElem (l := strs L) (by rw [strs_length]; exact hj), strs_at hj] at h1
    simpa using h1
  have c1 := indexS_any w (some ⟨g, 0, none⟩) c L key hL (by omega)
  go_enter Tryd.func61, Tryd.ntmps61
  go_wp2_with fail
  refine c1.mono ?_
  rintro e w' ⟨r, rfl, hw', h⟩
  rw [hw']
  clear c1 hw'
  rcases h with ⟨rfl, h⟩ | ⟨k, hk, rfl, h1, h2⟩
  · have HI : Hid (inL L key = false) := h
    clear h
    go_wp2_with fail
    go_ret
    exact .inl ⟨HI.out, rfl, rfl⟩
  · have HI : Hid (inL L key = true) := inL_iff.2 (by rw [← h1]; exact List.getElem_mem hk)
    have HWA : Hid (without L key = L.take k ++ L.drop (k + 1)) := without_at hnd hk h1
    have hck : w.cell? ⟨g, k, none⟩ = some (.string key) := by
      obtain ⟨g', off, e1, _, e2⟩ := hL k hk
      simp only [Option.some.injEq, Addr.mk.injEq, and_true] at e1
      rw [← e1.1, ← e1.2, Nat.zero_add] at e2
      rw [e2, h1]
    obtain ⟨D, hD⟩ : ∃ D, (strs L).drop (k + 1) = D := ⟨_, rfl⟩
    have hDl : D.length = L.length - (k + 1) := by rw [← hD, List.length_drop, strs_length]
    have hsrc0 : ∀ j v, D[j]? = some v → w.cell? ⟨g, k + 1 + j, none⟩ = some v := fun j v hv => by
      have hjl : j < D.length := (List.getElem?_eq_some_iff.1 hv).1
      rw [cell_of_row w g (k + 1 + j) _ _ (0, 0) hg]
      rw [← hD, List.getElem?_drop, ← htk, List.getElem?_take_of_lt (by omega)] at hv
      simpa using hv
    obtain ⟨A, hA, hsrc⟩ : ∃ A : Addr, (if c = k + 1 then some (⟨g, 0, none⟩ : Addr) else some ⟨g, k + 1, none⟩) = some A ∧ Hid (∀ j v, D[j]? = some v → w.drew.cell? (A.add j) = some v) := by
      by_cases h : c = k + 1
      · refine ⟨⟨g, 0, none⟩, by simp [h], fun t u hu => ?_⟩
        have h0 : D.length = 0 := by rw [hDl]; omega
        rw [List.length_eq_zero_iff.1 h0] at hu
        simp at hu
      · exact ⟨⟨g, k + 1, none⟩, by simp [h], fun j v hv => by rw [Addr.add_mid]; exact hsrc0 j v hv⟩
    have HDl : Hid (D.length = L.length - (k + 1)) := hDl
    have HD : Hid ((strs L).drop (k + 1) = D) := hD
    have s2 : Hid (∀ v ∈ D, v.oneCell' = true) := by
      intro v hv
      rw [← hD] at hv
      have hv' := List.mem_of_mem_drop hv
      simp only [strs, List.mem_map] at hv'
      obtain ⟨b, _, rfl⟩ := hv'
      rfl
    have HG : Hid (w.drew.heap[g]? = some (.cells cur.toArray 9 (0, 0)) ∧ cur.length = c ∧ cur.take L.length = strs L ∧ w.heap.size = w.drew.heap.size) := ⟨hg, hcur, htk, rfl⟩
    have hdb : Hid (Below g w w.drew) := ⟨rfl, rfl, rfl, Nat.le_refl _, fun _ _ => rfl⟩
    have hw1 : IntKind.i64.wrap ((k : Int) + 1) = (k : Int) + 1 := by rw [IntKind.wrap_i64]; omega
    have hw2 : IntKind.i64.wrap ((L.length : Int) - 1) = (L.length : Int) - 1 := by rw [IntKind.wrap_i64]; omega
    have hn0 : ¬ ((k : Int) < 0) := by omega
    have hi1 : (0 : Int) ≤ (k : Int) := by omega
    have hi2 : (k : Int) < (L.length : Int) := by omega
    have hi3 : (k : Int) ≤ (L.length : Int) := by omega
    have hi4 : (L.length : Int) ≤ (c : Int) := by omega
    have hi5 : (0 : Int) ≤ (k : Int) + 1 := by omega
    have hi6 : (k : Int) + 1 ≤ (L.length : Int) := by omega
    have htn : ((k : Int) + 1).toNat = k + 1 := by omega
    have hl1 : (0 : Int) ≤ (L.length : Int) - 1 := by omega
    have hl2 : (L.length : Int) - 1 < (L.length : Int) := by omega
    have hl3 : ((L.length : Int) - 1).toNat = L.length - 1 := by omega
    have hd1 : ¬ (c = k) := by omega
    have HK : Hid (k < L.length ∧ L.length ≤ c) := ⟨hk, hnc⟩
    clear h1 h2 hk hL hg hcur htk hgs hD hDl hsrc0 hnd
    go_wp2_with fail
    go_region_law (refine step_copy_spliceN rfl (.tmp 18) (.tmp 22) 24 24 rfl 9 1 Tryd.underlying24 Tryd.sizeStr (L.length - k) (c - k) (L.length - (k + 1)) (c - (k + 1)) g k A (by simp [Act.eval, Act.put]) (by simp [Act.eval, Act.put]) cur 9 HG.out.1 D (by rw [HDl.out, Nat.mul_one]; simp only [Nat.min_def]; split <;> omega) hsrc.out (by rw [HDl.out, HG.out.2.1]; have := HK.out; omega) s2.out g w hdb.out (Nat.le_refl _) ?_; rintro w4 h4 hb4)
    obtain ⟨hrow, hoth⟩ := h4.out
    obtain ⟨_, hcl, htk, _⟩ := HG.out
    have hk := HK.out
    have hsl : (splice cur k D).length = c := by rw [length_splice _ _ _ (by rw [HDl.out, hcl]; omega), hcl]
    have q0 : ∃ y, w4.cell? ⟨g, L.length - 1, none⟩ = some y := by
      refine ⟨(splice cur k D)[L.length - 1]'(by rw [hsl]; omega), ?_⟩
      rw [cell_of_row w4 g (L.length - 1) _ _ (0, 0) hrow]
      simp
    obtain ⟨y, q0⟩ := q0
    have q1 : w4.frozen? ⟨g, L.length - 1, none⟩ = false := by simp [World.frozen?, hrow]
    have HF : Hid (OwnV (w4.setCell ⟨g, L.length - 1, none⟩ (.string key)) base 9 (.slice (some ⟨g, 0, none⟩) L.length c) (strs (without L key ++ [key])) ∧ w.grownBy (w4.setCell ⟨g, L.length - 1, none⟩ (.string key)) (some g)) := by
      have hln : (without L key ++ [key]).length = L.length := by rw [HWA.out]; simp; omega
      refine ⟨?_, ⟨hb4.os, hb4.tape, hb4.output, by simpa [World.setCell] using hb4.size, fun j hj hn => ?_⟩⟩
      · unfold OwnV
        rw [strs_length, hln]
        refine ⟨by rw [strs_length, hln, Nat.mul_one], .inr ⟨g, c, _, rfl, hbg, heap_put' hrow (L.length - 1) (.string key), by omega, hcap, ?_, ?_⟩⟩
        · simp [hsl]
        · have e := end_row (z := .string key) htk (strs_length L) (by omega) hk.1 HD.out.symm
          rw [Nat.mul_one, HWA.out]
          simp only [Array.toList_setIfInBounds]
          rw [e]
          simp [strs]
      · have hjg : j ≠ g := fun e => hn (by rw [e])
        rw [Below.heap_setCell _ _ _ _ (by exact hjg)]
        exact hoth j hjg
    clear hrow hoth h4 hcl htk hk hsl hb4 HD HDl HG hsrc s2 HWA hA
    go_wp2_with fail
    go_ret
    exact .inr ⟨HI.out, rfl, HF.out.1, HF.out.2⟩
/-- Who is there goes to the end. -/
theorem toEnd_any (w : World) (base : Nat) (v : Value) (L : List ByteArray) (key : ByteArray) (ho : OwnV w base 9 v (strs L)) (hm : L.length ≤ 1048576) (hnd : L.Nodup) :
    Calls Tryd.prog 61 #[v, .string key] w fun e w' => (inL L key = false ∧ e = .returned (.bool false) ∧ w' = w) ∨ (inL L key = true ∧ e = .returned (.bool true) ∧ OwnV w' base 9 v (strs (without L key ++ [key])) ∧ w.grownBy w' v.ownBlock) := by
  rcases ho.2 with ⟨rfl, h0⟩ | ⟨g, c, cur, rfl, h1, h2, h3, h4, h5, h6⟩
  · rw [strs_length] at h0
    have hl : L = [] := List.length_eq_zero_iff.1 h0
    subst hl
    have c1 := indexS_any w none 0 [] key (fun j hj => by simp at hj) (by simp)
    go_enter Tryd.func61, Tryd.ntmps61
    go_wp2_with fail
    refine c1.mono ?_
    rintro e w' ⟨r, rfl, hw', h⟩
    rw [hw']
    clear c1 hw'
    rcases h with ⟨rfl, h⟩ | ⟨k0, hk0, _⟩
    · go_wp2_with fail
      go_ret
      exact .inl ⟨rfl, rfl, rfl⟩
    · simp at hk0
  · rw [strs_length] at h3 h6 ⊢
    have h2' : w.heap[g]? = some (.cells cur.toList.toArray 9 (0, 0)) := by simpa using h2
    exact toEnd_row w base g c L cur.toList key h2' (by simpa using h5) (by rw [Nat.mul_one] at h6; exact h6) h4 h1 h3 hm hnd
end Go.Proofs.YtbcjkinalghokafDoor
