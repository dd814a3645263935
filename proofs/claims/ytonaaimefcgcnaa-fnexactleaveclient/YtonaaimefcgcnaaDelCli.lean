/- slices.DeleteFunc of Clients: all that the predicate names go. Written by mkdelx.py. -/
import Derived.Test.YtonaaimefcgcnaaCopyManyJ
namespace Go.Proofs.Ytonaaimefcgcnaa
open Go.RowKit Go.Sort
theorem zeroCli_len (n : Nat) : (Builtin.zeroCells (Value.agg #[.int .i64 0, .string ⟨#[]⟩, .int .i64 0, .int .i64 0, .int .i64 0, .string ⟨#[]⟩, .int .i64 0]).cells n).toList.length = n * 7 := by simp [Builtin.zeroCells, Value.cells]
theorem zeroCli_one (n : Nat) : ∀ v ∈ (Builtin.zeroCells (Value.agg #[.int .i64 0, .string ⟨#[]⟩, .int .i64 0, .int .i64 0, .int .i64 0, .string ⟨#[]⟩, .int .i64 0]).cells n).toList, v.oneCell' = true := by
  intro v hv
  simp only [Builtin.zeroCells, Array.toList_map, List.mem_map] at hv
  obtain ⟨i, _, rfl⟩ := hv
  have h2 : (Value.agg #[.int .i64 0, .string ⟨#[]⟩, .int .i64 0, .int .i64 0, .int .i64 0, .string ⟨#[]⟩, .int .i64 0]).cells = #[.int .i64 0, .string ⟨#[]⟩, .int .i64 0, .int .i64 0, .int .i64 0, .string ⟨#[]⟩, .int .i64 0] := rfl
  rw [h2]
  have h3 : i % (#[Value.int .i64 0, .string ⟨#[]⟩, .int .i64 0, .int .i64 0, .int .i64 0, .string ⟨#[]⟩, .int .i64 0]).size = 0 ∨ i % (#[Value.int .i64 0, .string ⟨#[]⟩, .int .i64 0, .int .i64 0, .int .i64 0, .string ⟨#[]⟩, .int .i64 0]).size = 1 ∨ i % (#[Value.int .i64 0, .string ⟨#[]⟩, .int .i64 0, .int .i64 0, .int .i64 0, .string ⟨#[]⟩, .int .i64 0]).size = 2 ∨ i % (#[Value.int .i64 0, .string ⟨#[]⟩, .int .i64 0, .int .i64 0, .int .i64 0, .string ⟨#[]⟩, .int .i64 0]).size = 3 ∨ i % (#[Value.int .i64 0, .string ⟨#[]⟩, .int .i64 0, .int .i64 0, .int .i64 0, .string ⟨#[]⟩, .int .i64 0]).size = 4 ∨ i % (#[Value.int .i64 0, .string ⟨#[]⟩, .int .i64 0, .int .i64 0, .int .i64 0, .string ⟨#[]⟩, .int .i64 0]).size = 5 ∨ i % (#[Value.int .i64 0, .string ⟨#[]⟩, .int .i64 0, .int .i64 0, .int .i64 0, .string ⟨#[]⟩, .int .i64 0]).size = 6 := by simp; omega
  rcases h3 with h3 | h3 | h3 | h3 | h3 | h3 | h3 <;> rw [h3] <;> rfl
theorem OwnCli.row {w : World} {base G n c : Nat} {e : TypeId} {L : List Cli} (h : OwnCli w base e (.slice (some ⟨G, 0, none⟩) n c) L) : ∃ cur : List Value, w.heap[G]? = some (.cells cur.toArray e (0, 0)) ∧ base ≤ G ∧ n = L.length ∧ L.length ≤ c ∧ c ≤ maxLen ∧ cur.length = c * 7 ∧ cur.take (L.length * 7) = cltl L := by
  rcases h.2 with ⟨e1, _⟩ | ⟨g', cp, cur, e1, h1, h2, h3, h4, h5, h6⟩
  · cases e1
  · simp only [Value.slice.injEq, Option.some.injEq, Addr.mk.injEq, and_true] at e1
    obtain ⟨rfl, rfl, rfl⟩ := e1
    exact ⟨cur.toList, by simpa using h2, h1, rfl, h3, h4, by simpa using h5, h6⟩
theorem OwnCli.of_row {w : World} {base G c : Nat} {e : TypeId} {L : List Cli} {cur : List Value} (h2 : w.heap[G]? = some (.cells cur.toArray e (0, 0))) (h1 : base ≤ G) (h3 : L.length ≤ c) (h4 : c ≤ maxLen) (h5 : cur.length = c * 7) (h6 : cur.take (L.length * 7) = cltl L) : OwnCli w base e (.slice (some ⟨G, 0, none⟩) L.length c) L :=
  ⟨by rw [cltl_length], .inr ⟨G, c, cur.toArray, rfl, h1, h2, h3, h4, by simpa using h5, by simpa using h6⟩⟩
theorem OwnCli.cellP {w : World} {base G n c : Nat} {e : TypeId} {L : List Cli} (h : OwnCli w base e (.slice (some ⟨G, 0, none⟩) n c) L) (j : Nat) (hj : j < L.length) : w.cell? ⟨G, j * 7, none⟩ = some (.int .i64 L[j].id) ∧ w.cell? ⟨G, j * 7 + 1, none⟩ = some (.string L[j].key) ∧ w.cell? ⟨G, j * 7 + 2, none⟩ = some (.int .i64 L[j].fe) ∧ w.cell? ⟨G, j * 7 + 3, none⟩ = some (.int .i64 L[j].fr) ∧ w.cell? ⟨G, j * 7 + 4, none⟩ = some (.int .i64 L[j].st) ∧ w.cell? ⟨G, j * 7 + 5, none⟩ = some (.string L[j].got) ∧ w.cell? ⟨G, j * 7 + 6, none⟩ = some (.int .i64 L[j].ag) := by
  obtain ⟨a, cp, e1, hA⟩ := h.at
  simp only [Value.slice.injEq] at e1
  obtain ⟨rfl, _, _⟩ := e1
  obtain ⟨g, off, e2, _, q0, q1, q2, q3, q4, q5, q6⟩ := hA j hj
  simp only [Option.some.injEq, Addr.mk.injEq, and_true] at e2
  obtain ⟨rfl, rfl⟩ := e2
  rw [Nat.zero_add] at q0 q1 q2 q3 q4 q5 q6
  exact ⟨q0, q1, q2, q3, q4, q5, q6⟩
theorem Try.zeroXCli : ∀ w, (zeroValue 68).run Try.prog w = .ok (.agg #[.int .i64 0, .string ⟨#[]⟩, .int .i64 0, .int .i64 0, .int .i64 0, .string ⟨#[]⟩, .int .i64 0]) w := by intro w; kernel_rfl
set_option maxRecDepth 100000 in
set_option maxHeartbeats 4000000 in
theorem deleteCli_row (g : Nat) (lb : Array Value) (p : Cli → Bool) (eg : ∀ args w, (callFunc g args).run Try.prog w = .ok (.enter g args) w) (w : World) (base G c : Nat) (L : List (Cli)) (ho : OwnCli w base 68 (.slice (some ⟨G, 0, none⟩) L.length c) L) (hm : L.length ≤ 1048576)
    (hp : ∀ (W : World) (x : Cli), Tch (fun k => k = G) w W → Calls Try.prog g (#[.agg #[.int .i64 x.id, .string x.key, .int .i64 x.fe, .int .i64 x.fr, .int .i64 x.st, .string x.got, .int .i64 x.ag]] ++ lb) W fun e w' => e = .returned (.bool (p x)) ∧ Below W.heap.size W w') :
    Calls Try.prog 58 #[.slice (some ⟨G, 0, none⟩) L.length c, .func (.func g) #[] lb] w fun e w' => ∃ n c', e = .returned (.slice (some ⟨G, 0, none⟩) n c') ∧ OwnCli w' base 68 (.slice (some ⟨G, 0, none⟩) n c') (keepX p L) ∧ Tch (fun k => k = G) w w' := by
  obtain ⟨cur0, hg0, hbG, hx1, hLc, hcm, hx2, hx3⟩ := ho.row
  have hGs : G < w.heap.size := (Array.getElem?_eq_some_iff.1 hg0).1
  obtain ⟨a0, c0, e0, hL⟩ := ho.at
  simp only [Value.slice.injEq, true_and] at e0
  obtain ⟨rfl, rfl⟩ := e0
  have c1 := indexCli_any g lb p eg w (some ⟨G, 0, none⟩) c L hL (by omega) (fun W x hb => (hp W x (Tch.of_below hb)).mono (by rintro e w' ⟨rfl, h⟩; exact ⟨rfl, hb.trans (h.mono hb.size)⟩))
  have HP : Hid (∀ (W : World) (x : Cli), Tch (fun k => k = G) w W → Calls Try.prog g (#[.agg #[.int .i64 x.id, .string x.key, .int .i64 x.fe, .int .i64 x.fr, .int .i64 x.st, .string x.got, .int .i64 x.ag]] ++ lb) W fun e w' => e = .returned (.bool (p x)) ∧ Below W.heap.size W w') := hp
  clear hp hg0 hx1 hx2 hx3 cur0
  go_enter Try.func58, Try.ntmps58
  go_wp2_with fail
  refine c1.mono ?_
  rintro e w1 ⟨rfl, hb1⟩
  clear c1
  have HT1 : Hid (Tch (fun k => k = G) w w1) := Tch.of_below hb1
  have ho1 := ho.below hb1 (Nat.le_refl _)
  clear hL ho hb1
  rcases idxX_cases p L with ⟨k0, hk0, hidx, h1, h2⟩ | ⟨hidx, h⟩
  · rw [hidx]
    have hi0 : ¬ ((k0 : Int) = -1) := by omega
    have HS : Hid (keepX p (L.take (k0 + 1)) = L.take k0) := keepX_step hk0 h1 h2
    have hk0b : k0 ≤ 1048576 := by omega
    have HLK : Hid (k0 < L.length) := hk0
    clear h1 h2 hk0 hidx
    go_wp2_with fail
    go_loopw [5, 6] (fun i j wr => Box (∃ (k n : Nat) (M : List (Cli)), k ≤ L.length ∧ j = .int .i64 k ∧ i = .int .i64 n ∧ n < k ∧ Hid (n = (keepX p (L.take k)).length) ∧ Hid (M.length = L.length) ∧ Hid (M.take n = keepX p (L.take k)) ∧ Hid (M.drop k = L.drop k) ∧ Hid (OwnCli wr base 68 (.slice (some ⟨G, 0, none⟩) L.length c) M) ∧ Hid (Tch (fun k => k = G) w wr)))
      (fun _ j _ => L.length - (intOf j).toNat)
    case atStart => exact ⟨⟨k0 + 1, k0, L, HLK.out, by go_num, rfl, by omega, by show _ = _; rw [HS.out, List.length_take]; have := HLK.out; omega, rfl, by show _ = _; rw [HS.out], rfl, ho1, HT1⟩⟩
    case round =>
      obtain ⟨k, n, M, hk, rfl, rfl, hnk, HN, HML, HMT, HMD, HO, HG⟩ := hrel.out
      clear hrel ho1 HS
      by_cases hlt : k < L.length
      · have HMk : Hid (∃ h : k < M.length, M[k] = L[k]) := by
          have hx : k < M.length := by rw [HML.out]; exact hlt
          refine ⟨hx, ?_⟩
          have := congrArg (fun l => l[0]?) HMD.out
          simp only [List.getElem?_drop, Nat.add_zero] at this
          rw [List.getElem?_eq_getElem hx, List.getElem?_eq_getElem hlt] at this
          exact Option.some.inj this
        obtain ⟨z, hzz⟩ : ∃ z, L[k] = z := ⟨_, rfl⟩
        have HZ : Hid (keepX p (L.take (k + 1)) = keepX p (L.take k) ++ if p z = true then [] else [z]) := by show _ = _; rw [keepX_take hlt, hzz]
        have hck := HO.out.cellP k HMk.out.1
        rw [HMk.out.2, hzz] at hck
        obtain ⟨q0, q1, q2, q3, q4, q5, q6⟩ := hck
        obtain ⟨w2, hw2⟩ : ∃ w2, wr.alloc (.cells #[.int .i64 z.id, .string z.key, .int .i64 z.fe, .int .i64 z.fr, .int .i64 z.st, .string z.got, .int .i64 z.ag] 68) = w2 := ⟨_, rfl⟩
        have hb2 : Below wr.heap.size wr w2 := by rw [← hw2]; exact (Below.refl _ _).alloc (Nat.le_refl _) _
        have hV2 : w2.heap[wr.heap.size]? = some (.cells #[.int .i64 z.id, .string z.key, .int .i64 z.fe, .int .i64 z.fr, .int .i64 z.st, .string z.got, .int .i64 z.ag] 68 (0, 0)) := by rw [← hw2]; exact heap_alloc_new wr _
        have v0 : w2.cell? ⟨wr.heap.size, 0, none⟩ = some (.int .i64 z.id) := by rw [cell_of_row w2 wr.heap.size 0 _ _ (0, 0) hV2]; rfl
        have v1 : w2.cell? ⟨wr.heap.size, 1, none⟩ = some (.string z.key) := by rw [cell_of_row w2 wr.heap.size 1 _ _ (0, 0) hV2]; rfl
        have v2 : w2.cell? ⟨wr.heap.size, 2, none⟩ = some (.int .i64 z.fe) := by rw [cell_of_row w2 wr.heap.size 2 _ _ (0, 0) hV2]; rfl
        have v3 : w2.cell? ⟨wr.heap.size, 3, none⟩ = some (.int .i64 z.fr) := by rw [cell_of_row w2 wr.heap.size 3 _ _ (0, 0) hV2]; rfl
        have v4 : w2.cell? ⟨wr.heap.size, 4, none⟩ = some (.int .i64 z.st) := by rw [cell_of_row w2 wr.heap.size 4 _ _ (0, 0) hV2]; rfl
        have v5 : w2.cell? ⟨wr.heap.size, 5, none⟩ = some (.string z.got) := by rw [cell_of_row w2 wr.heap.size 5 _ _ (0, 0) hV2]; rfl
        have v6 : w2.cell? ⟨wr.heap.size, 6, none⟩ = some (.int .i64 z.ag) := by rw [cell_of_row w2 wr.heap.size 6 _ _ (0, 0) hV2]; rfl
        have HW2 : Hid (wr.alloc (.cells #[.int .i64 z.id, .string z.key, .int .i64 z.fe, .int .i64 z.fr, .int .i64 z.st, .string z.got, .int .i64 z.ag] 68) = w2) := hw2
        have hT2 : Tch (fun k => k = G) w w2 := HG.out.trans (Tch.of_below hb2)
        have hcall := HP.out w2 z hT2
        have hO2 := HO.out.below hb2 (Nat.le_refl _)
        have hi1 : (0 : Int) ≤ (k : Int) := by omega
        have hi2 : (k : Int) < (L.length : Int) := by omega
        have hi3 : (0 : Int) ≤ (n : Int) := by omega
        have hi4 : (n : Int) < (L.length : Int) := by omega
        cases hz : p z with
        | true =>
          rw [hz] at hcall
          rw [hz, if_pos rfl, List.append_nil] at HZ
          have HC : Hid (OwnCli w2 base 68 (.slice (some ⟨G, 0, none⟩) L.length c) M ∧ Tch (fun k => k = G) w w2) := ⟨hO2, hT2⟩
          clear hzz hO2 hT2 hb2 hV2 hw2 HO HG
          go_wp2_with fail
          rw [HW2.out]
          refine hcall.mono ?_
          rintro e w3 ⟨rfl, hb3⟩
          go_wp2_with fail
          go_roundw
          case rel =>
            try ((repeat apply Exists.intro); refine ⟨?_, rfl⟩)
            refine ⟨⟨k + 1, n, M, by omega, by go_num, rfl, by omega, by show _ = _; rw [HZ.out]; exact HN.out, HML, by show _ = _; rw [HZ.out]; exact HMT.out, ?_, HC.out.1.below hb3 (Nat.le_refl _), HC.out.2.trans (Tch.of_below hb3)⟩⟩
            show M.drop (k + 1) = L.drop (k + 1)
            rw [← List.drop_drop, HMD.out, List.drop_drop]
          case measure => simp [intOf]; omega
        | false =>
          rw [hz] at hcall
          rw [hz, if_neg (by decide)] at HZ
          have HC : Hid (OwnCli w2 base 68 (.slice (some ⟨G, 0, none⟩) L.length c) M ∧ Tch (fun k => k = G) w w2 ∧ w2.heap[wr.heap.size]? = some (.cells #[.int .i64 z.id, .string z.key, .int .i64 z.fe, .int .i64 z.fr, .int .i64 z.st, .string z.got, .int .i64 z.ag] 68 (0, 0))) := ⟨hO2, hT2, hV2⟩
          clear hzz hO2 hT2 hb2 hV2 hw2 HO HG
          go_wp2_with fail
          rw [HW2.out]
          refine hcall.mono ?_
          rintro e w3 ⟨rfl, hb3⟩
          obtain ⟨hO2, hT2, hV2⟩ := HC.out
          have hO3 := hO2.below hb3 (Nat.le_refl _)
          have hT3 := hT2.trans (Tch.of_below hb3)
          have hV3 : w3.heap[wr.heap.size]? = some (.cells #[.int .i64 z.id, .string z.key, .int .i64 z.fe, .int .i64 z.fr, .int .i64 z.st, .string z.got, .int .i64 z.ag] 68 (0, 0)) := (hb3.block _ (Array.getElem?_eq_some_iff.1 hV2).1).trans hV2
          have x0 : w3.cell? ⟨wr.heap.size, 0, none⟩ = some (.int .i64 z.id) := by rw [cell_of_row w3 wr.heap.size 0 _ _ (0, 0) hV3]; rfl
          have x1 : w3.cell? ⟨wr.heap.size, 1, none⟩ = some (.string z.key) := by rw [cell_of_row w3 wr.heap.size 1 _ _ (0, 0) hV3]; rfl
          have x2 : w3.cell? ⟨wr.heap.size, 2, none⟩ = some (.int .i64 z.fe) := by rw [cell_of_row w3 wr.heap.size 2 _ _ (0, 0) hV3]; rfl
          have x3 : w3.cell? ⟨wr.heap.size, 3, none⟩ = some (.int .i64 z.fr) := by rw [cell_of_row w3 wr.heap.size 3 _ _ (0, 0) hV3]; rfl
          have x4 : w3.cell? ⟨wr.heap.size, 4, none⟩ = some (.int .i64 z.st) := by rw [cell_of_row w3 wr.heap.size 4 _ _ (0, 0) hV3]; rfl
          have x5 : w3.cell? ⟨wr.heap.size, 5, none⟩ = some (.string z.got) := by rw [cell_of_row w3 wr.heap.size 5 _ _ (0, 0) hV3]; rfl
          have x6 : w3.cell? ⟨wr.heap.size, 6, none⟩ = some (.int .i64 z.ag) := by rw [cell_of_row w3 wr.heap.size 6 _ _ (0, 0) hV3]; rfl
          obtain ⟨y0, y1, y2, y3, y4, y5, y6⟩ := hO3.cellP n (by rw [HML.out]; omega)
          have hR3 : w3.ownsRow base 68 7 (.slice (some ⟨G, 0, none⟩) L.length c) L.length (cltl M) := by have h := hO3; unfold OwnCli at h; rwa [HML.out] at h
          have f0 := World.ownsRow.frozenAt hR3 (n * 7)
          have f1 := World.ownsRow.frozenAt hR3 (n * 7 + 1)
          have f2 := World.ownsRow.frozenAt hR3 (n * 7 + 2)
          have f3 := World.ownsRow.frozenAt hR3 (n * 7 + 3)
          have f4 := World.ownsRow.frozenAt hR3 (n * 7 + 4)
          have f5 := World.ownsRow.frozenAt hR3 (n * 7 + 5)
          have f6 := World.ownsRow.frozenAt hR3 (n * 7 + 6)
          have HST : Hid (OwnCli (((((((w3.setCell ⟨G, n * 7, none⟩ (.int .i64 z.id)).setCell ⟨G, n * 7 + 1, none⟩ (.string z.key)).setCell ⟨G, n * 7 + 2, none⟩ (.int .i64 z.fe)).setCell ⟨G, n * 7 + 3, none⟩ (.int .i64 z.fr)).setCell ⟨G, n * 7 + 4, none⟩ (.int .i64 z.st)).setCell ⟨G, n * 7 + 5, none⟩ (.string z.got)).setCell ⟨G, n * 7 + 6, none⟩ (.int .i64 z.ag)) base 68 (.slice (some ⟨G, 0, none⟩) L.length c) (M.set n z) ∧ Tch (fun k => k = G) w (((((((w3.setCell ⟨G, n * 7, none⟩ (.int .i64 z.id)).setCell ⟨G, n * 7 + 1, none⟩ (.string z.key)).setCell ⟨G, n * 7 + 2, none⟩ (.int .i64 z.fe)).setCell ⟨G, n * 7 + 3, none⟩ (.int .i64 z.fr)).setCell ⟨G, n * 7 + 4, none⟩ (.int .i64 z.st)).setCell ⟨G, n * 7 + 5, none⟩ (.string z.got)).setCell ⟨G, n * 7 + 6, none⟩ (.int .i64 z.ag))) := ⟨(hO3.stored HML.out.symm n z).1, hT3.trans (Tch.of_grown (hO3.stored HML.out.symm n z).2 (fun k e => by cases e; rfl))⟩
          clear hO2 hT2 hV2 hO3 hR3 hT3 hV3 hb3 HC hcall
          go_wp2_with fail
          go_roundw
          case rel =>
            try ((repeat apply Exists.intro); refine ⟨?_, rfl⟩)
            have hML := HML.out
            have hMT := HMT.out
            have hN := HN.out
            refine ⟨⟨k + 1, n + 1, M.set n z, by omega, by go_num, by go_num, by omega, ?_, by show _ = _; rw [List.length_set]; exact hML, ?_, ?_, HST.out.1, HST.out.2⟩⟩
            · show n + 1 = _
              rw [HZ.out, List.length_append, ← hN]
              rfl
            · show (M.set n z).take (n + 1) = _
              rw [HZ.out, ← hMT, List.take_succ_eq_append_getElem (by rw [List.length_set]; omega), List.getElem_set_self, List.take_set_of_le (Nat.le_refl _)]
            · show (M.set n z).drop (k + 1) = L.drop (k + 1)
              rw [List.drop_set_of_lt (by omega), ← List.drop_drop, HMD.out, List.drop_drop]
          case measure => simp [intOf]; omega
      · have hke : k = L.length := by omega
        subst hke
        have hML := HML.out
        have hMT := HMT.out
        rw [List.take_length] at hMT
        have hnl : n < L.length := hnk
        obtain ⟨cur, hg, hy1, hy2, hy3, hy4, hcl, hct⟩ := HO.out.row
        have hzl := zeroCli_len (L.length - n)
        have hfit : n * 7 + (Builtin.zeroCells (Value.agg #[.int .i64 0, .string ⟨#[]⟩, .int .i64 0, .int .i64 0, .int .i64 0, .string ⟨#[]⟩, .int .i64 0]).cells (L.length - n)).toList.length ≤ cur.length := by rw [hzl]; omega
        have hclr : ∀ ty cc, (Builtin.clear_ #[49] ty #[.slice (some ⟨G, n * 7, none⟩) (L.length - n) cc]).run Try.prog wr = .ok (.tuple #[]) (wr.setRow G (splice cur (n * 7) (Builtin.zeroCells (Value.agg #[.int .i64 0, .string ⟨#[]⟩, .int .i64 0, .int .i64 0, .int .i64 0, .string ⟨#[]⟩, .int .i64 0]).cells (L.length - n)).toList).toArray) := fun ty cc =>
          run_clear_x wr 49 68 ty _ Try.underlying49 Try.zeroXCli (L.length - n) (by omega) (zeroCli_one _) G (n * 7) cc cur 68 hg hfit
        obtain ⟨W2, hW2⟩ : ∃ W2, wr.setRow G (splice cur (n * 7) (Builtin.zeroCells (Value.agg #[.int .i64 0, .string ⟨#[]⟩, .int .i64 0, .int .i64 0, .int .i64 0, .string ⟨#[]⟩, .int .i64 0]).cells (L.length - n)).toList).toArray = W2 := ⟨_, rfl⟩
        rw [hW2] at hclr
        have HF : Hid (OwnCli W2 base 68 (.slice (some ⟨G, 0, none⟩) n c) (keepX p L) ∧ Tch (fun k => k = G) w W2) := by
          have hnl2 : (keepX p L).length = n := by rw [← hMT, List.length_take]; omega
          refine ⟨?_, ?_⟩
          · rw [← hnl2]
            refine OwnCli.of_row (cur := splice cur (n * 7) (Builtin.zeroCells (Value.agg #[.int .i64 0, .string ⟨#[]⟩, .int .i64 0, .int .i64 0, .int .i64 0, .string ⟨#[]⟩, .int .i64 0]).cells (L.length - n)).toList) ?_ hbG (by omega) hcm (by rw [length_splice _ _ _ hfit]; exact hcl) ?_
            · rw [← hW2]; exact setRow_heap wr G _ _ _ _ hg
            · rw [hnl2]
              have e1 : (splice cur (n * 7) (Builtin.zeroCells (Value.agg #[.int .i64 0, .string ⟨#[]⟩, .int .i64 0, .int .i64 0, .int .i64 0, .string ⟨#[]⟩, .int .i64 0]).cells (L.length - n)).toList).take (n * 7) = cur.take (n * 7) := by
                unfold splice
                rw [List.take_append_of_le_length (by simp; omega), List.take_take, Nat.min_eq_left (Nat.le_refl _)]
              have e2 : cur.take (n * 7) = (cltl M).take (n * 7) := by rw [← hct, List.take_take, Nat.min_eq_left (by omega)]
              have e3 : ∀ (A : List (Cli)) (i : Nat), (cltl A).take (i * 7) = cltl (A.take i) := by
                intro A
                induction A with
                | nil => intro i; simp [cltl]
                | cons f A ih =>
                  intro i
                  cases i with
                  | zero => simp [cltl]
                  | succ i => rw [cltl_cons, show (i + 1) * 7 = i * 7 + 1 + 1 + 1 + 1 + 1 + 1 + 1 by omega]; simp only [Cli.cells, List.cons_append, List.take_succ_cons, List.nil_append, cltl_cons, ih]
              rw [e1, e2, e3, hMT]
          · rw [← hW2]
            exact HG.out.trans ⟨below_setRow (Below.refl 0 wr) (Nat.zero_le _) _, fun k _ hn => setRow_other wr G k _ hn⟩
        have hi1 : (0 : Int) ≤ (n : Int) := by omega
        have hi2 : (n : Int) ≤ (L.length : Int) := by omega
        have hi3 : (n : Int) ≤ (c : Int) := by omega
        have hi4 : (L.length : Int) ≤ (c : Int) := by omega
        have hd1 : ¬ (c = n) := by omega
        clear hML hMT HN HML HMT HMD HO HG hW2 hg hcl hct hzl hfit hy1 hy2 hy3 hy4
        go_wp2
        go_ret
        exact ⟨_, _, rfl, HF.out.1, HF.out.2⟩
  · rw [hidx]
    have HW : Hid (keepX p L = L) := keepX_none h
    clear h hidx
    go_wp2_with fail
    go_ret
    exact ⟨_, _, rfl, by rw [HW.out]; exact ho1, HT1.out⟩
/-- All that the predicate names go. -/
theorem deleteCli_any (g : Nat) (lb : Array Value) (p : Cli → Bool) (eg : ∀ args w, (callFunc g args).run Try.prog w = .ok (.enter g args) w) (w : World) (base : Nat) (v : Value) (L : List (Cli)) (ho : OwnCli w base 68 v L) (hm : L.length ≤ 1048576)
    (hp : ∀ (W : World) (x : Cli), Tch (fun k => v.ownBlock = some k) w W → Calls Try.prog g (#[.agg #[.int .i64 x.id, .string x.key, .int .i64 x.fe, .int .i64 x.fr, .int .i64 x.st, .string x.got, .int .i64 x.ag]] ++ lb) W fun e w' => e = .returned (.bool (p x)) ∧ Below W.heap.size W w') :
    Calls Try.prog 58 #[v, .func (.func g) #[] lb] w fun e w' => ∃ v', e = .returned v' ∧ OwnCli w' base 68 v' (keepX p L) ∧ Tch (fun k => v.ownBlock = some k) w w' := by
  rcases ho.2 with ⟨rfl, h0⟩ | ⟨G, c, cur, rfl, _⟩
  · have hl : L = [] := List.length_eq_zero_iff.1 h0
    subst hl
    have c1 := indexCli_any g lb p eg w none 0 [] (fun j hj => by simp at hj) (by simp) (fun W x hb => (hp W x (Tch.of_below hb)).mono (by rintro e w' ⟨rfl, h⟩; exact ⟨rfl, hb.trans (h.mono hb.size)⟩))
    go_enter Try.func58, Try.ntmps58
    go_wp2_with fail
    refine c1.mono ?_
    rintro e w' ⟨rfl, hb⟩
    clear c1
    rw [idxX_miss (fun x hx => by cases hx)]
    go_wp2_with fail
    go_ret
    exact ⟨_, rfl, ho.below hb (Nat.le_refl _), Tch.of_below hb⟩
  · refine (deleteCli_row g lb p eg w base G c L ho hm (fun W x ht => hp W x (ht.weak (fun k e => by rw [e]; rfl)))).mono ?_
    rintro e w' ⟨n, c', rfl, h1, h2⟩
    exact ⟨_, rfl, h1, h2.weak (fun k e => by rw [e]; rfl)⟩
end Go.Proofs.Ytonaaimefcgcnaa
