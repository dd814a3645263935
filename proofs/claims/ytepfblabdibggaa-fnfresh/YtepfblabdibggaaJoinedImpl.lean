/- Texts laid one behind the other in one room: the program's walk. -/
import Derived.Test.YtepfblabdibggaaJoinPlain
import Derived.Lib.BufferWrite
namespace Go.Proofs.Ytepfblabdibggaa
open Go.RowKit

theorem size_zeroJ {s : ByteArray} (h : s.size = 0) : s = ByteArray.empty := by
  cases s with | mk d => simp [ByteArray.size] at h; simp [h]; rfl
theorem bts_cells (l : List UInt8) : Lib.byteCells l = bts l := rfl
theorem lat_new (w : World) (t : TypeId) (L : List ByteArray) : LAt (w.alloc (.cells (strs L).toArray t)) (some ⟨w.heap.size, 0, none⟩) L (w.alloc (.cells (strs L).toArray t)).heap.size := by
  intro j hj
  refine ⟨w.heap.size, 0, rfl, by simp, ?_⟩
  have h := heap_alloc_new w (.cells (strs L).toArray t)
  unfold World.cell?
  rw [h]
  simp [strs, hj]
set_option maxRecDepth 100000 in
set_option maxHeartbeats 2000000 in
theorem joined_any (w : World) (a : Option Addr) (c : Nat) (L : List ByteArray) (hA : LAt w a L w.heap.size) (hm : L.length ≤ 1048576) (hs : (jn L).length ≤ 1000000000) :
    Calls Try.prog 47 #[.slice a L.length c] w fun e w' => e = .returned (.string (jnB L)) ∧ Below w.heap.size w w' := by
  obtain ⟨i0, hi, hz0, hz1, hz2⟩ := info_parts Try.info5
  obtain ⟨n, hn⟩ : ∃ n, (jn L).length = n := ⟨_, rfl⟩
  have HN : Hid ((jn L).length = n) := hn
  rw [hn] at hs
  clear hn
  go_enter Try.func47, Try.ntmps47
  go_wp2
  go_loopw [3, 13] (fun z i wr => Box (∃ (k q : Nat), k ≤ L.length ∧ i = .int .i64 k ∧ z = .int .i64 q ∧ q ≤ n ∧ Hid (q = (jn (L.take k)).length) ∧ w = wr))
    (fun _ i _ => L.length - (intOf i).toNat)
  case atStart => exact ⟨⟨0, 0, by omega, rfl, rfl, by omega, by simp [jn, Hid], rfl⟩⟩
  case round =>
    obtain ⟨k, q, hk, rfl, rfl, hq, HQ, rfl⟩ := hrel.out
    by_cases hlt : k < L.length
    · obtain ⟨g, off, rfl, hg, hc⟩ := hA k hlt
      have h1 := jn_len_succ hlt
      have h2 := jn_take_le L (k + 1)
      rw [HN.out] at h2
      obtain ⟨z, hz⟩ : ∃ z, L[k] = z := ⟨_, rfl⟩
      rw [hz] at hc h1
      have h3 : q + z.size ≤ n := by have := HQ.out; omega
      have HQ' : Hid (q + z.size = (jn (L.take (k + 1))).length) := by show _ = _; have := HQ.out; omega
      have hi1 : (0 : Int) ≤ (k : Int) := by omega
      have hi2 : (k : Int) < (L.length : Int) := by omega
      clear hrel hA h1 h2 hz HQ
      go_wp2
      go_roundw
      case rel =>
        try ((repeat apply Exists.intro); refine ⟨?_, rfl⟩)
        exact ⟨⟨k + 1, q + z.size, by omega, by go_num, by go_num, h3, HQ', by first | rfl | trivial⟩⟩
      case measure => simp [intOf]; omega
    · have hke : k = L.length := by omega
      have HQ' : q = n := by have h1 := HQ.out; have h2 := HN.out; rw [hke, List.take_length] at h1; omega
      subst HQ'
      clear hrel HQ hq
      go_wp2_with (at_make; refine wpList_make_full _ rfl _ _ 22 rfl w.heap.size 5 i0 (.int .u8 0) 1 Try.underlying22 hi hz0 hz1 .i64 .i64 _ _ q rfl rfl rfl rfl (by rw [hz2]; omega) (by unfold maxLen; omega) (Nat.le_refl _) ?_; intro w0 hown0 hgrow0)
      obtain ⟨G, hG⟩ : ∃ G, w.heap.size = G := ⟨_, rfl⟩
      have hg0 : Hid (w0.heap[G]? = some (.cells (bts (jnTo L 0)).toArray 5 (0, 0))) := by
        obtain ⟨_, h | ⟨g, cap, cur, hv, _, hg, h1, h2, h3, h4⟩⟩ := hown0
        · exact absurd h.1 (by simp)
        · simp only [Value.slice.injEq, Option.some.injEq, Addr.mk.injEq, and_true] at hv
          obtain ⟨rfl, _, rfl⟩ := hv
          show _ = _
          rw [← hG, hg, jnTo_zero, HN.out]
          have e : bts (List.replicate q 0) = (madeCells (Value.int .u8 0).cells (q * 1)).toList := by
            rw [show (Value.int .u8 0).cells = #[Value.int .u8 0] from rfl, toList_madeCells_one]
            simp [bts]
          rw [e, ← h4, List.take_of_length_le (by simp [h3])]
      have hb0 : Below G w w0 := by rw [← hG]; exact Below.grown (Below.refl _ _) hgrow0 (Nat.le_refl _) (fun k hk => by cases hk)
      clear hown0 hgrow0
      rw [hG] at hA ⊢
      go_wp2
      go_loopw [7, 26] (fun z i wr => Box (∃ (k p : Nat), k ≤ L.length ∧ i = .int .i64 k ∧ z = .int .i64 p ∧ p ≤ q ∧ Hid (p = (jn (L.take k)).length) ∧ Hid (wr.heap[G]? = some (.cells (bts (jnTo L k)).toArray 5 (0, 0))) ∧ Below G w wr))
        (fun _ i _ => L.length - (intOf i).toNat)
      case atStart => exact ⟨⟨0, 0, by omega, rfl, rfl, by omega, by simp [jn, Hid], hg0, hb0⟩⟩
      case round =>
        obtain ⟨k, p, hk, rfl, rfl, hp, HP, HG, hbel⟩ := hrel.out
        by_cases hlt : k < L.length
        · obtain ⟨g, off, rfl, hg, hc⟩ := (hA.below hbel (Nat.le_refl _)) k hlt
          have h1 := jn_len_succ hlt
          have h2 := jn_take_le L (k + 1)
          have h4 := jnTo_succ hlt
          have h5 := jnTo_length L k
          rw [HN.out] at h2 h5
          rw [← HP.out] at h4 h1
          obtain ⟨z, hz⟩ : ∃ z, L[k] = z := ⟨_, rfl⟩
          rw [hz] at hc h1 h4
          have h3 : p + z.size ≤ q := by omega
          have HP' : Hid (p + z.size = (jn (L.take (k + 1))).length) := by show _ = _; omega
          have H5 : Hid ((jnTo L k).length = q) := h5
          have H4 : Hid (jnTo L (k + 1) = (jnTo L k).take p ++ z.data.toList ++ (jnTo L k).drop (p + z.size)) := h4
          have hi1 : (0 : Int) ≤ (k : Int) := by omega
          have hi2 : (k : Int) < (L.length : Int) := by omega
          clear hrel hA h1 h2 hz HP h4 h5
          by_cases hz0 : z.size = 0
          · obtain rfl := size_zeroJ hz0
            have hcp := fun (d : Option Addr) (dl dc : Nat) (w : World) => Lib.run_copy_empty_string (P := Try.prog) w 22 9 3 5 d dl dc ByteArray.empty Try.underlying22 (by kernel_rfl) rfl
            have HG' : Hid (wr.heap[G]? = some (.cells (bts (jnTo L (k + 1))).toArray 5 (0, 0))) := by
              have e : jnTo L (k + 1) = jnTo L k := by
                rw [H4.out]
                show (jnTo L k).take p ++ [] ++ (jnTo L k).drop (p + 0) = jnTo L k
                rw [List.append_nil, Nat.add_zero, List.take_append_drop]
              rw [e]; exact HG.out
            clear HG H4 h3
            go_wp2
            all_goals
              go_roundw
              case rel =>
                try ((repeat apply Exists.intro); refine ⟨?_, rfl⟩)
                exact ⟨⟨k + 1, p + 0, by omega, by go_num, by go_num, by omega, HP', HG', hbel⟩⟩
              case measure => simp [intOf]; omega
          · have hz1 : 0 < z.size := by omega
            have hcp := Lib.run_copy_row_string (P := Try.prog) wr 22 9 3 5 G p z.size z.size z (bts (jnTo L k)).toArray 5 Try.underlying22 (by kernel_rfl) HG.out (Nat.le_refl _) (by have := H5.out; simp [bts_length]; omega)
            have hg1 := setRow_heap wr G (bts (jnTo L k)).toArray ((bts (jnTo L k)).toArray.toList.take p ++ Lib.byteCells z.data.toList ++ (bts (jnTo L k)).toArray.toList.drop (p + z.size)).toArray 5 _ HG.out
            obtain ⟨w1, hw1⟩ : ∃ w1, wr.setRow G ((bts (jnTo L k)).toArray.toList.take p ++ Lib.byteCells z.data.toList ++ (bts (jnTo L k)).toArray.toList.drop (p + z.size)).toArray = w1 := ⟨_, rfl⟩
            have hgr1 : wr.grownBy w1 (some G) := by rw [← hw1]; exact ⟨rfl, rfl, rfl, by simp [World.setRow], fun k _ hne => setRow_other wr G k _ (fun e => hne (by rw [e]))⟩
            rw [hw1] at hcp hg1
            have HG1 : Hid (w1.heap[G]? = some (.cells (bts (jnTo L (k + 1))).toArray 5 (0, 0))) := by
              show _ = _
              rw [hg1, H4.out]
              simp [bts_cells, bts]
            have HB1 : Hid (Below G w w1) := Below.grown hbel hgr1 (by have := hbel.size; omega) (fun j hj => by simp at hj; omega)
            clear hg1 hw1 hgr1 HG H4 H5
            go_wp2
            go_roundw
            case rel =>
              try ((repeat apply Exists.intro); refine ⟨?_, rfl⟩)
              exact ⟨⟨k + 1, p + z.size, by omega, by go_num, by go_num, h3, HP', HG1, HB1.out⟩⟩
            case measure => simp [intOf]; omega
        · have hke : k = L.length := by omega
          have hO : OwnB wr G 5 (.slice (some ⟨G, 0, none⟩) q q) (jn L) := by
            have h1 := HG.out
            rw [hke, jnTo_all] at h1
            unfold OwnB
            rw [HN.out]
            exact ⟨by rw [bts_length, HN.out]; omega, .inr ⟨G, q, _, rfl, Nat.le_refl _, h1, Nat.le_refl _, by unfold maxLen; omega, by have := HN.out; simp [bts_length]; omega, by have := HN.out; exact List.take_of_length_le (by simp [bts_length]; omega)⟩⟩
          have hcv := hO.text (P := Try.prog) 22 9 Try.underlying22 Try.underlying5 Try.underlying9 (by simp)
          clear hO HG
          go_wp2
          go_ret
          exact ⟨rfl, by rw [hG]; exact hbel⟩
end Go.Proofs.Ytepfblabdibggaa
