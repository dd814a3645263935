/- The other text's StreamLeave. -/
import Derived.Test.YtmpnjijbahjinafStmBase
import Derived.Test.YtmpnjijbahjinafStmRow
namespace Go.Proofs.Ytmpnjijbahjinaf
open Go.RowKit Go.Sort

/-- 'append(v, f)' of one pair onto pairs that are owned, at a step of a statement that leaves its order open; f lies in the block B. -/
theorem step_snocR {P : Program} {ops : Array Oper} {o : Oper} {a : Act} {K : Act → World → Prop} {Q : Exit → Act → World → Prop} {E : Prop} {w : World} (hgd : o.guard = none) (s x : Operand) (t : TypeId)
    (ho : o.op = .call { callee := .builtin .append, args := #[s, x], argTypes := #[t, t] }) (base : Nat) (e : TypeId) (ht : P.underlying t = some (.slice e))
    (hinfo : (P.info? e).map (fun i => (i.zero, i.size, i.bytes)) = some (some (.agg #[.int .i64 0, .int .i64 0]), 2, 16)) (v : Value) (L : List (Int × Int)) (hs : a.eval s = v) (hown : OwnP w base e v L)
    (B : Nat) (f : Int × Int) (fr : Nat × Nat) (hx : a.eval x = .slice (some ⟨B, 0, none⟩) 1 1) (hB : w.heap[B]? = some (.cells #[.int .i64 f.1, .int .i64 f.2] e fr)) (hlen : L.length < 10000000) (hbase : base ≤ w.heap.size)
    (h : ∀ g cap w', OwnP w' base e (.slice (some ⟨g, 0, none⟩) (L.length + 1) cap) (L ++ [f]) → w.grownBy w' v.ownBlock → K (a.put o.dst (.slice (some ⟨g, 0, none⟩) (L.length + 1) cap)) w') :
    if Region.wanted o (yielded ops a.tmps) = true then Oper.wp P o a w K Q else E := by
  obtain ⟨i0, hi, hz0, hz1, hz2⟩ := info_parts hinfo
  refine step_append_lies w hgd s x t ho base e i0 _ 2 16 ht hi hz0 hz1 hz2 rfl (by decide) v L.length (prl L) hs hown ⟨B, 0, none⟩ 1 1 (prl [f]) hx rfl (fun j u hu => World.news_of_block hB j u (by simpa [prl, prCells] using hu)) ?_ (by decide) (by unfold maxLen; omega) (by omega) hbase w.heap.size rfl ?_
  · intro u hu
    simp [prl, prCells] at hu
    rcases hu with rfl | rfl <;> rfl
  · intro g cap w' h1 h2 _ _
    refine h g cap w' ?_ h2
    unfold OwnP
    rw [show prl (L ++ [f]) = prl L ++ prl [f] by simp [prl], List.length_append, List.length_singleton]
    exact h1
def keepL (l : List (Int × Int)) (id : Int) : List (Int × Int) := l.filter fun r => !decide (r.1 = id)
theorem keepL_len (l : List (Int × Int)) (id : Int) : (keepL l id).length ≤ l.length := List.length_filter_le _ _
theorem keepL_on (l : List (Int × Int)) (id : Int) (k : Nat) (hk : k < l.length) : keepL (l.take (k + 1)) id = if l[k].1 = id then keepL (l.take k) id else keepL (l.take k) id ++ [l[k]] := by
  unfold keepL
  rw [List.take_succ_eq_append_getElem hk, List.filter_append]
  by_cases h : l[k].1 = id <;> simp [h]
/-- What StreamLeave has at hand: readers that stay, in the variable T; their rows from T + 1 on. -/
structure LvInv (w : World) (T : Nat) (x y : Value) (G : List (Int × Int)) (va : Option Addr) (vc : Nat) (wr : World) : Prop where
  below : Below w.heap.size w wr
  box : MBox wr T x y (.slice va G.length vc)
  own : OwnP wr (T + 1) 38 (.slice va G.length vc) G
theorem LvInv.on {w : World} {T : Nat} {x y : Value} {G : List (Int × Int)} {va : Option Addr} {vc : Nat} {wr wx : World} (h : LvInv w T x y G va vc wr) (hb : Below wr.heap.size wr wx) : LvInv w T x y G va vc wx := ⟨h.below.trans (hb.mono h.below.size), h.box.on hb, h.own.below hb (Nat.le_refl _)⟩
theorem LvInv.add {w : World} {T : Nat} {x y : Value} {G : List (Int × Int)} {va : Option Addr} {vc g c : Nat} {f : Int × Int} {wr w9 : World} (h : LvInv w T x y G va vc wr) (hT : w.heap.size ≤ T) (hg : wr.grownBy w9 (Value.slice va G.length vc).ownBlock) (ho : OwnP w9 (T + 1) 38 (.slice (some ⟨g, 0, none⟩) (G.length + 1) c) (G ++ [f])) :
    MBox w9 T x y (.slice va G.length vc) ∧ LvInv w T x y (G ++ [f]) (some ⟨g, 0, none⟩) c (w9.setCell ⟨T, 2, none⟩ (.slice (some ⟨g, 0, none⟩) (G.length + 1) c)) ∧ (∀ k, k < wr.heap.size → k < T + 1 → k ≠ T → (w9.setCell ⟨T, 2, none⟩ (.slice (some ⟨g, 0, none⟩) (G.length + 1) c)).heap[k]? = wr.heap[k]?) := by
  have hk : ∀ k, k < wr.heap.size → k < T + 1 → w9.heap[k]? = wr.heap[k]? := fun k h1 h2 => hg.block k h1 fun e => by have := (h.own.lt k e.symm).1; omega
  have hB9 : MBox w9 T x y (.slice va G.length vc) := h.box.kept (hk T h.box.lt (by omega))
  have hb9 : Below w.heap.size w w9 := h.below.grown hg h.below.size (fun k e => by have := (h.own.lt k e).1; omega)
  refine ⟨hB9, ⟨hb9.setCell hT _, ?_, ?_⟩, fun k h1 h2 h3 => (Below.heap_setCell _ _ _ _ h3).trans (hk k h1 h2)⟩
  · rw [show (G ++ [f]).length = G.length + 1 by simp]
    exact hB9.set2 _
  · rw [show (G ++ [f]).length = G.length + 1 by simp]
    exact ho.kept fun k hk => Below.heap_setCell _ _ _ _ (show k ≠ T by have := (ho.lt k hk).1; omega)
set_option maxRecDepth 100000 in
set_option maxHeartbeats 4000000 in
theorem specStreamLeave_any (w : World) (a : Option Addr) (c : Nat) (S : Stm) (id : Int) (hE : PAt w a S.rd w.heap.size) (hm : S.rd.length ≤ 1048576) :
    Calls Try.prog 27 #[.agg #[.int .i64 S.st, .string S.text, .slice a S.rd.length c], .int .i64 id] w fun e w' => ∃ v, e = .returned v ∧ MOwn w' w.heap.size v (leaveM S id) ∧ Below w.heap.size w w' := by
  obtain ⟨st, t, rd⟩ := S
  show Calls _ _ _ _ fun e w' => ∃ v, e = .returned v ∧ MOwn w' w.heap.size v ⟨st, t, keepL rd id⟩ ∧ Below w.heap.size w w'
  dsimp only at hE hm ⊢
  obtain ⟨w0, hw0⟩ : ∃ x, w.alloc (.cells #[.int .i64 st, .string t, .slice a rd.length c] 26) = x := ⟨_, rfl⟩
  obtain ⟨w1, hw1⟩ : ∃ x, w0.alloc (.cells #[.int .i64 0, .string ⟨#[]⟩, .slice none 0 0] 26) = x := ⟨_, rfl⟩
  obtain ⟨w2, hw2⟩ : ∃ x, w1.alloc (.cells #[.int .i64 st, .string t, .slice none 0 0] 26) = x := ⟨_, rfl⟩
  have hb0 : Below w.heap.size w w0 := by rw [← hw0]; exact (Below.refl _ _).alloc (Nat.le_refl _) _
  have hb1 : Below w0.heap.size w0 w1 := by rw [← hw1]; exact (Below.refl _ _).alloc (Nat.le_refl _) _
  have hb2 : Below w1.heap.size w1 w2 := by rw [← hw2]; exact (Below.refl _ _).alloc (Nat.le_refl _) _
  have s0 : w0.heap.size = w.heap.size + 1 := by rw [← hw0]; simp
  have s1 : w1.heap.size = w.heap.size + 1 + 1 := by rw [← hw1]; simp; omega
  have hb12 : Below w0.heap.size w0 w2 := hb1.trans (hb2.mono hb1.size)
  have hbw : Below w.heap.size w w2 := hb0.trans (hb12.mono hb0.size)
  have hB0 : MBox w0 w.heap.size (.int .i64 st) (.string t) (.slice a rd.length c) := by rw [← hw0]; exact MBox.new _ _ _ _
  have hB : MBox w2 w.heap.size (.int .i64 st) (.string t) (.slice a rd.length c) := hB0.on hb12
  have hR : MBox w2 (w.heap.size + 1) (.int .i64 0) (.string ⟨#[]⟩) (.slice none 0 0) := by
    have h : MBox w1 (w.heap.size + 1) (.int .i64 0) (.string ⟨#[]⟩) (.slice none 0 0) := by rw [← hw1, ← s0]; exact MBox.new _ _ _ _
    exact h.on hb2
  have hT : MBox w2 (w.heap.size + 1 + 1) (.int .i64 st) (.string t) (.slice none 0 0) := by rw [← hw2, ← s1]; exact MBox.new _ _ _ _
  have HW : Hid (((w.alloc (.cells #[.int .i64 st, .string t, .slice a rd.length c] 26)).alloc (.cells #[.int .i64 0, .string ⟨#[]⟩, .slice none 0 0] 26)).alloc (.cells #[.int .i64 st, .string t, .slice none 0 0] 26) = w2) := by rw [hw0, hw1]; exact hw2
  obtain ⟨b0, b1, b2⟩ := (hB0.on hb1).cells
  rw [← hw1, ← hw0] at b0 b1 b2
  have hI0 : LvInv w (w.heap.size + 1 + 1) (.int .i64 st) (.string t) [] none 0 w2 := ⟨hbw, hT, ⟨by simp [prl], .inl ⟨rfl, rfl⟩⟩⟩
  clear hw0 hw1 hw2 s0 s1 hb0 hb1 hb2 hb12 hB0 hT
  go_enter Try.func27, Try.ntmps27
  go_wp2_with fail
  rw [HW.out]
  clear b0 b1 b2
  go_loopw [6] (fun i wr => Box (∃ (k : Nat) (va : Option Addr) (vc : Nat), k ≤ rd.length ∧ i = .int .i64 k ∧ MBox wr w.heap.size (.int .i64 st) (.string t) (.slice a rd.length c) ∧ MBox wr (w.heap.size + 1) (.int .i64 0) (.string ⟨#[]⟩) (.slice none 0 0) ∧ LvInv w (w.heap.size + 1 + 1) (.int .i64 st) (.string t) (keepL (rd.take k) id) va vc wr))
    (fun i _ => rd.length - (intOf i).toNat)
  case atStart => exact ⟨⟨0, none, 0, by omega, rfl, hB, hR, hI0⟩⟩
  case round =>
    obtain ⟨k, va, vc, hk, rfl, hB1, hR1, hI⟩ := hrel.out
    clear hrel hI0 hB hR hbw
    obtain ⟨b0, b1, b2⟩ := hB1.cells
    by_cases hlt : k < rd.length
    · obtain ⟨gg, offg, rfl, _, q0, q1⟩ := (hE.below hI.below (Nat.le_refl _)) k hlt
      have HON := keepL_on rd id k hlt
      have hln : (keepL (rd.take k) id).length < 10000000 := by have := keepL_len (rd.take k) id; rw [List.length_take] at this; omega
      obtain ⟨f, hf⟩ : ∃ f, rd[k] = f := ⟨_, rfl⟩
      rw [hf] at q0 q1 HON
      have hi1 : (0 : Int) ≤ (k : Int) := by omega
      have hi3 : (k : Int) < (rd.length : Int) := by omega
      have HK : Hid ((k : Int) < (rd.length : Int)) := hi3
      by_cases hx : f.1 = id
      · have HQ : Hid (keepL (rd.take (k + 1)) id = keepL (rd.take k) id) := by show _ = _; rw [HON, if_pos hx]
        have hx' : (f.1 != id) = false := by simp [hx]
        have HA : Hid (MBox wr w.heap.size (.int .i64 st) (.string t) (.slice (some ⟨gg, offg, none⟩) rd.length c) ∧ MBox wr (w.heap.size + 1) (.int .i64 0) (.string ⟨#[]⟩) (.slice none 0 0) ∧ LvInv w (w.heap.size + 1 + 1) (.int .i64 st) (.string t) (keepL (rd.take k) id) va vc wr) := ⟨hB1, hR1, hI⟩
        clear hB1 hR1 hI HON hE hf hx
        go_wp2_with fail
        go_roundw
        case rel =>
          try ((repeat apply Exists.intro); refine ⟨?_, rfl⟩)
          exact ⟨⟨k + 1, va, vc, by have := HK.out; omega, by go_num, HA.out.1, HA.out.2.1, by rw [HQ.out]; exact HA.out.2.2⟩⟩
        case measure => have := HK.out; simp [intOf]; omega
      · have HQ : Hid (keepL (rd.take (k + 1)) id = keepL (rd.take k) id ++ [f]) := by show _ = _; rw [HON, if_neg hx]
        have hx' : (f.1 != id) = true := by simp [hx]
        obtain ⟨G, hG⟩ : ∃ G, keepL (rd.take k) id = G := ⟨_, rfl⟩
        rw [hG] at HQ hI hln
        have hbA : Below wr.heap.size wr (wr.drew.alloc (.cells #[.int .i64 f.1, .int .i64 f.2] 38)) := (Below.drew (Below.refl _ _)).alloc (Nat.le_refl _) _
        obtain ⟨u0, u1, u2⟩ := hI.box.cells
        have u2b := (hI.box.on hbA).cells.2.2
        have u2c := (hI.box.on ((Below.refl _ _).alloc (Nat.le_refl _) (.cells #[.int .i64 f.1, .int .i64 f.2] 38))).cells.2.2
        have uf := hI.box.thaw 2
        have hbs : w.heap.size + 1 + 1 + 1 ≤ wr.heap.size := hI.box.lt
        have HI2 : Hid (LvInv w (w.heap.size + 1 + 1) (.int .i64 st) (.string t) G va vc (wr.drew.alloc (.cells #[.int .i64 f.1, .int .i64 f.2] 38))) := hI.on hbA
        have HBR : Hid (MBox (wr.drew.alloc (.cells #[.int .i64 f.1, .int .i64 f.2] 38)) w.heap.size (.int .i64 st) (.string t) (.slice (some ⟨gg, offg, none⟩) rd.length c) ∧ MBox (wr.drew.alloc (.cells #[.int .i64 f.1, .int .i64 f.2] 38)) (w.heap.size + 1) (.int .i64 0) (.string ⟨#[]⟩) (.slice none 0 0)) := ⟨hB1.on hbA, hR1.on hbA⟩
        clear hB1 hR1 hI HON hE hf hx hbA hG
        go_wp2_with fail
        go_region_law (refine step_snocR (by rfl) _ _ 24 (by rfl) (w.heap.size + 1 + 1 + 1) 38 Try.underlying24 Try.infoRdr _ G (by rfl) (by exact HI2.out.own) wr.heap.size f (0, 0) (by rfl) (by exact heap_alloc_new wr.drew _) hln (by first | exact Nat.le_succ_of_le hbs | (simp; omega)) ?_; intro g9 c9 w9 hown9 hgr9; obtain ⟨hT9, hinv9, hk9⟩ := HI2.out.add (by omega) hgr9 hown9; have x2 := hT9.cells.2.2; have xf := hT9.thaw 2)
        all_goals (
          have HN : Hid (MBox (w9.setCell ⟨w.heap.size + 1 + 1, 2, none⟩ (.slice (some ⟨g9, 0, none⟩) (G.length + 1) c9)) w.heap.size (.int .i64 st) (.string t) (.slice (some ⟨gg, offg, none⟩) rd.length c) ∧ MBox (w9.setCell ⟨w.heap.size + 1 + 1, 2, none⟩ (.slice (some ⟨g9, 0, none⟩) (G.length + 1) c9)) (w.heap.size + 1) (.int .i64 0) (.string ⟨#[]⟩) (.slice none 0 0) ∧ LvInv w (w.heap.size + 1 + 1) (.int .i64 st) (.string t) (G ++ [f]) (some ⟨g9, 0, none⟩) c9 (w9.setCell ⟨w.heap.size + 1 + 1, 2, none⟩ (.slice (some ⟨g9, 0, none⟩) (G.length + 1) c9))) := ⟨HBR.out.1.kept (hk9 _ HBR.out.1.lt (by omega) (by omega)), HBR.out.2.kept (hk9 _ HBR.out.2.lt (by omega) (by omega)), hinv9⟩
          clear hinv9 hgr9 hown9 hT9 hk9 HI2 HBR
          go_wp2_with fail
          refine ⟨?_, ?_⟩
          · exact ⟨⟨k + 1, _, _, by have := HK.out; omega, by go_num, HN.out.1, HN.out.2.1, by rw [HQ.out]; exact HN.out.2.2⟩⟩
          · have := HK.out; simp [intOf]; omega)
    · have hi3 : ¬ (k : Int) < (rd.length : Int) := by omega
      rw [List.take_of_length_le (by omega)] at hI
      obtain ⟨u0, u1, u2⟩ := hI.box.cells
      obtain ⟨r0, r1, r2⟩ := hR1.cells
      obtain ⟨f0, f1, f2⟩ := (⟨hR1.thaw 0, hR1.thaw 1, hR1.thaw 2⟩ : _ ∧ _ ∧ _)
      have HO : Hid (MOwn wr (w.heap.size + 1 + 1 + 1) (.agg #[.int .i64 st, .string t, .slice va (keepL rd id).length vc]) ⟨st, t, keepL rd id⟩ ∧ Below w.heap.size w wr) := ⟨⟨_, rfl, hI.own⟩, hI.below⟩
      clear hI hE hB1
      go_wp2_with fail
      obtain ⟨q0, q1, q2⟩ := (hR1.put (.int .i64 st) (.string t) (.slice va (keepL rd id).length vc)).cells
      refine bodyPost_ret (v := .agg #[.int .i64 st, .string t, .slice va (keepL rd id).length vc]) (by simp [results, Try.results27, go_sem, q0, q1, q2]) rfl ⟨_, rfl, (HO.out.1.put3 hR1 _ _ _).mono (by omega), Below.put3M HO.out.2 (by omega) _ _ _⟩
end Go.Proofs.Ytmpnjijbahjinaf
