/- The program's StreamJoin, what is done to the held stream. -/
import Derived.Test.YtmpnjijbahjinafHeldRight
import Derived.Test.YtmpnjijbahjinafHeldMore
import Derived.Test.YtmpnjijbahjinafHoldImpl
import Derived.Test.YtmpnjijbahjinafStmJoinPlain
import Derived.Test.YtmpnjijbahjinafInsReader
import Derived.Lib.QuietBelow
import Derived.BigQuiet
namespace Go.Proofs.Ytmpnjijbahjinaf
open Go.RowKit Go.Sort

theorem join1_eg : ∀ args w, (callFunc 35 args).run Try.prog w = .ok (.enter 35 args) w := enters_of Try.func35 (by kernel_rfl) rfl
set_option maxRecDepth 100000 in
set_option maxHeartbeats 4000000 in
theorem join1_any (w0 : World) (B T : Nat) (S : Stm) (v : Value) (id : Int) (W : World) (H : Held w0 B 1 S v W) (hT : W.heap[T]? = some (.cells #[.int .i64 id] 3 (0, 0))) (hok : okM S = true) (_ : S.text.size ≤ 1048576) (hm : S.rd.length ≤ 1048576) :
    Calls Try.prog 35 (#[.pointer (some ⟨B, 2, none⟩)] ++ #[.pointer (some ⟨T, 0, none⟩)]) W fun e w' => ∃ ok S' v', e = .returned (.bool ok) ∧ Held w0 B 1 S' v' w' ∧ Tch (fun k => k = B ∨ v.ownBlock = some k) W w' ∧ (S', ok) = joinM S id := by
  show Calls _ _ #[.pointer (some ⟨B, 2, none⟩), .pointer (some ⟨T, 0, none⟩)] _ _
  obtain ⟨a, c, rfl, hA⟩ := H.at
  obtain ⟨G, hG⟩ : ∃ G : Ending → World → Prop, G = fun e w' => ∃ ok S' v', e = .returned (.bool ok) ∧ Held w0 B 1 S' v' w' ∧ Tch (fun k => k = B ∨ (Value.slice a S.rd.length c).ownBlock = some k) W w' ∧ (S', ok) = joinM S id := ⟨_, rfl⟩
  rw [← hG]
  have HNO : Hid (∀ W', Below W.heap.size W W' → (S, false) = joinM S id → G (.returned (.bool false)) W') := by rw [hG]; exact fun W' hb e => ⟨false, _, _, rfl, H.on hb, Tch.of_below hb, e⟩
  have HYES : Hid (∀ W1 W' v' L, Below W.heap.size W W1 → Tch (fun k => (Value.slice a S.rd.length c).ownBlock = some k) W1 W' → OwnP W' w0.heap.size 38 v' L → (⟨S.st, S.text, L⟩, true) = joinM S id → G (.returned (.bool true)) (W'.setCell ⟨B, 4, none⟩ v')) := by
    rw [hG]
    intro W1 W' v' L hb ht ho e
    obtain ⟨_, h1, h2⟩ := (H.on hb).rdTo ht ho
    exact ⟨true, _, _, rfl, h1, (Tch.of_below hb).trans h2, e⟩
  obtain ⟨k, b, hP⟩ := place_is (okM_asc hok) id
  have cP : ∀ d os, Calls Try.prog 36 #[.agg #[.int .i64 S.st, .string S.text, .slice a S.rd.length c], .int .i64 id] (grow (redrawn W d) os) fun e w'' => e = .returned (.tuple #[.int .i64 (k : Int), .bool b]) ∧ ∃ p : Regrown, w'' = grow (redrawn W p.d) p.os := fun d os => Calls.regrown_of ((readerPlace_any _ a c S id (hA.on (below_regrown W d os)) (by omega) (okM_asc hok)).mono (by
    rintro e w1 ⟨k', b', rfl, h1, h2⟩
    obtain ⟨rfl, rfl⟩ := hP.same h1
    exact ⟨rfl, h2⟩))
  have HK : Hid (∀ Wx, Below W.heap.size W Wx → Held w0 B 1 S (.slice a S.rd.length c) Wx ∧ Wx.heap[T]? = some (.cells #[.int .i64 id] 3 (0, 0))) := fun Wx hb => ⟨H.on hb, (hb.block T (Array.getElem?_eq_some_iff.1 hT).1).trans hT⟩
  have HT : Hid (∀ k, PlaceR S.rd id k true → (S, false) = joinM S id) := fun k h => (joinM_there hok h).symm
  have HF : Hid (∀ k, PlaceR S.rd id k false → joinM S id = if (inI id 1 9 && !decide (S.rd.length = 6)) = true then (⟨S.st, S.text, S.rd.take k ++ (id, 0) :: S.rd.drop k⟩, true) else (S, false)) := fun k h => joinM_new hok h
  have CI : Hid (∀ Wx, Held w0 B 1 S (.slice a S.rd.length c) Wx → ∀ k vb, k ≤ S.rd.length → Wx.heap[vb]? = some (.cells #[.int .i64 id, .int .i64 0] 38 (0, 0)) → (Value.slice a S.rd.length c).ownBlock ≠ some vb → Calls Try.prog 38 #[.slice a S.rd.length c, .int .i64 k, .slice (some ⟨vb, 0, none⟩) 1 1] Wx fun e w' => ∃ v', e = .returned v' ∧ OwnP w' w0.heap.size 38 v' (S.rd.take k ++ (id, 0) :: S.rd.drop k) ∧ Tch (fun k => (Value.slice a S.rd.length c).ownBlock = some k) Wx w') := fun Wx hH k vb hk hv hne => insertR_any Wx w0.heap.size _ S.rd k (id, 0) vb hH.own hH.below.size (by omega) hk hv hne
  obtain ⟨st, t, rd⟩ := S
  obtain ⟨b2, b3, b4⟩ := H.box.cells
  have p0 : W.cell? ⟨T, 0, none⟩ = some (.int .i64 id) := by rw [cell_of_row W T 0 _ _ (0, 0) hT]; rfl
  dsimp only at *
  clear hG H hA hok
  have k2 := cell_regrown b2
  have k3 := cell_regrown b3
  have k4 := cell_regrown b4
  have kp := cell_regrown p0
  go_enter Try.func35, Try.ntmps35
  go_wp2_with fail
  refine wp_region_quiet_below (by kernel_rfl) (by kernel_rfl) ?_
  repeat (first | go_big_quiet_step (with_reducible exact cP _ _) | quiet_step (with_reducible exact cP _ _))
  refine wpQuiet_nil ?_
  intro w2 hw'
  have hbw : Below W.heap.size W w2 := by
    obtain ⟨⟨dq, osq⟩, hw''⟩ := hw'
    rw [hw'']
    exact below_regrown _ dq osq
  clear b2 b3 b4 p0 cP hw' k2 k3 k4 kp
  obtain ⟨hH2, hT2⟩ := HK.out _ hbw
  have p0 : w2.cell? ⟨T, 0, none⟩ = some (.int .i64 id) := by rw [cell_of_row w2 T 0 _ _ (0, 0) hT2]; rfl
  obtain ⟨b2, b3, b4⟩ := hH2.box.cells
  have c1 := idOk_any id w2
  have HBW : Hid (Below W.heap.size W w2) := hbw
  cases b with
  | true =>
    have HQ : Hid (G (.returned (.bool false)) w2) := HNO.out w2 hbw (HT.out k hP)
    clear hbw hH2 hT2 hP HNO HYES HK HT HF CI
    go_wp2_with fail
    exact HQ.out
  | false =>
    have hj := HF.out k hP
    cases hi : inI id 1 9 with
    | false =>
      rw [hi] at hj c1
      have HQ : Hid (G (.returned (.bool false)) w2) := HNO.out w2 hbw hj.symm
      clear hbw hH2 hT2 hP HNO HYES HK HT HF CI hj
      go_wp2_with fail
      refine c1.mono ?_
      rintro e w3 ⟨rfl, rfl⟩
      go_wp2_with fail
      exact HQ.out
    | true =>
      rw [hi] at hj c1
      by_cases h6 : rd.length = 6
      · rw [decide_eq_true h6] at hj
        have HQ : Hid (G (.returned (.bool false)) w2) := HNO.out w2 hbw hj.symm
        have h6' : ((rd.length : Int) == 6) = true := by simp; omega
        clear hbw hH2 hT2 hP HNO HYES HK HT HF CI hj h6
        go_wp2_with fail
        refine c1.mono ?_
        rintro e w3 ⟨rfl, rfl⟩
        go_wp2_with fail
        exact HQ.out
      · rw [decide_eq_false h6] at hj
        have h6' : ((rd.length : Int) == 6) = false := by simp; omega
        obtain ⟨Z, hZ⟩ : ∃ Z : Obj, Z = .cells #[.int .i64 id, .int .i64 0] 38 := ⟨_, rfl⟩
        have hbd : Below w2.heap.size w2 (w2.alloc (.cells #[.int .i64 id, .int .i64 0] 38)).drew := ((Below.refl _ _).alloc (Nat.le_refl _) _).drew
        have hba : Below w2.heap.size w2 (w2.alloc (.cells #[.int .i64 id, .int .i64 0] 38)) := (Below.refl _ _).alloc (Nat.le_refl _) _
        have hHd := hH2.on hbd
        have HC := CI.out _ hHd k w2.heap.size hP.le (heap_alloc_new w2 _) (fun e => by have := (hH2.own.lt _ e).2; omega)
        have u4 := hHd.box.cells.2.2
        have v4 := (hH2.on hba).box.cells.2.2
        have uf := hHd.box.thaw 4
        have HY : Hid (∀ W' v', Tch (fun k => (Value.slice a rd.length c).ownBlock = some k) (w2.alloc (.cells #[.int .i64 id, .int .i64 0] 38)).drew W' → OwnP W' w0.heap.size 38 v' (rd.take k ++ (id, 0) :: rd.drop k) → HBox W' B 1 st t (.slice a rd.length c) ∧ G (.returned (.bool true)) (W'.setCell ⟨B, 4, none⟩ v')) := fun W' v' ht ho => ⟨(hHd.rdTo ht ho).1, HYES.out _ W' v' _ (hbw.trans (hbd.mono hbw.size)) ht ho hj.symm⟩
        clear hbw hH2 hT2 hP HNO HYES HK HT HF CI hj h6 hZ hbd hba hHd
        generalize rd.take k ++ (id, 0) :: rd.drop k = LL at HC HY
        go_wp2_with fail
        refine c1.mono ?_
        rintro e w3 ⟨rfl, rfl⟩
        go_wp2_with fail
        go_region_law (go_simp; go_at_call 38; refine HC.mono ?_; rintro e w4 ⟨v4, rfl, ho4, ht4⟩; obtain ⟨hx4, hg4⟩ := HY.out _ _ ht4 ho4; obtain ⟨a4, c4, rfl, _⟩ := ho4.at; have x4 := hx4.cells.2.2; have xf := hx4.thaw 4)
        all_goals go_wp2_with fail
        all_goals exact hg4
end Go.Proofs.Ytmpnjijbahjinaf
