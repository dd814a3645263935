/- The program's StreamRead, what is done to the held stream. -/
import Derived.Test.YtmpnjijbahjinafHeldRight
import Derived.Test.YtmpnjijbahjinafHeldMore
import Derived.Test.YtmpnjijbahjinafHoldImpl
import Derived.Test.YtmpnjijbahjinafStmJoinPlain
import Derived.Test.YtmpnjijbahjinafStmRead
import Derived.Test.YtmpnjijbahjinafDelReader
import Derived.Lib.QuietBelow
import Derived.Lib.MinMax
import Derived.BigQuiet
import Derived.StillTailTactics
namespace Go.Proofs.Ytmpnjijbahjinaf
open Go.RowKit Go.Sort

theorem readM_no {S : Stm} {id most : Int} (h : atM S.rd id = -1) : readM S id most = (S, ⟨#[]⟩, false) := by
  unfold readM
  rw [if_neg]
  rw [h]
  simp
/-- How much is read: A where the reader is, N how much. -/
theorem readM_yes {S : Stm} {id most : Int} {k A N : Nat} (hok : okM S = true) (h : atM S.rd id = k) (hk : k < S.rd.length) (hA : S.rd[k].2 = A) (hAt : A ≤ S.text.size) (hN : min (max most 0) (((S.text.size - A : Nat)) : Int) = N) :
    readM S id most = (⟨S.st, S.text, S.rd.set k (S.rd[k].1, ((A + N : Nat) : Int))⟩, S.text.extract A (A + N), true) := by
  have hf : farM S.text.size (A : Int) most = ((A + N : Nat) : Int) := by
    unfold farM
    by_cases h0 : most < 0
    · rw [if_pos h0]
      by_cases h1 : (0 : Int) < (S.text.size : Int) - A
      · rw [if_pos h1]; omega
      · rw [if_neg h1]; omega
    · rw [if_neg h0]
      by_cases h1 : most < (S.text.size : Int) - A
      · rw [if_pos h1]; omega
      · rw [if_neg h1]; omega
  unfold readM
  rw [if_pos (by rw [hok, h]; simp)]
  have hd : S.rd.getD k (0, 0) = S.rd[k] := by simp [List.getD, List.getElem?_eq_getElem hk]
  simp only [h, Int.toNat_natCast, hd, hA, hf]
theorem read1_eg : ∀ args w, (callFunc 46 args).run Try.prog w = .ok (.enter 46 args) w := enters_of Try.func46 (by kernel_rfl) rfl
set_option maxRecDepth 100000 in
set_option maxHeartbeats 4000000 in
theorem read1_any (w0 : World) (B T1 T2 T3 : Nat) (S : Stm) (v : Value) (id most : Int) (W : World) (H : Held w0 B 1 S v W) (hT1 : W.heap[T1]? = some (.cells #[.int .i64 id] 3 (0, 0))) (hT2 : W.heap[T2]? = some (.cells #[.int .i64 most] 3 (0, 0))) (hT3 : W.heap[T3]? = some (.cells #[.string ⟨#[]⟩] 9 (0, 0))) (hT0 : w0.heap.size ≤ T3) (hok : okM S = true) (ht : S.text.size ≤ 1048576) (hm : S.rd.length ≤ 1048576) :
    Calls Try.prog 46 (#[.pointer (some ⟨B, 2, none⟩)] ++ #[.pointer (some ⟨T1, 0, none⟩), .pointer (some ⟨T2, 0, none⟩), .pointer (some ⟨T3, 0, none⟩)]) W fun e w' => ∃ ok S' v', e = .returned (.bool ok) ∧ Held w0 B 1 S' v' w' ∧ Tch (fun k => k = B ∨ v.ownBlock = some k ∨ k = T3) W w' ∧ ∃ tx, w'.heap[T3]? = some (.cells #[.string tx] 9 (0, 0)) ∧ (S', tx, ok) = readM S id most := by
  show Calls _ _ #[.pointer (some ⟨B, 2, none⟩), .pointer (some ⟨T1, 0, none⟩), .pointer (some ⟨T2, 0, none⟩), .pointer (some ⟨T3, 0, none⟩)] _ _
  obtain ⟨a, c, rfl, hA⟩ := H.at
  obtain ⟨G, hG⟩ : ∃ G : Ending → World → Prop, G = fun e w' => ∃ ok S' v', e = .returned (.bool ok) ∧ Held w0 B 1 S' v' w' ∧ Tch (fun k => k = B ∨ (Value.slice a S.rd.length c).ownBlock = some k ∨ k = T3) W w' ∧ ∃ tx, w'.heap[T3]? = some (.cells #[.string tx] 9 (0, 0)) ∧ (S', tx, ok) = readM S id most := ⟨_, rfl⟩
  rw [← hG]
  have hB3 : B ≠ T3 := fun e => by
    have hb := H.box
    unfold HBox at hb
    rw [e, hT3] at hb
    simp only [Option.some.injEq, Obj.cells.injEq] at hb
    exact absurd hb.2.1 (by decide)
  have hO3 : ∀ k, (Value.slice a S.rd.length c).ownBlock = some k → k ≠ T3 := fun k hk e => by
    obtain ⟨cs, hc⟩ := ownP_type H.own k hk
    rw [e, hT3] at hc
    simp only [Option.some.injEq, Obj.cells.injEq] at hc
    exact absurd hc.2.1 (by decide)
  have hok1 := okM_parts hok
  obtain ⟨k, b, hP⟩ := place_is (okM_asc hok) id
  have hAT := hP.at (okM_asc hok)
  have cP : ∀ d os, Calls Try.prog 36 #[.agg #[.int .i64 S.st, .string S.text, .slice a S.rd.length c], .int .i64 id] (grow (redrawn W d) os) fun e w'' => e = .returned (.tuple #[.int .i64 (k : Int), .bool b]) ∧ ∃ p : Regrown, w'' = grow (redrawn W p.d) p.os := fun d os => Calls.regrown_of ((readerPlace_any _ a c S id (hA.on (below_regrown W d os)) (by omega) (okM_asc hok)).mono (by
    rintro e w1 ⟨k', b', rfl, h1, h2⟩
    obtain ⟨rfl, rfl⟩ := hP.same h1
    exact ⟨rfl, h2⟩))
  obtain ⟨st, t, rd⟩ := S
  obtain ⟨b2, b3, b4⟩ := H.box.cells
  have p1 : W.cell? ⟨T1, 0, none⟩ = some (.int .i64 id) := by rw [cell_of_row W T1 0 _ _ (0, 0) hT1]; rfl
  have k2 := cell_regrown b2
  have k3 := cell_regrown b3
  have k4 := cell_regrown b4
  have kp := cell_regrown p1
  have HK : Hid (∀ Wx, Below W.heap.size W Wx → Held w0 B 1 ⟨st, t, rd⟩ (.slice a rd.length c) Wx ∧ Wx.heap[T2]? = some (.cells #[.int .i64 most] 3 (0, 0)) ∧ Wx.heap[T3]? = some (.cells #[.string ⟨#[]⟩] 9 (0, 0))) := fun Wx hb => ⟨H.on hb, (hb.block T2 (Array.getElem?_eq_some_iff.1 hT2).1).trans hT2, (hb.block T3 (Array.getElem?_eq_some_iff.1 hT3).1).trans hT3⟩
  dsimp only at *
  cases b with
  | false =>
    have hat := hAT.2 rfl
    have HQ : Hid (∀ Wx, Below W.heap.size W Wx → G (.returned (.bool false)) Wx) := by
      rw [hG]
      exact fun Wx hb => ⟨false, _, _, rfl, (HK.out Wx hb).1, Tch.of_below hb, _, (HK.out Wx hb).2.2, (readM_no hat.1).symm⟩
    clear hG H hA hok HK hat hAT hP hok1 hB3 hO3 hT1 hT2 hT3
    go_enter Try.func46, Try.ntmps46
    go_wp2_with fail
    refine wp_region_quiet_below (by kernel_rfl) (by kernel_rfl) ?_
    repeat (first | go_big_quiet_step (with_reducible exact cP _ _) | quiet_step (with_reducible exact cP _ _))
    refine wpQuiet_nil ?_
    intro w2 hw'
    have hbw : Below W.heap.size W w2 := by
      obtain ⟨⟨dq, osq⟩, hw''⟩ := hw'
      rw [hw'']
      exact below_regrown _ dq osq
    clear b2 b3 b4 p1 cP hw' k2 k3 k4 kp
    go_wp2_with fail
    exact HQ.out _ hbw
  | true =>
    obtain ⟨hat, hk, hkid⟩ := hAT.1 rfl
    obtain ⟨hA0, hA1⟩ := rdOk_at hok1.1 k hk hk
    obtain ⟨A, hAA⟩ : ∃ A : Nat, rd[k].2 = A := ⟨(rd[k].2).toNat, by omega⟩
    rw [hAA] at hA1
    have hAt : A ≤ t.size := by omega
    obtain ⟨N, hN⟩ : ∃ N : Nat, min (max most 0) (((t.size - A : Nat)) : Int) = N := ⟨(min (max most 0) (((t.size - A : Nat)) : Int)).toNat, by omega⟩
    have hNl : N ≤ t.size - A := by omega
    have hRM := readM_yes (S := ⟨st, t, rd⟩) hok hat hk hAA hAt hN
    obtain ⟨gg, rfl, hgb, _⟩ := H.own.first (by dsimp only; omega)
    have HY : Hid (∀ Wx, Below W.heap.size W Wx → Wx.cell? ⟨gg, k * 2 + 1, none⟩ = some (.int .i64 (A : Int)) ∧ ∀ Wy, Below Wx.heap.size Wx Wy → Wy.heap[T3]? = some (.cells #[.string ⟨#[]⟩] 9 (0, 0)) ∧ (Wy.setCell ⟨T3, 0, none⟩ (.string (t.extract A (A + N)))).cell? ⟨gg, k * 2 + 1, none⟩ = some (.int .i64 (A : Int)) ∧ (Wy.setCell ⟨T3, 0, none⟩ (.string (t.extract A (A + N)))).frozen? ⟨gg, k * 2 + 1, none⟩ = false ∧ (Wy.setCell ⟨T3, 0, none⟩ (.string (t.extract A (A + N)))).heap[T3]? = some (.cells #[.string (t.extract A (A + N))] 9 (0, 0)) ∧ G (.returned (.bool true)) (((Wy.setCell ⟨T3, 0, none⟩ (.string (t.extract A (A + N)))).setCell ⟨gg, k * 2 + 1, none⟩ (.int .i64 ((A + N : Nat) : Int))).drew)) := by
      intro Wx hb
      have hc := (((HK.out Wx hb).1.own).cellP k hk).2
      dsimp only at hc
      rw [hAA] at hc
      refine ⟨hc, fun Wy hby => ?_⟩
      have hbxy := hb.trans (hby.mono hb.size)
      obtain ⟨hH, _, h3⟩ := HK.out Wy hbxy
      have hs3 : (Wy.setCell ⟨T3, 0, none⟩ (.string (t.extract A (A + N)))).heap[T3]? = some (.cells #[.string (t.extract A (A + N))] 9 (0, 0)) := by
        simp only [World.setCell, Array.getElem?_modify, h3]
        simp
      have hH3 : Held w0 B 1 ⟨st, t, rd⟩ (.slice (some ⟨gg, 0, none⟩) rd.length c) (Wy.setCell ⟨T3, 0, none⟩ (.string (t.extract A (A + N)))) := hH.poke (tch_set (S := fun k => k = T3) Wy T3 0 _ rfl) (fun k e => by rw [e]; exact ⟨hT0, fun e => hB3 e.symm, fun j hj e => hO3 j hj e.symm⟩)
      have hc3 := (hH3.own.cellP k hk).2
      dsimp only at hc3
      rw [hAA] at hc3
      have ho4 := hH3.own.stored2 rfl k hk (((A + N : Nat) : Int))
      have hgB : gg ≠ B := ownP_notHeld hH3.own hH3.box gg rfl
      have hg3 : gg ≠ T3 := hO3 gg rfl
      refine ⟨h3, hc3, hH3.own.there rfl _, hs3, ?_⟩
      rw [hG]
      have hTt : Tch (fun k => k = B ∨ (Value.slice (some ⟨gg, 0, none⟩) rd.length c).ownBlock = some k ∨ k = T3) W (((Wy.setCell ⟨T3, 0, none⟩ (.string (t.extract A (A + N)))).setCell ⟨gg, k * 2 + 1, none⟩ (.int .i64 ((A + N : Nat) : Int))).drew) := ((Tch.of_below hbxy).trans (tch_set Wy T3 0 _ (Or.inr (Or.inr rfl)))).trans ((tch_set _ gg _ _ (Or.inr (Or.inl rfl))).trans (Tch.of_below ⟨rfl, rfl, rfl, Nat.le_refl _, fun _ _ => rfl⟩))
      refine ⟨true, ⟨st, t, rd.set k (rd[k].1, ((A + N : Nat) : Int))⟩, .slice (some ⟨gg, 0, none⟩) rd.length c, rfl, ⟨((hH3.below.setCell hgb _)).drew, hH3.hB, (hH3.box.kept (Below.heap_setCell _ _ _ _ (show B ≠ gg from fun e => hgB e.symm))), ho4⟩, hTt, _, (Below.heap_setCell _ _ _ _ (show T3 ≠ gg from fun e => hg3 e.symm)).trans hs3, hRM.symm⟩
    obtain ⟨R, hR⟩ : ∃ R, t.extract A t.size = R := ⟨_, rfl⟩
    have hRs : R.size = t.size - A := by rw [← hR]; simp
    have hsl := fun w => run_slice_string_l (P := Try.prog) w 9 t Try.underlying9 .i64 (A : Int) (by omega) (by omega)
    have hsh := fun w => run_slice_string_h (P := Try.prog) w 9 R Try.underlying9 .i64 (N : Int) (by omega) (by omega)
    have hX : R.extract 0 N = t.extract A (A + N) := by rw [← hR]; simp [ByteArray.extract_extract]; congr 1; omega
    rw [← hRs] at hN
    simp only [Int.toNat_natCast, hR] at hsl
    simp only [Int.toNat_natCast, hX] at hsh
    obtain ⟨X, hXX⟩ : ∃ X, t.extract A (A + N) = X := ⟨_, rfl⟩
    have hXs : (X.size : Int) = (N : Int) := by rw [← hXX]; simp; omega
    have CC : Hid (∀ W, Calls Try.prog 44 #[.string X] W fun e w' => e = .returned (.string X) ∧ Below W.heap.size W w') := fun W => cloneS_any X W (by omega)
    rw [hXX] at HY hsh
    have hadd : IntKind.i64.wrap ((A : Int) + (N : Int)) = ((A + N : Nat) : Int) := by rw [IntKind.wrap_i64]; omega
    have hi1 : (0 : Int) ≤ (k : Int) := by omega
    have hi2 : (k : Int) < (rd.length : Int) := by omega
    clear hG H hA hok hat hAT hP hok1 hB3 hO3 hT1 hT2 hT3 hRM hX hXX hR hkid hAA hRs
    go_enter Try.func46, Try.ntmps46
    go_wp2_with fail
    refine wp_region_quiet_below (by kernel_rfl) (by kernel_rfl) ?_
    repeat (first | go_big_quiet_step (with_reducible exact cP _ _) | quiet_step (with_reducible exact cP _ _))
    refine wpQuiet_nil ?_
    intro w2 hw'
    have hbw : Below W.heap.size W w2 := by
      obtain ⟨⟨dq, osq⟩, hw''⟩ := hw'
      rw [hw'']
      exact below_regrown _ dq osq
    clear b2 b3 b4 p1 cP hw' k2 k3 k4 kp
    obtain ⟨x2, x3, x4⟩ := (HK.out w2 hbw).1.box.cells
    have x5 := (HY.out w2 hbw).1
    go_wp2_with fail
    go_quiet (fail)
    have hb3 : Below W.heap.size W (w2.drewN nq) := hbw.trans ⟨rfl, rfl, rfl, Nat.le_refl _, fun _ _ => rfl⟩
    generalize w2.drewN nq = w3 at hb3 ⊢
    clear x2 x3 x4 x5
    have y2 : w3.cell? ⟨T2, 0, none⟩ = some (.int .i64 most) := by rw [cell_of_row w3 T2 0 _ _ (0, 0) (HK.out w3 hb3).2.1]; rfl
    go_wp2_with fail
    refine (CC.out _).mono ?_
    rintro e w4 ⟨rfl, hb4⟩
    obtain ⟨h3, hc, hf, hs, hg⟩ := (HY.out w3 hb3).2 w4 hb4
    have z3 : w4.cell? ⟨T3, 0, none⟩ = some (.string ⟨#[]⟩) := by rw [cell_of_row w4 T3 0 _ _ (0, 0) h3]; rfl
    have zf : w4.frozen? ⟨T3, 0, none⟩ = false := by simp [World.frozen?, h3]
    have zs : (w4.setCell ⟨T3, 0, none⟩ (.string X)).cell? ⟨T3, 0, none⟩ = some (.string X) := by rw [cell_of_row _ T3 0 _ _ (0, 0) hs]; rfl
    obtain ⟨w5, hw5⟩ : ∃ w5, w4.setCell ⟨T3, 0, none⟩ (.string X) = w5 := ⟨_, rfl⟩
    have HW5 : Hid (w4.setCell ⟨T3, 0, none⟩ (.string X) = w5) := hw5
    rw [hw5] at hc hf hs hg zs
    clear hw5 y2 h3 hs
    go_wp2_with fail
    rw [HW5.out]
    go_still_tail 9, (by kernel_rfl)
    go_wp2_with fail
    exact hg
end Go.Proofs.Ytmpnjijbahjinaf
