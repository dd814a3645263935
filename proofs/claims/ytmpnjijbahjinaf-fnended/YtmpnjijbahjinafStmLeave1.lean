/- The program's StreamLeave, what is done to the held stream. -/
import Derived.Test.YtmpnjijbahjinafHeldChange
import Derived.Test.YtmpnjijbahjinafHeldMore
import Derived.Test.YtmpnjijbahjinafHoldImpl
import Derived.Test.YtmpnjijbahjinafDelReader
namespace Go.Proofs.Ytmpnjijbahjinaf
open Go.RowKit Go.Sort

theorem leave2_eg : ∀ args w, (callFunc 42 args).run Try.prog w = .ok (.enter 42 args) w := enters_of Try.func42 (by kernel_rfl) rfl
theorem leave1_eg : ∀ args w, (callFunc 40 args).run Try.prog w = .ok (.enter 40 args) w := enters_of Try.func40 (by kernel_rfl) rfl
set_option maxHeartbeats 2000000 in
theorem leave2_any (T : Nat) (r : Int × Int) (id : Int) (w : World) (hT : w.heap[T]? = some (.cells #[.int .i64 id] 3 (0, 0))) :
    Calls Try.prog 42 (#[.agg #[.int .i64 r.1, .int .i64 r.2]] ++ #[.pointer (some ⟨T, 0, none⟩)]) w fun e w' => e = .returned (.bool (decide (r.1 = id))) ∧ Below w.heap.size w w' := by
  show Calls _ _ #[.agg #[.int .i64 r.1, .int .i64 r.2], .pointer (some ⟨T, 0, none⟩)] _ _
  have hb1 : Below w.heap.size w (w.alloc (.cells #[.int .i64 r.1, .int .i64 r.2] 38)) := (Below.refl _ _).alloc (Nat.le_refl _) _
  have p0 : (w.alloc (.cells #[.int .i64 r.1, .int .i64 r.2] 38)).cell? ⟨T, 0, none⟩ = some (.int .i64 id) := by rw [cell_of_row _ T 0 _ _ (0, 0) ((hb1.block T (Array.getElem?_eq_some_iff.1 hT).1).trans hT)]; rfl
  have HD : Hid (decide (r.1 = id) = (r.1 == id)) := by show _ = _; by_cases h : r.1 = id <;> simp [h]
  go_enter Try.func42, Try.ntmps42
  go_wp2_with fail
  go_ret
  exact ⟨by rw [HD.out]; rfl, hb1⟩
set_option maxRecDepth 100000 in
set_option maxHeartbeats 4000000 in
theorem leave1_any (w0 : World) (B T : Nat) (S : Stm) (v : Value) (id : Int) (W : World) (H : Held w0 B 1 S v W) (hT : W.heap[T]? = some (.cells #[.int .i64 id] 3 (0, 0))) (hm : S.rd.length ≤ 1048576) :
    Calls Try.prog 40 (#[.pointer (some ⟨B, 2, none⟩)] ++ #[.pointer (some ⟨T, 0, none⟩)]) W fun e w' => ∃ v', e = .returned (.bool true) ∧ Held w0 B 1 (leaveM S id) v' w' ∧ Tch (fun k => k = B ∨ v.ownBlock = some k) W w' := by
  show Calls _ _ #[.pointer (some ⟨B, 2, none⟩), .pointer (some ⟨T, 0, none⟩)] _ _
  have hTown : ∀ k, v.ownBlock = some k → k ≠ T := fun k hk e => by
    obtain ⟨cs, hc⟩ := ownP_type H.own k hk
    rw [e, hT] at hc
    simp only [Option.some.injEq, Obj.cells.injEq] at hc
    exact absurd hc.2.1 (by decide)
  have c1 := deleteR_any 42 #[.pointer (some ⟨T, 0, none⟩)] (fun r => decide (r.1 = id)) leave2_eg W w0.heap.size v S.rd H.own hm (fun W' x ht => leave2_any T x id W' (by rw [ht.2 T (Array.getElem?_eq_some_iff.1 hT).1 (fun e => hTown T e rfl)]; exact hT))
  obtain ⟨a, c, rfl, hA⟩ := H.at
  obtain ⟨G, hG⟩ : ∃ G : Ending → World → Prop, G = fun e w' => ∃ v', e = .returned (.bool true) ∧ Held w0 B 1 (leaveM S id) v' w' ∧ Tch (fun k => k = B ∨ (Value.slice a S.rd.length c).ownBlock = some k) W w' := ⟨_, rfl⟩
  rw [← hG]
  have HY : Hid (∀ W' v', Tch (fun k => (Value.slice a S.rd.length c).ownBlock = some k) W W' → OwnP W' w0.heap.size 38 v' (keepR (fun r => decide (r.1 = id)) S.rd) → HBox W' B 1 S.st S.text (.slice a S.rd.length c) ∧ G (.returned (.bool true)) (W'.setCell ⟨B, 4, none⟩ v')) := by
    rw [hG]
    exact fun W' v' ht ho => ⟨(H.rdTo ht ho).1, v', rfl, (H.rdTo ht ho).2.1, (H.rdTo ht ho).2.2⟩
  obtain ⟨b2, b3, b4⟩ := H.box.cells
  have hmf : ∀ (fn : Fn) (first cap : Array Value) (w : World), (Instr.makeFunc fn first cap).run Try.prog w = .ok (.func fn first cap) w := fun _ _ _ _ => rfl
  clear hG H hA hT hTown
  generalize keepR (fun r : Int × Int => decide (r.1 = id)) S.rd = LL at c1 HY
  go_enter Try.func40, Try.ntmps40
  go_wp2_with fail
  refine c1.mono ?_
  rintro e w4 ⟨v4, rfl, ho4, ht4⟩
  obtain ⟨hx4, hg4⟩ := HY.out _ _ ht4 ho4
  obtain ⟨a4, c4, rfl, _⟩ := ho4.at
  have x4 := hx4.cells.2.2
  have xf := hx4.thaw 4
  go_wp2_with fail
  exact hg4
end Go.Proofs.Ytmpnjijbahjinaf
