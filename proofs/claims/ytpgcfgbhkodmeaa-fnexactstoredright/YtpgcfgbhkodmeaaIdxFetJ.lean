/- Texts that stand in one: IdxFet, PxOpen, OnePlain. -/
import Derived.Test.YtpgcfgbhkodmeaaPolStepJ
import Derived.Test.YtpgcfgbhkodmeaaStoredPlainJ
import Derived.Deep.RegionLaw
import Derived.Shelf.Abstract
import Derived.Test.YtpgcfgbhkodmeaaPxPlain
namespace Go.Proofs.Ytpgcfgbhkodmeaa
open Go.RowKit Go.Sort

set_option maxHeartbeats 2000000 in
theorem indexFet_any (g : Nat) (lb : Array Value) (p : Fet → Bool) (eg : ∀ args w, (callFunc g args).run Try.prog w = .ok (.enter g args) w) (w : World) (a : Option Addr) (cap : Nat) (L : List (Fet)) (hL : FetAt w a L w.heap.size) (hm : L.length ≤ 10000000)
    (hp : ∀ (W : World) (x : Fet), Below w.heap.size w W → Calls Try.prog g (#[.agg #[.string x.key, .string x.tx, .int .i64 x.st, .int .i64 x.lf, .int .i64 x.sto]] ++ lb) W fun e w' => e = .returned (.bool (p x)) ∧ Below w.heap.size w w') :
    Calls Try.prog 89 #[.slice a L.length cap, .func (.func g) #[] lb] w fun e w' => e = .returned (.int .i64 (idxX p L)) ∧ Below w.heap.size w w' := by
  go_enter Try.func89, Try.ntmps89
  go_wp2
  go_loopw [5, 8] (fun _ i wr => Box (∃ k : Nat, k ≤ L.length ∧ i = .int .i64 k ∧ Below w.heap.size w wr ∧ ∀ j (hj : j < k) (hl : j < L.length), p L[j] = false))
    (fun _ i _ => L.length - (intOf i).toNat)
  case atStart => exact ⟨⟨0, by omega, rfl, Below.refl _ _, fun j hj => absurd hj (Nat.not_lt_zero _)⟩⟩
  case round =>
    obtain ⟨k, hk, rfl, hb, hno⟩ := hrel.out
    by_cases hlt : k < L.length
    · obtain ⟨g1, off, rfl, _, hc0, hc1, hc2, hc3, hc4⟩ := (hL.below hb (Nat.le_refl _)) k hlt
      obtain ⟨f, hf⟩ : ∃ f, L[k] = f := ⟨_, rfl⟩
      have HF : Hid (L[k] = f) := hf
      rw [hf] at hc0 hc1 hc2 hc3 hc4
      have hcall := hp wr f hb
      have HNO : Hid (∀ j (hj : j < k) (hl : j < L.length), p L[j] = false) := hno
      clear hL hp hf hno hrel
      have hi1 : (0 : Int) ≤ (k : Int) := by omega
      have hi2 : (k : Int) < (L.length : Int) := by omega
      cases hq : p f with
      | true =>
        rw [hq] at hcall
        go_wp2_with (go_at_fn g; refine hcall.mono ?_; rintro e w' ⟨rfl, hb'⟩)
        go_ret
        refine ⟨?_, hb'⟩
        rw [idxX_hit hlt (by rw [HF.out]; exact hq) (fun j hj => HNO.out j hj (by omega))]
        rfl
      | false =>
        rw [hq] at hcall
        go_wp2_with (go_at_fn g; refine hcall.mono ?_; rintro e w' ⟨rfl, hb'⟩)
        go_roundw
        case rel =>
          try ((repeat apply Exists.intro); refine ⟨?_, rfl⟩)
          refine ⟨⟨k + 1, by omega, by go_num, hb', fun j hj hl => ?_⟩⟩
          by_cases e : j = k
          · subst e
            rw [HF.out]; exact hq
          · exact HNO.out j (by omega) hl
        case measure => simp [intOf]; omega
    · have hi2 : ¬ (k : Int) < (L.length : Int) := by omega
      go_wp2
      go_ret
      refine ⟨?_, hb⟩
      rw [idxX_miss (fun x hx => by
        obtain ⟨j, hj, rfl⟩ := List.getElem_of_mem hx
        exact hno j (by omega) hj)]
      rfl
end Go.Proofs.Ytpgcfgbhkodmeaa

namespace Go.Proofs.Ytpgcfgbhkodmeaa
open Go.RowKit Go.Sort
theorem open1_eg : ∀ args w, (callFunc 90 args).run Try.prog w = .ok (.enter 90 args) w := enters_of Try.func90 (by kernel_rfl) rfl
set_option maxHeartbeats 2000000 in
theorem open1_any (T : Nat) (f : Fet) (key : ByteArray) (w : World) (hT : w.heap[T]? = some (.cells #[.string key] 9 (0, 0))) :
    Calls Try.prog 90 (#[.agg #[.string f.key, .string f.tx, .int .i64 f.st, .int .i64 f.lf, .int .i64 f.sto]] ++ #[.pointer (some ⟨T, 0, none⟩)]) w fun e w' => e = .returned (.bool (openP key f)) ∧ Below w.heap.size w w' := by
  show Calls _ _ #[.agg #[.string f.key, .string f.tx, .int .i64 f.st, .int .i64 f.lf, .int .i64 f.sto], .pointer (some ⟨T, 0, none⟩)] _ _
  have hb1 : Below w.heap.size w (w.alloc (.cells #[.string f.key, .string f.tx, .int .i64 f.st, .int .i64 f.lf, .int .i64 f.sto] 67)) := (Below.refl _ _).alloc (Nat.le_refl _) _
  have p0 : (w.alloc (.cells #[.string f.key, .string f.tx, .int .i64 f.st, .int .i64 f.lf, .int .i64 f.sto] 67)).cell? ⟨T, 0, none⟩ = some (.string key) := by rw [cell_of_row _ T 0 _ _ (0, 0) ((hb1.block T (Array.getElem?_eq_some_iff.1 hT).1).trans hT)]; rfl
  unfold openP eqS
  cases he : (f.key.toList == key.toList) with
  | false =>
    go_enter Try.func90, Try.ntmps90
    go_wp2_with fail
    go_ret
    exact ⟨rfl, hb1⟩
  | true =>
    go_enter Try.func90, Try.ntmps90
    go_wp2_with fail
    go_ret
    exact ⟨rfl, hb1⟩
set_option maxHeartbeats 4000000 in
theorem openPlace_any (w : World) (a : Option Addr) (c : Nat) (L : List Fet) (key : ByteArray) (hL : FetAt w a L w.heap.size) (hm : L.length ≤ 10000000) :
    Calls Try.prog 63 #[.slice a L.length c, .string key] w fun e w' => e = .returned (.int .i64 (idxX (openP key) L)) ∧ Below w.heap.size w w' := by
  obtain ⟨w1, hw1⟩ : ∃ y, w.alloc (.cells #[.string key] 9) = y := ⟨_, rfl⟩
  have hb1 : Below w.heap.size w w1 := by rw [← hw1]; exact (Below.refl _ _).alloc (Nat.le_refl _) _
  have hK : w1.heap[w.heap.size]? = some (.cells #[.string key] 9 (0, 0)) := by rw [← hw1]; exact heap_alloc_new _ _
  have c1 := indexFet_any 90 #[.pointer (some ⟨w.heap.size, 0, none⟩)] (openP key) open1_eg w1 a c L (hL.on hb1) hm (fun W x hb => (open1_any w.heap.size x key W ((hb.block _ (Array.getElem?_eq_some_iff.1 hK).1).trans hK)).mono (by rintro e w' ⟨rfl, h⟩; exact ⟨rfl, hb.trans (h.mono hb.size)⟩))
  have hmf : ∀ (fn : Fn) (first cap : Array Value) (w : World), (Instr.makeFunc fn first cap).run Try.prog w = .ok (.func fn first cap) w := fun _ _ _ _ => rfl
  have HW : Hid (w.alloc (.cells #[.string key] 9) = w1) := hw1
  have HB : Hid (Below w.heap.size w w1) := hb1
  clear hw1 hb1 hK hL
  generalize idxX (openP key) L = q at c1 ⊢
  go_enter Try.func63, Try.ntmps63
  go_wp2_with fail
  rw [HW.out]
  refine c1.mono ?_
  rintro e w2 ⟨rfl, hb2⟩
  go_wp2_with fail
  go_ret
  exact ⟨rfl, HB.out.trans (hb2.mono HB.out.size)⟩
end Go.Proofs.Ytpgcfgbhkodmeaa

namespace Go.Proofs.Ytpgcfgbhkodmeaa
open Go.RowKit Go.Sort
def oneF (L : List Fet) (i : Nat) : Bool := !(((L.getD i zFet).st == 1) && (L.take i).any (openP (L.getD i zFet).key))
def oneX (L : List Fet) : Bool := allT (oneF L) L.length
def fetG (now : Int) (L : List Fet) (i : Nat) : Bool :=
  enKey (L.getD i zFet).key && (decide ((L.getD i zFet).tx.size ≤ 400) && (inB (L.getD i zFet).st 1 3 && (inB (L.getD i zFet).lf 0 999999 && inB (L.getD i zFet).sto 0 now)))
theorem allT_and {f g : Nat → Bool} : ∀ n, allT (fun i => f i && g i) n = (allT f n && allT g n)
  | 0 => rfl
  | n + 1 => by
    unfold allT
    rw [allT_and n]
    cases allT f n <;> cases allT g n <;> cases f n <;> cases g n <;> rfl
theorem fesOkX_split (now : Int) (L : List Fet) : fesOkX now L = (decide (L.length ≤ 20) && (allT (fetG now L) L.length && oneX L)) := by
  unfold fesOkX oneX
  rw [← allT_and]
  rfl
end Go.Proofs.Ytpgcfgbhkodmeaa
