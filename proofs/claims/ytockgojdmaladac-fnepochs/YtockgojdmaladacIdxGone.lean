/- slices.IndexFunc over what is gone, whatever the predicate; the program's isGone. -/
import Derived.Test.YtockgojdmaladacIdxPair
import Derived.Test.YtockgojdmaladacEpochMore
namespace Go.Proofs.Ytockgojdmaladac
open Go.RowKit Go.Sort
set_option maxHeartbeats 2000000 in
theorem indexG_any (g : Nat) (lb : Array Value) (p : Int × Int → Bool) (eg : ∀ args w, (callFunc g args).run Try.prog w = .ok (.enter g args) w) (w : World) (a : Option Addr) (cap : Nat) (L : List (Int × Int)) (hL : PAt w a L w.heap.size) (hm : L.length ≤ 10000000)
    (hp : ∀ (W : World) (x : Int × Int), Below w.heap.size w W → Calls Try.prog g (#[.agg #[.int .i64 x.1, .int .i64 x.2]] ++ lb) W fun e w' => e = .returned (.bool (p x)) ∧ Below w.heap.size w w') :
    Calls Try.prog 118 #[.slice a L.length cap, .func (.func g) #[] lb] w fun e w' => e = .returned (.int .i64 (idxP p L)) ∧ Below w.heap.size w w' := by
  go_enter Try.func118, Try.ntmps118
  go_wp2
  go_loopw [5, 8] (fun _ i wr => Box (∃ k : Nat, k ≤ L.length ∧ i = .int .i64 k ∧ Below w.heap.size w wr ∧ ∀ j (hj : j < k) (hl : j < L.length), p L[j] = false))
    (fun _ i _ => L.length - (intOf i).toNat)
  case atStart => exact ⟨⟨0, by omega, rfl, Below.refl _ _, fun j hj => absurd hj (Nat.not_lt_zero _)⟩⟩
  case round =>
    obtain ⟨k, hk, rfl, hb, hno⟩ := hrel.out
    by_cases hlt : k < L.length
    · obtain ⟨g1, off, rfl, _, hc0, hc1⟩ := (hL.below hb (Nat.le_refl _)) k hlt
      obtain ⟨f, hf⟩ : ∃ f, L[k] = f := ⟨_, rfl⟩
      have HF : Hid (L[k] = f) := hf
      rw [hf] at hc0 hc1
      have hcall := hp wr f hb
      have HNO : Hid (∀ j (hj : j < k) (hl : j < L.length), p L[j] = false) := hno
      clear hL hp hf hno hrel
      have hi1 : (0 : Int) ≤ (k : Int) := by omega
      have hi2 : (k : Int) < (L.length : Int) := by omega
      cases hq : p f with
      | true =>
        rw [hq] at hcall
        go_wp2_with (go_at_fn g; refine hcall.mono ?_; rintro e w' ⟨rfl, hb'⟩)
        go_ret
        refine ⟨?_, hb'⟩
        rw [idxP_hit hlt (by rw [HF.out]; exact hq) (fun j hj => HNO.out j hj (by omega))]
        rfl
      | false =>
        rw [hq] at hcall
        go_wp2_with (go_at_fn g; refine hcall.mono ?_; rintro e w' ⟨rfl, hb'⟩)
        go_roundw
        case rel =>
          try ((repeat apply Exists.intro); refine ⟨?_, rfl⟩)
          refine ⟨⟨k + 1, by omega, by go_num, hb', fun j hj hl => ?_⟩⟩
          by_cases e : j = k
          · subst e
            rw [HF.out]; exact hq
          · exact HNO.out j (by omega) hl
        case measure => simp [intOf]; omega
    · have hi2 : ¬ (k : Int) < (L.length : Int) := by omega
      go_wp2
      go_ret
      refine ⟨?_, hb⟩
      rw [idxP_miss (fun x hx => by
        obtain ⟨j, hj, rfl⟩ := List.getElem_of_mem hx
        exact hno j (by omega) hj)]
      rfl
set_option maxHeartbeats 2000000 in
theorem isGone1_any (w : World) (B : Nat) (node : Int) (hB : w.heap[B]? = some (.cells #[.int .i64 node] 3 (0, 0))) (W : World) (x : Int × Int) (hb : Below w.heap.size w W) :
    Calls Try.prog 100 (#[.agg #[.int .i64 x.1, .int .i64 x.2]] ++ #[.pointer (some ⟨B, 0, none⟩)]) W fun e w' => e = .returned (.bool (decide (x.1 = node))) ∧ Below w.heap.size w w' := by
  have hlw : B < w.heap.size := (Array.getElem?_eq_some_iff.1 hB).1
  have b1 : W.cell? ⟨B, 0, none⟩ = some (.int .i64 node) := by simp [World.cell?, hb.block B hlw, hB]
  have hlt : B < W.heap.size := Nat.lt_of_lt_of_le hlw hb.size
  have b1' : (W.alloc (.cells #[.int .i64 x.1, .int .i64 x.2] 101)).cell? ⟨B, 0, none⟩ = some (.int .i64 node) := (World.cell?_alloc_past (w := W) _ B 0 hlt).trans b1
  go_enter Try.func100, Try.ntmps100
  go_wp2
  go_ret
  refine ⟨?_, hb.trans ((Below.refl _ _).alloc hb.size _)⟩
  by_cases e : x.1 = node <;> simp [e]
set_option maxRecDepth 100000 in
set_option maxHeartbeats 2000000 in
theorem isGone_any (w : World) (ga : Option Addr) (gc : Nat) (L : List (Int × Int)) (node : Int) (hL : PAt w ga L w.heap.size) (hm : L.length ≤ 1048576) :
    Calls Try.prog 74 #[.slice ga L.length gc, .int .i64 node] w fun e w' => e = .returned (.bool (hasG L node)) ∧ Below w.heap.size w w' := by
  obtain ⟨w1, hw1⟩ : ∃ x, w.alloc (.cells #[.int .i64 node] 3) = x := ⟨_, rfl⟩
  have hb1 : Below w.heap.size w w1 := by rw [← hw1]; exact (Below.refl _ _).alloc (Nat.le_refl _) _
  have hB1 : w1.heap[w.heap.size]? = some (.cells #[.int .i64 node] 3 (0, 0)) := by rw [← hw1]; exact heap_alloc_new w _
  have c1 := indexG_any 100 #[.pointer (some ⟨w.heap.size, 0, none⟩)] (fun x => decide (x.1 = node)) (enters_of Try.func100 (by kernel_rfl) rfl) w1 ga gc L (hL.on hb1) (by omega) (fun W x hb => isGone1_any w1 w.heap.size node hB1 W x hb)
  have HW : Hid (w.alloc (.cells #[.int .i64 node] 3) = w1) := hw1
  clear hw1 hB1
  have HR : Hid (decide (0 ≤ idxP (fun x : Int × Int => decide (x.1 = node)) L) = hasG L node) := by
    show _ = _
    rcases idxP_cases (fun x : Int × Int => decide (x.1 = node)) L with ⟨k, hk, he, hp, _⟩ | ⟨he, hn⟩
    · rw [he, hasG_yes hk (by simpa using hp)]
      exact decide_eq_true (by omega)
    · rw [he, hasG_no fun q hq => by simpa using hn L[q] (List.getElem_mem hq)]
      rfl
  obtain ⟨r, hr⟩ : ∃ r, idxP (fun x : Int × Int => decide (x.1 = node)) L = r := ⟨_, rfl⟩
  rw [hr] at c1 HR
  clear hr
  have hd : decide (0 ≤ r) = hasG L node := HR.out
  have c2 : Calls Try.prog 99 #[.slice ga L.length gc, .func (.func 100) #[] #[.pointer (some ⟨w.heap.size, 0, none⟩)]] w1 fun e w' => e = .returned (.bool (hasG L node)) ∧ Below w1.heap.size w1 w' := by
    rw [← hd]
    clear hd HR HW
    by_cases h0 : 0 ≤ r
    · have h0' : decide (0 ≤ r) = true := decide_eq_true h0
      go_enter Try.func99, Try.ntmps99
      go_wp2_with fail
      refine c1.mono ?_
      rintro e w2 ⟨rfl, hb2⟩
      go_wp2_with fail
      go_ret
      exact ⟨by first | rfl | (rw [h0']; rfl), hb2⟩
    · have h0' : decide (0 ≤ r) = false := decide_eq_false h0
      go_enter Try.func99, Try.ntmps99
      go_wp2_with fail
      refine c1.mono ?_
      rintro e w2 ⟨rfl, hb2⟩
      go_wp2_with fail
      go_ret
      exact ⟨by first | rfl | (rw [h0']; rfl), hb2⟩
  clear hd HR c1
  generalize hasG L node = b at c2 ⊢
  go_enter Try.func74, Try.ntmps74
  go_wp2_with fail
  rw [HW.out]
  refine c2.mono ?_
  rintro e w2 ⟨rfl, hb2⟩
  go_wp2_with fail
  go_ret
  exact ⟨rfl, hb1.trans (hb2.mono hb1.size)⟩
end Go.Proofs.Ytockgojdmaladac
