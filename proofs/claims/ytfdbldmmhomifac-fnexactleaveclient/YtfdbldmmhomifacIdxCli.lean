/- slices.IndexFunc over Clients, whatever the predicate. Written by mkdelx.py. -/
import Derived.Test.YtfdbldmmhomifacDelBase
import Derived.Test.YtfdbldmmhomifacFetPlusJ
import Derived.Deep.RegionLaw
import Derived.Shelf.Abstract
namespace Go.Proofs.Ytfdbldmmhomifac
open Go.RowKit Go.Sort

set_option maxHeartbeats 2000000 in
theorem indexCli_any (g : Nat) (lb : Array Value) (p : Cli → Bool) (eg : ∀ args w, (callFunc g args).run Try.prog w = .ok (.enter g args) w) (w : World) (a : Option Addr) (cap : Nat) (L : List (Cli)) (hL : CliAt w a L w.heap.size) (hm : L.length ≤ 10000000)
    (hp : ∀ (W : World) (x : Cli), Below w.heap.size w W → Calls Try.prog g (#[.agg #[.int .i64 x.id, .string x.key, .int .i64 x.fe, .int .i64 x.fr, .int .i64 x.st, .string x.got, .int .i64 x.ag]] ++ lb) W fun e w' => e = .returned (.bool (p x)) ∧ Below w.heap.size w w') :
    Calls Try.prog 62 #[.slice a L.length cap, .func (.func g) #[] lb] w fun e w' => e = .returned (.int .i64 (idxX p L)) ∧ Below w.heap.size w w' := by
  go_enter Try.func62, Try.ntmps62
  go_wp2
  go_loopw [5, 8] (fun _ i wr => Box (∃ k : Nat, k ≤ L.length ∧ i = .int .i64 k ∧ Below w.heap.size w wr ∧ ∀ j (hj : j < k) (hl : j < L.length), p L[j] = false))
    (fun _ i _ => L.length - (intOf i).toNat)
  case atStart => exact ⟨⟨0, by omega, rfl, Below.refl _ _, fun j hj => absurd hj (Nat.not_lt_zero _)⟩⟩
  case round =>
    obtain ⟨k, hk, rfl, hb, hno⟩ := hrel.out
    by_cases hlt : k < L.length
    · obtain ⟨g1, off, rfl, _, hc0, hc1, hc2, hc3, hc4, hc5, hc6⟩ := (hL.below hb (Nat.le_refl _)) k hlt
      obtain ⟨f, hf⟩ : ∃ f, L[k] = f := ⟨_, rfl⟩
      have HF : Hid (L[k] = f) := hf
      rw [hf] at hc0 hc1 hc2 hc3 hc4 hc5 hc6
      have hcall := hp wr f hb
      have HNO : Hid (∀ j (hj : j < k) (hl : j < L.length), p L[j] = false) := hno
      clear hL hp hf hno hrel
      have hi1 : (0 : Int) ≤ (k : Int) := by omega
      have hi2 : (k : Int) < (L.length : Int) := by omega
      cases hq : p f with
      | true =>
        rw [hq] at hcall
        go_wp2_with (go_at_fn g; refine hcall.mono ?_; rintro e w' ⟨rfl, hb'⟩)
        go_ret
        refine ⟨?_, hb'⟩
        rw [idxX_hit hlt (by rw [HF.out]; exact hq) (fun j hj => HNO.out j hj (by omega))]
        rfl
      | false =>
        rw [hq] at hcall
        go_wp2_with (go_at_fn g; refine hcall.mono ?_; rintro e w' ⟨rfl, hb'⟩)
        go_roundw
        case rel =>
          try ((repeat apply Exists.intro); refine ⟨?_, rfl⟩)
          refine ⟨⟨k + 1, by omega, by go_num, hb', fun j hj hl => ?_⟩⟩
          by_cases e : j = k
          · subst e
            rw [HF.out]; exact hq
          · exact HNO.out j (by omega) hl
        case measure => simp [intOf]; omega
    · have hi2 : ¬ (k : Int) < (L.length : Int) := by omega
      go_wp2
      go_ret
      refine ⟨?_, hb⟩
      rw [idxX_miss (fun x hx => by
        obtain ⟨j, hj, rfl⟩ := List.getElem_of_mem hx
        exact hno j (by omega) hj)]
      rfl
end Go.Proofs.Ytfdbldmmhomifac
