/- Tasks, and lists that tasks changed, are drawn. -/
import Derived.Test.YtockgojdmaladabDraws
import Derived.Test.YtockgojdmaladabDrawTurn
import Derived.Test.YtockgojdmaladabTasks
import Derived.Test.YtockgojdmaladabTaskLaw
import Derived.Test.YtockgojdmaladabStepTaskSpec
import Derived.Test.YtockgojdmaladabListNewLaw
import Derived.Test.YtockgojdmaladabAlonePlain
import Derived.Deep.RegionLaw
namespace Go.Proofs.Ytockgojdmaladab
open Go.RowKit Go.Sort

theorem good_swap {l : List Int} {n o z : Int} (h : Good l) (hz : 0 ≤ z ∧ z ≤ 1000000000) : Good (swapW l n o z).1 := by
  unfold swapW
  split
  · exact h.set _ hz
  · exact h
theorem good_step {l : List Int} (h : Good l) (t : Tk) : Good (stepL l t).1 := by
  unfold stepL
  split
  · rename_i hr
    have hok : t.ok = true := by
      unfold ready at hr
      simp only [Bool.and_eq_true] at hr
      exact hr.2.1
    obtain ⟨hkind, hkey, hval, hnode, hpc, hprev, hcur, hnext, hmark⟩ := Tk.ok_iff.1 hok
    have hnob : Good (nobodyL l t).1 := by
      unfold nobodyL
      split
      · exact ((h.set _ (by omega)).set _ (by omega)).set _ (by omega)
      · exact h
    unfold goL lookL foundL
    dsimp only
    repeat' split
    all_goals first | exact h | exact hnob | exact good_swap h (by omega)
  · exact h

def kindL6 : List Int := [1, 2, 2, 2, 3]

set_option maxHeartbeats 2000000 in
theorem l06Task_any (w : World) (p : Nat) (ca : Option Addr) (n cap : Nat) (node : Int) (hc : Cur w p ca n cap) (hcode : CodeAt w ca n p) (hn : n ≤ 1048576) :
    Calls Try.prog 127 #[.pointer (some ⟨p, 0, none⟩), .int .i64 node] w fun e w' => ∃ t : Tk, e = .returned (.agg (tcs t)) ∧ Left w w' p ca n cap := by
  have hp := hc.lt
  obtain ⟨w1, hw1⟩ : ∃ w1, w.alloc (.cells (tcs Tk.zero) 43) = w1 := ⟨_, rfl⟩
  have hl1 : Left w w1 p ca n cap := by rw [← hw1]; exact (Left.refl hc hcode).plus hp _
  have hR1 : TBox w1 w.heap.size Tk.zero := by rw [← hw1]; exact TBox.new _ _
  have HW : Hid (w.alloc (.cells #[.int .i64 0, .int .i64 0, .int .i64 0, .int .i64 0, .int .i64 0, .int .i64 0, .int .i64 0, .int .i64 0, .int .i64 0, .bool false, .int .i64 0] 43) = w1) := hw1
  have hp1 : p < w1.heap.size := Nat.lt_of_lt_of_le hp hl1.2.2.size
  have c2 := pickInt_any (w1.alloc (.cells (ints kindL6).toArray 3)) p ca n cap w1.heap.size (.slice (some ⟨w1.heap.size, 0, none⟩) 5 5) kindL6 (hl1.1.alloc hp1 _) (hl1.2.1.alloc _) hn
    (World.ownsRow_lit (base := w1.heap.size) (e := 3) (size := 1) w1 (ints kindL6).toArray 5 (Nat.le_refl _) (by simp [maxLen]) (by rfl)) hp1 (by decide) (by decide)
  have hs1 : w1.heap.size = w.heap.size + 1 := by rw [← hw1]; simp
  rw [hs1] at c2
  have hl2 := hl1.plus hp (.cells (ints kindL6).toArray 3)
  have hR2 : TBox (w1.alloc (.cells (ints kindL6).toArray 3)) w.heap.size Tk.zero := hR1.on ((Below.refl _ _).alloc (Nat.le_refl _) _)
  clear hw1 hl1 hR1 hc hcode hs1
  go_enter Try.func127, Try.ntmps127
  go_wp2_with fail
  rw [HW.out]
  refine c2.mono ?_
  rintro e w3 ⟨z, _, rfl, hl3⟩
  have hR3 : TBox w3 w.heap.size Tk.zero := hR2.kept (hl3.2.2.block _ hR2.lt (by simp; omega))
  have hl4 := hl2.trans hl3
  have c4 := below_any w3 p ca n cap 6 hl4.1 hl4.2.1 hn (by omega) (by omega)
  clear c2 hl2 hl3 hR2
  go_wp2_with fail
  refine c4.mono ?_
  rintro e w5 ⟨x, hx, _, rfl, hl5⟩
  have hx2 := hx (by omega)
  have hR5 : TBox w5 w.heap.size Tk.zero := hR3.kept (hl5.2.2.block _ hR3.lt (by simp; omega))
  have hl6 := hl4.trans hl5
  have c6 := below_any w5 p ca n cap 9 hl6.1 hl6.2.1 hn (by omega) (by omega)
  clear c4 hl4 hl5 hR3 hx
  go_wp2_with fail
  refine c6.mono ?_
  rintro e w7 ⟨y, hy, _, rfl, hl7⟩
  have hR7 : TBox w7 w.heap.size Tk.zero := hR5.kept (hl7.2.2.block _ hR5.lt (by simp; omega))
  have hl8 := hl6.trans hl7
  have c8 := specTaskNew_any z (1 + (x : Int)) y node w7
  unfold tcs at c8
  clear c6 hl6 hl7 hR5 hy
  go_wp2_with fail
  refine c8.mono ?_
  rintro e w9 ⟨rfl, hb9⟩
  have hR9 := hR7.on hb9
  have hl9 : Left w w9 p ca n cap := hl8.below (hb9.mono hl8.2.2.size) hp
  obtain ⟨s, hs⟩ : ∃ s, Tk.new z (1 + (x : Int)) y node = s := ⟨_, rfl⟩
  rw [hs]
  obtain ⟨r0, r1, r2, r3, r4, r5, r6, r7, r8, r9, r10⟩ := hR9.cells
  dsimp only [Tk.zero] at r0 r1 r2 r3 r4 r5 r6 r7 r8 r9 r10
  have z0 := hR9.thaw 0
  have z1 := hR9.thaw 1
  have z2 := hR9.thaw 2
  have z3 := hR9.thaw 3
  have z4 := hR9.thaw 4
  have z5 := hR9.thaw 5
  have z6 := hR9.thaw 6
  have z7 := hR9.thaw 7
  have z8 := hR9.thaw 8
  have z9 := hR9.thaw 9
  have z10 := hR9.thaw 10
  have HA : Hid (TBox w9 w.heap.size Tk.zero ∧ Left w w9 p ca n cap) := ⟨hR9, hl9⟩
  clear hs c8 hR7 hR9 hl8 hl9 hb9
  go_wp2
  obtain ⟨hR9, hl9⟩ := HA.out
  clear r0 r1 r2 r3 r4 r5 r6 r7 r8 r9 r10 z0 z1 z2 z3 z4 z5 z6 z7 z8 z9 z10
  obtain ⟨s0, s1, s2, s3, s4, s5, s6, s7, s8, s9, s10⟩ := (put11_box hR9 s).cells
  unfold put11 at s0 s1 s2 s3 s4 s5 s6 s7 s8 s9 s10
  have HF : Hid (Left w (put11 w9 w.heap.size s) p ca n cap) := hl9.below (put11_below (Below.refl _ _) (Nat.le_refl _) s) hp
  unfold put11 at HF
  refine bodyPost_ret (v := .agg #[.int .i64 s.kind, .int .i64 s.key, .int .i64 s.val, .int .i64 s.node, .int .i64 s.pc, .int .i64 s.prev, .int .i64 s.cur, .int .i64 s.next, .int .i64 s.mark, .bool s.done, .int .i64 s.ans]) (by simp [results, Try.results127, go_sem, s0, s1, s2, s3, s4, s5, s6, s7, s8, s9, s10]) rfl ⟨s, rfl, HF.out⟩
end Go.Proofs.Ytockgojdmaladab
