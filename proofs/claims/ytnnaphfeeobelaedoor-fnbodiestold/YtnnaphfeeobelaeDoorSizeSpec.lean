/- A length's line: the other text. Written by mksize.py. -/
import Derived.Test.YtnnaphfeeobelaeDoorChunkSpecJ
namespace Go.Proofs.YtnnaphfeeobelaeDoor
open Go.RowKit Go.Sort
theorem hexI_some {b : UInt8} {x : Nat} (h : hexV b = some x) : hexI b = (x : Int) := by unfold hexI; rw [h]
theorem hexI_none {b : UInt8} (h : hexV b = none) : hexI b = -1 := by unfold hexI; rw [h]
theorem run_at (s : ByteArray) (j : Nat) (hj : j < s.size) (b : UInt8) (hb : s[j] = b) (W : World) : (Instr.index 9 (.string s) (.int .i64 (j : Int))).run Tryd.prog W = .ok (.int .u8 (b.toNat : Int)) W := by
  rw [run_index_string W 9 s .i64 (j : Int) Tryd.underlying9, dif_pos ⟨by omega, by omega⟩, ← hb]
  rfl
set_option maxRecDepth 100000 in
set_option maxHeartbeats 8000000 in
theorem specSize_any (s : ByteArray) (k : Nat) (hk : k ≤ s.size) (hs : s.size ≤ 1048576) (w : World) :
    Calls Tryd.prog 28 #[.string s, .int .i64 k] w fun e w' => e = .returned (.tuple #[.int .i64 (sizeS s.data.toList k).1, .int .i64 (sizeS s.data.toList k).2]) ∧ w' = w := by
  obtain ⟨l, hl⟩ : ∃ l, s.data.toList = l := ⟨_, rfl⟩
  have hsz : s.size = l.length := by rw [← hl]; exact Lib.size_eq s
  rw [hl]
  have gt : ∀ j (hj : j < s.size), l[j]? = some s[j] := by
    intro j hj
    subst hl
    rw [List.getElem?_eq_getElem (by rw [← Lib.size_eq]; exact hj)]
    rfl
  have gn : ∀ j, s.size ≤ j → l[j]? = none := fun j hj => List.getElem?_eq_none (by omega)
  obtain ⟨R1, hR1⟩ : ∃ R, (sizeS l k).1 = R := ⟨_, rfl⟩
  obtain ⟨R2, hR2⟩ : ∃ R, (sizeS l k).2 = R := ⟨_, rfl⟩
  rw [hR1, hR2]
  have HR : Hid (sizeS l k = (R1, R2)) := by show _ = _; rw [← hR1, ← hR2]
  clear hR1 hR2 hl
  obtain ⟨i1, hi1⟩ : ∃ i : Nat, k + 1 = i := ⟨_, rfl⟩
  obtain ⟨i2, hi2⟩ : ∃ i : Nat, i1 + 1 = i := ⟨_, rfl⟩
  obtain ⟨i3, hi3⟩ : ∃ i : Nat, i2 + 1 = i := ⟨_, rfl⟩
  have p1 : (k : Int) + 1 = (i1 : Int) := by omega
  have p2 : (i1 : Int) + 1 = (i2 : Int) := by omega
  have p3 : (i2 : Int) + 1 = (i3 : Int) := by omega
  have p4 : (i1 : Int) + 2 = (i3 : Int) := by omega
  have q0 : (k : Int) - (k : Int) = 0 := by omega
  have q1 : (i1 : Int) - (k : Int) = 1 := by omega
  have q2 : (i2 : Int) - (k : Int) = 2 := by omega
  have r1 : ((i1 : Int) == (k : Int)) = false := by rw [beq_eq_false_iff_ne]; omega
  have r2 : ((i2 : Int) == (k : Int)) = false := by rw [beq_eq_false_iff_ne]; omega
  have HI : Hid (k + 1 = i1 ∧ i1 + 1 = i2 ∧ i2 + 1 = i3) := ⟨hi1, hi2, hi3⟩
  by_cases h0 : k < s.size
  case neg =>
    have HE : Hid (R1 = 0 ∧ R2 = 0) := by
      have h := HR.out
      unfold sizeS figsAt at h
      rw [gn k (by omega)] at h
      simp only [Option.bind_none, Nat.add_zero, gn k (by omega), Prod.mk.injEq] at h
      exact ⟨h.1.symm, h.2.symm⟩
    have t0 : ¬ (k : Int) < (s.size : Int) := by omega
    have t1 : ((k : Int) == (s.size : Int)) = true := by simp; omega
    clear HR gt gn hi1 hi2 hi3 p1 p2 p3 p4 q1 q2 r1 r2 hsz h0
    go_enter Tryd.func28, Tryd.ntmps28
    go_wp2_with fail
    refine wp_loop_rounds 3 ?_
    rw [rounds_succ]
    go_wp2_with fail
    go_ret2
    exact ⟨by rw [HE.out.1, HE.out.2]; rfl, rfl⟩
  obtain ⟨b, hb⟩ : ∃ b, s[k] = b := ⟨_, rfl⟩
  have gb : l[k]? = some b := by rw [gt k h0, hb]
  have x0 := run_at s k h0 b hb
  have t0 : (k : Int) < (s.size : Int) := by omega
  have u0 : ((k : Int) == (s.size : Int)) = false := by rw [beq_eq_false_iff_ne]; omega
  have cb := specValue_any b w
  have hbl : b.toNat < 256 := b.toNat_lt
  cases hv : hexV b with
  | none =>
    rw [hexI_none hv] at cb
    have HE : Hid (R1 = 0 ∧ R2 = -1) := by
      have h := HR.out
      unfold sizeS figsAt at h
      rw [gb] at h
      simp only [Option.bind_some, hv, Nat.add_zero, gb, Prod.mk.injEq, if_true] at h
      exact ⟨h.1.symm, h.2.symm⟩
    clear HR gt gn hi1 hi2 hi3 p1 p2 p3 p4 q1 q2 r1 r2 hsz h0 gb hb hv
    go_enter Tryd.func28, Tryd.ntmps28
    go_wp2_with fail
    refine wp_loop_rounds 3 ?_
    rw [rounds_succ]
    go_wp2_with fail
    refine cb.mono ?_
    rintro e wv ⟨rfl, hwv⟩
    rw [hwv]
    clear hwv
    go_wp2_with fail
    go_ret2
    exact ⟨by rw [HE.out.1, HE.out.2]; rfl, rfl⟩
  | some x =>
  rw [hexI_some hv] at cb
  have hx16 : x < 16 := hexV_lt hv
  have hxi : (0 : Int) ≤ (x : Int) := by omega
  by_cases h1 : i1 < s.size
  case neg =>
    have HE : Hid (R1 = 0 ∧ R2 = 0) := by
      have h := HR.out
      unfold sizeS figsAt at h
      rw [gb] at h
      simp only [Option.bind_some, hv, hi1, gn i1 (by omega), Option.bind_none, Prod.mk.injEq] at h
      exact ⟨h.1.symm, h.2.symm⟩
    have t1 : ¬ (i1 : Int) < (s.size : Int) := by omega
    have u1 : ((i1 : Int) == (s.size : Int)) = true := by simp; omega
    clear HR gt gn hi1 hi2 hi3 p2 p3 p4 q2 r2 hsz h0 gb hb hv
    go_enter Tryd.func28, Tryd.ntmps28
    go_wp2_with fail
    refine wp_loop_rounds 3 ?_
    rw [rounds_succ]
    go_wp2_with fail
    refine cb.mono ?_
    rintro e wv ⟨rfl, hwv⟩
    rw [hwv]
    clear hwv wv
    go_wp2_with fail
    refine cb.mono ?_
    rintro e wv ⟨rfl, hwv⟩
    rw [hwv]
    clear hwv wv
    go_wp2_with fail
    rw [rounds_succ]
    go_wp2_with fail
    go_ret2
    exact ⟨by rw [HE.out.1, HE.out.2]; rfl, rfl⟩
  obtain ⟨c, hc⟩ : ∃ c, s[i1] = c := ⟨_, rfl⟩
  have gc : l[i1]? = some c := by rw [gt i1 h1, hc]
  have x1 := run_at s i1 h1 c hc
  have t1 : (i1 : Int) < (s.size : Int) := by omega
  have u1 : ((i1 : Int) == (s.size : Int)) = false := by rw [beq_eq_false_iff_ne]; omega
  have cc := specValue_any c w
  have hcl : c.toNat < 256 := c.toNat_lt
  cases hw' : hexV c with
  | none =>
    rw [hexI_none hw'] at cc
    have HF : Hid (figsAt l k = (1, x)) := by
      show _ = _
      unfold figsAt
      rw [gb]
      simp only [Option.bind_some, hv, hi1, gc, hw']
    have HS : Hid (sizeS l k = match l[i1]? with | none => (0, 0) | some d => if d.toNat = 13 then (match l[i2]? with | none => (0, 0) | some g => if g.toNat = 10 then ((x : Int), (i3 : Int)) else (0, -1)) else (0, -1)) := by
      show _ = _
      have e1 : k + 1 = i1 := by have := HI.out; omega
      have e2 : i1 + 1 = i2 := by have := HI.out; omega
      have e3 : i1 + 2 = i3 := by have := HI.out; omega
      unfold sizeS
      rw [HF.out]
      simp only [e1, e2, e3]
      cases l[i1]? with
      | none => rfl
      | some d => simp only []; rw [if_neg (by decide)]; rfl
    by_cases h13 : c.toNat = 13
    case neg =>
      have y1 : ((c.toNat : Int) != 13) = true := by simp; omega
      have HE : Hid (R1 = 0 ∧ R2 = -1) := by
        have h := HR.out
        rw [HS.out] at h
        rw [gc] at h
        simp only [] at h
        rw [if_neg h13] at h
        simp only [Prod.mk.injEq] at h
        exact ⟨h.1.symm, h.2.symm⟩
      clear HR HS gt gn hi1 hi2 hi3 hsz h0 h1 gb hb hv hc gc hw' HF h13
      go_enter Tryd.func28, Tryd.ntmps28
      go_wp2_with fail
      refine wp_loop_rounds 4 ?_
      rw [rounds_succ]
      go_wp2_with fail
      refine cb.mono ?_
      rintro e wv ⟨rfl, hwv⟩
      rw [hwv]
      clear hwv wv
      go_wp2_with fail
      refine cb.mono ?_
      rintro e wv ⟨rfl, hwv⟩
      rw [hwv]
      clear hwv wv
      go_wp2_with fail
      rw [rounds_succ]
      go_wp2_with fail
      refine cc.mono ?_
      rintro e wv ⟨rfl, hwv⟩
      rw [hwv]
      clear hwv wv
      go_wp2_with fail
      go_ret2
      exact ⟨by rw [HE.out.1, HE.out.2]; rfl, rfl⟩
    have y1 : ((c.toNat : Int) != 13) = false := by simp; omega
    by_cases h3 : i2 < s.size
    case neg =>
      have u3 : ((i2 : Int) == (s.size : Int)) = true := by simp; omega
      have HE : Hid (R1 = 0 ∧ R2 = 0) := by
        have h := HR.out
        rw [HS.out] at h
        rw [gc] at h
        simp only [] at h
        rw [if_pos h13, gn i2 (by omega)] at h
        simp only [Prod.mk.injEq] at h
        exact ⟨h.1.symm, h.2.symm⟩
      clear HR HS gt gn hi1 hi2 hi3 hsz h0 h1 gb hb hv hc gc hw' HF h13 h3
      go_enter Tryd.func28, Tryd.ntmps28
      go_wp2_with fail
      refine wp_loop_rounds 4 ?_
      rw [rounds_succ]
      go_wp2_with fail
      refine cb.mono ?_
      rintro e wv ⟨rfl, hwv⟩
      rw [hwv]
      clear hwv wv
      go_wp2_with fail
      refine cb.mono ?_
      rintro e wv ⟨rfl, hwv⟩
      rw [hwv]
      clear hwv wv
      go_wp2_with fail
      rw [rounds_succ]
      go_wp2_with fail
      refine cc.mono ?_
      rintro e wv ⟨rfl, hwv⟩
      rw [hwv]
      clear hwv wv
      go_wp2_with fail
      go_ret2
      exact ⟨by rw [HE.out.1, HE.out.2]; rfl, rfl⟩
    obtain ⟨g, hg⟩ : ∃ g, s[i2] = g := ⟨_, rfl⟩
    have gg : l[i2]? = some g := by rw [gt i2 h3, hg]
    have x3 := run_at s i2 h3 g hg
    have t3 : (i2 : Int) < (s.size : Int) := by omega
    have u3 : ((i2 : Int) == (s.size : Int)) = false := by rw [beq_eq_false_iff_ne]; omega
    have hgl : g.toNat < 256 := g.toNat_lt
    by_cases h10 : g.toNat = 10
    case neg =>
      have y2 : ((g.toNat : Int) != 10) = true := by simp; omega
      have HE : Hid (R1 = 0 ∧ R2 = -1) := by
        have h := HR.out
        rw [HS.out] at h
        rw [gc] at h
        simp only [] at h
        rw [if_pos h13, gg] at h
        simp only [] at h
        rw [if_neg h10] at h
        simp only [Prod.mk.injEq] at h
        exact ⟨h.1.symm, h.2.symm⟩
      clear HR HS gt gn hi1 hi2 hi3 hsz h0 h1 gb hb hv hc gc hw' HF gg hg h3 h13 h10
      go_enter Tryd.func28, Tryd.ntmps28
      go_wp2_with fail
      refine wp_loop_rounds 4 ?_
      rw [rounds_succ]
      go_wp2_with fail
      refine cb.mono ?_
      rintro e wv ⟨rfl, hwv⟩
      rw [hwv]
      clear hwv wv
      go_wp2_with fail
      refine cb.mono ?_
      rintro e wv ⟨rfl, hwv⟩
      rw [hwv]
      clear hwv wv
      go_wp2_with fail
      rw [rounds_succ]
      go_wp2_with fail
      refine cc.mono ?_
      rintro e wv ⟨rfl, hwv⟩
      rw [hwv]
      clear hwv wv
      go_wp2_with fail
      go_ret2
      exact ⟨by rw [HE.out.1, HE.out.2]; rfl, rfl⟩
    have y2 : ((g.toNat : Int) != 10) = false := by simp; omega
    have HE : Hid (R1 = (x : Int) ∧ R2 = (i3 : Int)) := by
      have h := HR.out
      rw [HS.out] at h
      rw [gc] at h
      simp only [] at h
      rw [if_pos h13, gg] at h
      simp only [] at h
      rw [if_pos h10] at h
      simp only [Prod.mk.injEq] at h
      exact ⟨h.1.symm, h.2.symm⟩
    clear HR HS gt gn hi1 hi2 hi3 hsz h0 h1 gb hb hv hc gc hw' HF gg hg h3 h13 h10
    go_enter Tryd.func28, Tryd.ntmps28
    go_wp2_with fail
    refine wp_loop_rounds 4 ?_
    rw [rounds_succ]
    go_wp2_with fail
    refine cb.mono ?_
    rintro e wv ⟨rfl, hwv⟩
    rw [hwv]
    clear hwv wv
    go_wp2_with fail
    refine cb.mono ?_
    rintro e wv ⟨rfl, hwv⟩
    rw [hwv]
    clear hwv wv
    go_wp2_with fail
    rw [rounds_succ]
    go_wp2_with fail
    refine cc.mono ?_
    rintro e wv ⟨rfl, hwv⟩
    rw [hwv]
    clear hwv wv
    go_wp2_with fail
    go_ret2
    exact ⟨by rw [HE.out.1, HE.out.2]; rfl, rfl⟩
  | some y =>
    rw [hexI_some hw'] at cc
    have hy16 : y < 16 := hexV_lt hw'
    have hyi : (0 : Int) ≤ (y : Int) := by omega
    have HF : Hid (figsAt l k = (2, 16 * x + y)) := by
      show _ = _
      unfold figsAt
      rw [gb]
      simp only [Option.bind_some, hv, hi1, gc, hw']
    have v2 : 16 * (x : Int) + (y : Int) = ((16 * x + y : Nat) : Int) := by omega
    generalize 16 * x + y = z at HF v2
    obtain ⟨i4, hi4⟩ : ∃ i : Nat, i3 + 1 = i := ⟨_, rfl⟩
    have p5 : (i2 : Int) + 2 = (i4 : Int) := by omega
    have HI4 : Hid (i3 + 1 = i4) := hi4
    have HS : Hid (sizeS l k = match l[i2]? with | none => (0, 0) | some d => if d.toNat = 13 then (match l[i3]? with | none => (0, 0) | some g => if g.toNat = 10 then ((z : Int), (i4 : Int)) else (0, -1)) else (0, -1)) := by
      show _ = _
      have e1 : k + 2 = i2 := by have := HI.out; omega
      have e2 : i2 + 1 = i3 := by have := HI.out; omega
      have e3 : i2 + 2 = i4 := by have := HI.out; have := HI4.out; omega
      unfold sizeS
      rw [HF.out]
      simp only [e1, e2, e3]
      cases l[i2]? with
      | none => rfl
      | some d => simp only []; rw [if_neg (by decide)]; rfl
    by_cases h2 : i2 < s.size
    case neg =>
      have t2 : ¬ (i2 : Int) < (s.size : Int) := by omega
      have u2 : ((i2 : Int) == (s.size : Int)) = true := by simp; omega
      have HE : Hid (R1 = 0 ∧ R2 = 0) := by
        have h := HR.out
        rw [HS.out] at h
        rw [gn i2 (by omega)] at h
        simp only [Prod.mk.injEq] at h
        exact ⟨h.1.symm, h.2.symm⟩
      clear HR HS gt gn hi1 hi2 hi3 hsz h0 h1 gb hb hv hc gc hw' HF h2
      go_enter Tryd.func28, Tryd.ntmps28
      go_wp2_with fail
      refine wp_loop_rounds 4 ?_
      rw [rounds_succ]
      go_wp2_with fail
      refine cb.mono ?_
      rintro e wv ⟨rfl, hwv⟩
      rw [hwv]
      clear hwv wv
      go_wp2_with fail
      refine cb.mono ?_
      rintro e wv ⟨rfl, hwv⟩
      rw [hwv]
      clear hwv wv
      go_wp2_with fail
      rw [rounds_succ]
      go_wp2_with fail
      refine cc.mono ?_
      rintro e wv ⟨rfl, hwv⟩
      rw [hwv]
      clear hwv wv
      go_wp2_with fail
      refine cc.mono ?_
      rintro e wv ⟨rfl, hwv⟩
      rw [hwv]
      clear hwv wv
      go_wp2_with fail
      rw [rounds_succ]
      go_wp2_with fail
      go_ret2
      exact ⟨by rw [HE.out.1, HE.out.2]; rfl, rfl⟩
    obtain ⟨d, hd⟩ : ∃ d, s[i2] = d := ⟨_, rfl⟩
    have gd : l[i2]? = some d := by rw [gt i2 h2, hd]
    have x2 := run_at s i2 h2 d hd
    have t2 : (i2 : Int) < (s.size : Int) := by omega
    have u2 : ((i2 : Int) == (s.size : Int)) = false := by rw [beq_eq_false_iff_ne]; omega
    have hdl : d.toNat < 256 := d.toNat_lt
    by_cases h13 : d.toNat = 13
    case neg =>
      have y1 : ((d.toNat : Int) != 13) = true := by simp; omega
      have HE : Hid (R1 = 0 ∧ R2 = -1) := by
        have h := HR.out
        rw [HS.out] at h
        rw [gd] at h
        simp only [] at h
        rw [if_neg h13] at h
        simp only [Prod.mk.injEq] at h
        exact ⟨h.1.symm, h.2.symm⟩
      clear HR HS gt gn hi1 hi2 hi3 hsz h0 h1 gb hb hv hc gc hw' HF gd hd h2 h13
      go_enter Tryd.func28, Tryd.ntmps28
      go_wp2_with fail
      refine wp_loop_rounds 4 ?_
      rw [rounds_succ]
      go_wp2_with fail
      refine cb.mono ?_
      rintro e wv ⟨rfl, hwv⟩
      rw [hwv]
      clear hwv wv
      go_wp2_with fail
      refine cb.mono ?_
      rintro e wv ⟨rfl, hwv⟩
      rw [hwv]
      clear hwv wv
      go_wp2_with fail
      rw [rounds_succ]
      go_wp2_with fail
      refine cc.mono ?_
      rintro e wv ⟨rfl, hwv⟩
      rw [hwv]
      clear hwv wv
      go_wp2_with fail
      refine cc.mono ?_
      rintro e wv ⟨rfl, hwv⟩
      rw [hwv]
      clear hwv wv
      go_wp2_with fail
      rw [rounds_succ]
      go_wp2_with fail
      go_ret2
      exact ⟨by rw [HE.out.1, HE.out.2]; rfl, rfl⟩
    have y1 : ((d.toNat : Int) != 13) = false := by simp; omega
    by_cases h3 : i3 < s.size
    case neg =>
      have u3 : ((i3 : Int) == (s.size : Int)) = true := by simp; omega
      have HE : Hid (R1 = 0 ∧ R2 = 0) := by
        have h := HR.out
        rw [HS.out] at h
        rw [gd] at h
        simp only [] at h
        rw [if_pos h13, gn i3 (by omega)] at h
        simp only [Prod.mk.injEq] at h
        exact ⟨h.1.symm, h.2.symm⟩
      clear HR HS gt gn hi1 hi2 hi3 hsz h0 h1 gb hb hv hc gc hw' HF gd hd h2 h13 h3
      go_enter Tryd.func28, Tryd.ntmps28
      go_wp2_with fail
      refine wp_loop_rounds 4 ?_
      rw [rounds_succ]
      go_wp2_with fail
      refine cb.mono ?_
      rintro e wv ⟨rfl, hwv⟩
      rw [hwv]
      clear hwv wv
      go_wp2_with fail
      refine cb.mono ?_
      rintro e wv ⟨rfl, hwv⟩
      rw [hwv]
      clear hwv wv
      go_wp2_with fail
      rw [rounds_succ]
      go_wp2_with fail
      refine cc.mono ?_
      rintro e wv ⟨rfl, hwv⟩
      rw [hwv]
      clear hwv wv
      go_wp2_with fail
      refine cc.mono ?_
      rintro e wv ⟨rfl, hwv⟩
      rw [hwv]
      clear hwv wv
      go_wp2_with fail
      rw [rounds_succ]
      go_wp2_with fail
      go_ret2
      exact ⟨by rw [HE.out.1, HE.out.2]; rfl, rfl⟩
    obtain ⟨g, hg⟩ : ∃ g, s[i3] = g := ⟨_, rfl⟩
    have gg : l[i3]? = some g := by rw [gt i3 h3, hg]
    have x3 := run_at s i3 h3 g hg
    have t3 : (i3 : Int) < (s.size : Int) := by omega
    have u3 : ((i3 : Int) == (s.size : Int)) = false := by rw [beq_eq_false_iff_ne]; omega
    have hgl : g.toNat < 256 := g.toNat_lt
    by_cases h10 : g.toNat = 10
    case neg =>
      have y2 : ((g.toNat : Int) != 10) = true := by simp; omega
      have HE : Hid (R1 = 0 ∧ R2 = -1) := by
        have h := HR.out
        rw [HS.out] at h
        rw [gd] at h
        simp only [] at h
        rw [if_pos h13, gg] at h
        simp only [] at h
        rw [if_neg h10] at h
        simp only [Prod.mk.injEq] at h
        exact ⟨h.1.symm, h.2.symm⟩
      clear HR HS gt gn hi1 hi2 hi3 hsz h0 h1 gb hb hv hc gc hw' HF gd hd h2 gg hg h3 h13 h10
      go_enter Tryd.func28, Tryd.ntmps28
      go_wp2_with fail
      refine wp_loop_rounds 4 ?_
      rw [rounds_succ]
      go_wp2_with fail
      refine cb.mono ?_
      rintro e wv ⟨rfl, hwv⟩
      rw [hwv]
      clear hwv wv
      go_wp2_with fail
      refine cb.mono ?_
      rintro e wv ⟨rfl, hwv⟩
      rw [hwv]
      clear hwv wv
      go_wp2_with fail
      rw [rounds_succ]
      go_wp2_with fail
      refine cc.mono ?_
      rintro e wv ⟨rfl, hwv⟩
      rw [hwv]
      clear hwv wv
      go_wp2_with fail
      refine cc.mono ?_
      rintro e wv ⟨rfl, hwv⟩
      rw [hwv]
      clear hwv wv
      go_wp2_with fail
      rw [rounds_succ]
      go_wp2_with fail
      go_ret2
      exact ⟨by rw [HE.out.1, HE.out.2]; rfl, rfl⟩
    have y2 : ((g.toNat : Int) != 10) = false := by simp; omega
    have HE : Hid (R1 = (z : Int) ∧ R2 = (i4 : Int)) := by
      have h := HR.out
      rw [HS.out] at h
      rw [gd] at h
      simp only [] at h
      rw [if_pos h13, gg] at h
      simp only [] at h
      rw [if_pos h10] at h
      simp only [Prod.mk.injEq] at h
      exact ⟨h.1.symm, h.2.symm⟩
    clear HR HS gt gn hi1 hi2 hi3 hsz h0 h1 gb hb hv hc gc hw' HF gd hd h2 gg hg h3 h13 h10
    go_enter Tryd.func28, Tryd.ntmps28
    go_wp2_with fail
    refine wp_loop_rounds 4 ?_
    rw [rounds_succ]
    go_wp2_with fail
    refine cb.mono ?_
    rintro e wv ⟨rfl, hwv⟩
    rw [hwv]
    clear hwv wv
    go_wp2_with fail
    refine cb.mono ?_
    rintro e wv ⟨rfl, hwv⟩
    rw [hwv]
    clear hwv wv
    go_wp2_with fail
    rw [rounds_succ]
    go_wp2_with fail
    refine cc.mono ?_
    rintro e wv ⟨rfl, hwv⟩
    rw [hwv]
    clear hwv wv
    go_wp2_with fail
    refine cc.mono ?_
    rintro e wv ⟨rfl, hwv⟩
    rw [hwv]
    clear hwv wv
    go_wp2_with fail
    rw [rounds_succ]
    go_wp2_with fail
    go_ret2
    exact ⟨by rw [HE.out.1, HE.out.2]; rfl, rfl⟩
end Go.Proofs.YtnnaphfeeobelaeDoor
