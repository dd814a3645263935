/- The program's StoredRight. -/
import Derived.Test.YtpgcfgbhkodmeaaStoredPlainJ
import Derived.Test.YtpgcfgbhkodmeaaWldBase
import Derived.Test.YtpgcfgbhkodmeaaPxOneImplJ
import Derived.WalkMore
import Derived.ScopeJumps
namespace Go.Proofs.Ytpgcfgbhkodmeaa
open Go.RowKit Go.Sort
set_option maxRecDepth 100000 in
set_option maxHeartbeats 4000000 in
theorem allAmong_any (w : World) (a b : Option Addr) (ca cb : Nat) (E B : List En) (hE : NAt w a E w.heap.size) (hB : NAt w b B w.heap.size) (hel : E.length ≤ 1048576) (hbl : B.length ≤ 1048576) :
    Calls Try.prog 39 #[.slice a E.length ca, .slice b B.length cb] w fun e w' => e = .returned (.bool (storedX E B)) ∧ Below w.heap.size w w' := by
  have HEA : Hid (NAt w a E w.heap.size) := hE
  have HBA : Hid (NAt w b B w.heap.size) := hB
  obtain ⟨res, hres⟩ : ∃ r, storedX E B = r := ⟨_, rfl⟩
  have HE : Hid (storedX E B = res) := hres
  rw [hres]
  have HL : Hid (E.length ≤ 1048576 ∧ B.length ≤ 1048576) := ⟨hel, hbl⟩
  clear hE hB hres hel hbl
  go_enter Try.func39, Try.ntmps39
  go_wp2_with fail
  go_loopw [11] (fun i wr => Box (∃ (k : Nat), k ≤ E.length ∧ i = .int .i64 k ∧ allT (storedF E B) k = true ∧ Below w.heap.size w wr))
    (fun i _ => E.length - (intOf i).toNat)
  case atStart => exact ⟨⟨0, by omega, rfl, rfl, Below.refl _ _⟩⟩
  case round =>
    obtain ⟨k, hk, rfl, hno, hbr⟩ := hrel.out
    obtain ⟨wo, hwo⟩ : ∃ wo, wo = wr := ⟨_, rfl⟩
    subst hwo
    have HN : Hid (allT (storedF E B) k = true) := hno
    have HBO : Hid (Below w.heap.size w wo) := hbr
    clear hrel hno hbr
    have hL20 := HL.out.1
    by_cases hlt : k < E.length
    · obtain ⟨g, off, rfl, hg, q0, q1, q2, q3⟩ := (HEA.out.on HBO.out) k hlt
      obtain ⟨f, hf⟩ : ∃ f, E[k] = f := ⟨_, rfl⟩
      rw [hf] at q0 q1 q2 q3
      have hsf : storedF E B k = B.any (eqEn f) := by unfold storedF; rw [getD_of hlt, hf]
      have HS : Hid (allT (storedF E B) (k + 1) = B.any (eqEn f)) := by show _ = _; unfold allT; rw [HN.out, hsf, Bool.true_and]
      have HF : Hid (B.any (eqEn f) = false → res = false) := fun h => by rw [← HE.out]; exact allT_down (k := k) hlt (by rw [hsf]; exact h)
      have HK : Hid (k < E.length) := hlt
      obtain ⟨w1, hw1⟩ : ∃ x, wo.alloc (.cells #[.string f.key, .int .i64 f.st, .int .i64 f.lf, .string f.bd] 81) = x := ⟨_, rfl⟩
      have hb1 : Below wo.heap.size wo w1 := by rw [← hw1]; exact (Below.refl _ _).alloc (Nat.le_refl _) _
      have HBB : Hid (EnB w1 wo.heap.size 81 f) := by rw [← hw1]; exact EnB.new wo _ f
      have HB1 : Hid (Below w.heap.size w w1) := HBO.out.trans (hb1.mono HBO.out.size)
      have HW : Hid (wo.alloc (.cells #[.string f.key, .int .i64 f.st, .int .i64 f.lf, .string f.bd] 81) = w1) := hw1
      have hi1 : (0 : Int) ≤ (k : Int) := by omega
      have hi2 : (k : Int) < (E.length : Int) := by omega
      clear hf hlt hsf hw1 hb1
      go_wp2_with fail
      rw [HW.out]
      obtain ⟨J, hJ⟩ : ∃ J : Act → World → Prop, J = (fun a' w' => (∃ (z4 z8 z15 z16 z17 z18 z19 z20 z21 z22 z23 z24 z25 : Value), a' = ⟨#[.slice (some ⟨g, off, none⟩) E.length ca, .slice b B.length cb, undef, undef, z4, undef, .pointer (some ⟨wo.heap.size, 0, none⟩), undef, z8, .slice (some ⟨g, off, none⟩) E.length ca, .int .i64 E.length, .int .i64 k, .bool true, .pointer (some ⟨g, off + k * 4, none⟩), .agg #[.string f.key, .int .i64 f.st, .int .i64 f.lf, .string f.bd], z15, z16, z17, z18, z19, z20, z21, z22, z23, z24, z25], []⟩) ∧ Below w1.heap.size w1 w' ∧ allT (storedF E B) (k + 1) = true) := ⟨_, rfl⟩
      have HJ : Hid (J = (fun a' w' => (∃ (z4 z8 z15 z16 z17 z18 z19 z20 z21 z22 z23 z24 z25 : Value), a' = ⟨#[.slice (some ⟨g, off, none⟩) E.length ca, .slice b B.length cb, undef, undef, z4, undef, .pointer (some ⟨wo.heap.size, 0, none⟩), undef, z8, .slice (some ⟨g, off, none⟩) E.length ca, .int .i64 E.length, .int .i64 k, .bool true, .pointer (some ⟨g, off + k * 4, none⟩), .agg #[.string f.key, .int .i64 f.st, .int .i64 f.lf, .string f.bd], z15, z16, z17, z18, z19, z20, z21, z22, z23, z24, z25], []⟩) ∧ Below w1.heap.size w1 w' ∧ allT (storedF E B) (k + 1) = true)) := hJ
      clear hJ
      refine wp_scope_jumps 0 J (fun _ _ => 0) rfl ?_ ?_
      · go_wp2_with fail
        go_loopw [17] (fun i wr => Box (∃ (n : Nat), n ≤ B.length ∧ i = .int .i64 n ∧ (B.take n).any (eqEn f) = false ∧ Below w1.heap.size w1 wr))
          (fun i _ => B.length - (intOf i).toNat)
        case atStart => exact ⟨⟨0, by omega, rfl, rfl, Below.refl _ _⟩⟩
        case round =>
          obtain ⟨n, hn, rfl, hno, hbr⟩ := hrel.out
          obtain ⟨wq, hwq⟩ : ∃ wq, wq = wr := ⟨_, rfl⟩
          subst hwq
          have HM : Hid ((B.take n).any (eqEn f) = false) := hno
          have HBQ : Hid (Below w1.heap.size w1 wq) := hbr
          clear hrel hno hbr q0 q1 q2 q3
          have hL21 := HL.out.2
          by_cases hlt2 : n < B.length
          · obtain ⟨g', off', rfl, hg', p0, p1, p2, p3⟩ := (HBA.out.on (HB1.out.trans (HBQ.out.mono HB1.out.size))) n hlt2
            have hs := any_take_succ (p := eqEn f) hlt2
            obtain ⟨o, ho⟩ : ∃ o, B[n] = o := ⟨_, rfl⟩
            rw [ho] at p0 p1 p2 p3 hs
            obtain ⟨w2, hw2⟩ : ∃ x, wq.alloc (.cells #[.string o.key, .int .i64 o.st, .int .i64 o.lf, .string o.bd] 81) = x := ⟨_, rfl⟩
            have hb2 : Below wq.heap.size wq w2 := by rw [← hw2]; exact (Below.refl _ _).alloc (Nat.le_refl _) _
            have hO : EnB w2 wq.heap.size 81 o := by rw [← hw2]; exact EnB.new wq _ o
            obtain ⟨r0, r1, r2, r3⟩ := hO.cells
            obtain ⟨d0, d1, d2, d3⟩ := ((HBB.out.on HBQ.out).on hb2).cells
            have HB2 : Hid (Below w1.heap.size w1 w2) := HBQ.out.trans (hb2.mono HBQ.out.size)
            have HW2 : Hid (wq.alloc (.cells #[.string o.key, .int .i64 o.st, .int .i64 o.lf, .string o.bd] 81) = w2) := hw2
            have hany : eqEn f o = true → B.any (eqEn f) = true := fun h => by rw [List.any_eq_true]; exact ⟨o, by rw [← ho]; exact List.getElem_mem hlt2, h⟩
            have HS2 : Hid ((B.take (n + 1)).any (eqEn f) = eqEn f o ∧ (eqEn f o = true → B.any (eqEn f) = true)) := ⟨by rw [hs, HM.out, Bool.false_or], hany⟩
            have HK2 : Hid (n < B.length) := hlt2
            have hne := fun w => enE_eqB f o w
            obtain ⟨bb, hbb⟩ : ∃ bb, eqEn f o = bb := ⟨_, rfl⟩
            rw [hbb] at hne HS2
            have hj1 : (0 : Int) ≤ (n : Int) := by omega
            have hj2 : (n : Int) < (B.length : Int) := by omega
            rw [← hw2] at r0 r1 r2 r3 d0 d1 d2 d3
            clear ho hlt2 hs hany hbb hw2 hb2 hO
            cases bb with
            | false =>
              go_wp2_with fail
              rw [HW2.out]
              go_roundw
              case rel =>
                try ((repeat apply Exists.intro); refine ⟨?_, rfl⟩)
                exact ⟨⟨n + 1, by have := HK2.out; omega, by go_num, HS2.out.1, HB2.out⟩⟩
              case measure => have := HK2.out; simp [intOf]; omega
            | true =>
              have HPO : Hid (allT (storedF E B) (k + 1) = true) := by show _ = _; rw [HS.out]; exact HS2.out.2 rfl
              go_wp2_with fail
              rw [HW2.out]
              go_step3
              show 0 = 0 ∧ J _ _
              rw [HJ.out]
              refine ⟨rfl, ?_, HB2.out, HPO.out⟩
              repeat apply Exists.intro
              rfl
          · have hj3 : ¬ (n : Int) < (B.length : Int) := by omega
            have HR : Hid (res = false) := by
              refine HF.out ?_
              have h := HM.out
              rw [show n = B.length by omega, List.take_length] at h
              exact h
            clear hlt2 hn
            go_wp2_with fail
            simp only [Exit.jump]
            simp only [Exit.inBlock, Exit.then]
            change bodyPost Try.prog Try.f39 (fun e w' => e = .returned (.bool res) ∧ Below w.heap.size w w') Exit.ret _ _
            refine bodyPost_ret (results_tmp rfl _ _ _) rfl ?_
            exact ⟨by rw [HR.out]; rfl, HB1.out.trans (HBQ.out.mono HB1.out.size)⟩
      · intro a' w' hjj
        rw [HJ.out] at hjj
        obtain ⟨⟨z4, z8, z15, z16, z17, z18, z19, z20, z21, z22, z23, z24, z25, rfl⟩, hbj, hpj⟩ := hjj
        have HBJ : Hid (Below w1.heap.size w1 w') := hbj
        have HPJ : Hid (allT (storedF E B) (k + 1) = true) := hpj
        clear hbj hpj HJ
        refine wp_skip ?_
        simp only [Exit.jump, Exit.inBlock, Exit.then]
        go_at_K
        go_wp2_with fail
        go_roundw
        case rel =>
          try ((repeat apply Exists.intro); refine ⟨?_, rfl⟩)
          exact ⟨⟨k + 1, by have := HK.out; omega, by go_num, HPJ.out, HB1.out.trans (HBJ.out.mono HB1.out.size)⟩⟩
        case measure => have := HK.out; simp [intOf]; omega
    · have hi3 : ¬ (k : Int) < (E.length : Int) := by omega
      have HR : Hid (res = true) := by show _ = _; rw [← HE.out]; unfold storedX; rw [show E.length = k by omega, HN.out]
      clear hlt hk
      go_wp2_with fail
      go_ret
      exact ⟨by rw [HR.out]; rfl, HBO.out⟩
set_option maxRecDepth 100000 in
set_option maxHeartbeats 4000000 in
theorem implStored_any (w : World) (X : Wc) (R : Wld) (hA : WAt w X R w.heap.size) (hsz : WSz R) :
    Calls Try.prog 15 #[.agg #[.int .i64 R.px.now, X.x.e, X.x.w, X.x.m, X.x.k, .int .i64 R.px.pol.sk.added, X.x.f, X.x.c, .int .i64 R.px.hits, X.d, X.n, X.b]] w fun e w' => e = .returned (.bool (storedX R.px.ents R.bd)) ∧ Below w.heap.size w w' := by
  obtain ⟨w1, hw1⟩ : ∃ x, w.alloc (.cells #[.int .i64 R.px.now, X.x.e, X.x.w, X.x.m, X.x.k, .int .i64 R.px.pol.sk.added, X.x.f, X.x.c, .int .i64 R.px.hits, X.d, X.n, X.b] 58) = x := ⟨_, rfl⟩
  have hb1 : Below w.heap.size w w1 := by rw [← hw1]; exact (Below.refl _ _).alloc (Nat.le_refl _) _
  have hB1 : TB w1 w.heap.size 58 (.int .i64 R.px.now) X.x.e X.x.w X.x.m X.x.k (.int .i64 R.px.pol.sk.added) X.x.f X.x.c (.int .i64 R.px.hits) X.d X.n X.b := by rw [← hw1]; exact TB.new _ _ _ _ _ _ _ _ _ _ _ _ _ _
  obtain ⟨ea, ec, hxe, hE0⟩ := hA.x.e
  obtain ⟨ba, bc, hxb, hD0⟩ := hA.b
  have HW : Hid (w.alloc (.cells #[.int .i64 R.px.now, X.x.e, X.x.w, X.x.m, X.x.k, .int .i64 R.px.pol.sk.added, X.x.f, X.x.c, .int .i64 R.px.hits, X.d, X.n, X.b] 58) = w1) := hw1
  obtain ⟨b0, b1, b2, b3, b4, b5, b6, b7, b8, b9, b10, b11⟩ := hB1.cells
  rw [hxe] at b1
  rw [hxb] at b11
  have c1 := allAmong_any w1 ea ba ec bc R.px.ents R.bd (hE0.on hb1) (hD0.on hb1) hsz.parts.1.parts.1 hsz.parts.2.2.2
  rw [← hw1] at b1 b11
  clear hw1 hsz hA hE0 hD0 hB1 hxe hxb b0 b2 b3 b4 b5 b6 b7 b8 b9 b10
  go_enter Try.func15, Try.ntmps15
  go_wp2_with fail
  rw [HW.out]
  refine c1.mono ?_
  rintro e w2 ⟨rfl, hb2⟩
  go_wp2_with fail
  go_ret
  exact ⟨rfl, hb1.trans (hb2.mono hb1.size)⟩
end Go.Proofs.Ytpgcfgbhkodmeaa
