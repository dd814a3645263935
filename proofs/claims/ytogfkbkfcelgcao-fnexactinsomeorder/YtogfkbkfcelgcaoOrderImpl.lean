/- The program's InSomeOrder: orders are tried by a function that calls itself. -/
import Derived.Test.YtogfkbkfcelgcaoWaitImpl
import Derived.Test.YtogfkbkfcelgcaoConcatK
import Derived.Test.YtogfkbkfcelgcaoDoTaskImpl
import Derived.Deep.RegionHeld3
namespace Go.Proofs.Ytogfkbkfcelgcao
open Go.RowKit Go.Sort

theorem drwO (w : World) : Below w.heap.size w w.drew := ⟨rfl, rfl, rfl, Nat.le_refl _, fun _ _ => rfl⟩
theorem doT_length (L : List (Int × Int)) (t : Tk) : (doT L t).1.length ≤ L.length + 1 := by
  have h2 := two_filters t.key L
  have h3 := List.length_filter_le (fun p : Int × Int => !decide (p.1 = t.key)) L
  unfold doT
  by_cases k1 : t.kind = 1
  · simp [k1]
  · by_cases k2 : t.kind = 2
    · by_cases hh : hasP L t.key = true
      · simp [k2, hh]
      · simp [k2, hh]; omega
    · by_cases k3 : t.kind = 3
      · simp [k3]; omega
      · simp [k1, k2, k3]
/-- What is asked of a world in which the orders of L are tried behind P. -/
structure Tries (w : World) (B : Nat) (pa : Option Addr) (P : List (Int × Int)) (la : Option Addr) (lc : Nat) (L : List Cl) (n : Nat) : Prop where
  fn : w.cell? ⟨B, 0, none⟩ = some (.func (.func 39) #[] #[.pointer (some ⟨B, 0, none⟩)])
  lt : B < w.heap.size
  pairs : PAt w pa P w.heap.size
  asc : Asc P
  calls : KAt w la L w.heap.size
  len : L.length = n
  cap : L.length ≤ lc
  few : n ≤ 6
  short : P.length + n ≤ 1000
theorem Tries.on {w w' : World} {B : Nat} {pa : Option Addr} {P : List (Int × Int)} {la : Option Addr} {lc : Nat} {L : List Cl} {n : Nat} (h : Tries w B pa P la lc L n) (hb : Below w.heap.size w w') : Tries w' B pa P la lc L n :=
  ⟨(hb.cell (p := ⟨B, 0, none⟩) h.lt).trans h.fn, Nat.lt_of_lt_of_le h.lt hb.size, h.pairs.on hb, h.asc, h.calls.on hb, h.len, h.cap, h.few, h.short⟩
theorem enters_order : ∀ args w, (callFunc 39 args).run Try.prog w = .ok (.enter 39 args) w := enters_of Try.func39 (by kernel_rfl) rfl

set_option maxRecDepth 100000 in
set_option maxHeartbeats 4000000 in
theorem fits_any : ∀ (n : Nat) (w : World) (B : Nat) (pa : Option Addr) (pc : Nat) (P : List (Int × Int)) (la : Option Addr) (lc : Nat) (L : List Cl), Tries w B pa P la lc L n →
    Calls Try.prog 39 #[.slice pa P.length pc, .slice la L.length lc, .pointer (some ⟨B, 0, none⟩)] w fun e w' => e = .returned (.bool (fitsL n P L)) ∧ Below w.heap.size w w'
  | 0, w, B, pa, pc, P, la, lc, L, h => by
    have hl := h.len
    have : L = [] := List.length_eq_zero_iff.1 hl
    subst this
    clear h hl
    go_enter Try.func39, Try.ntmps39
    go_wp2_with fail
    go_ret
    refine ⟨?_, Below.refl _ _⟩
    rw [show fitsL 0 P [] = true by rw [fitsL]]
    rfl
  | n + 1, w, B, pa, pc, P, la, lc, L, h => by
    have ih := fits_any n
    have hlen := h.len
    have hz : ((L.length : Int) == 0) = false := by rw [beq_eq_false_iff_ne]; omega
    have H : Hid (Tries w B pa P la lc L (n + 1)) := h
    have IH : Hid (∀ (w : World) (B : Nat) (pa : Option Addr) (pc : Nat) (P : List (Int × Int)) (la : Option Addr) (lc : Nat) (L : List Cl), Tries w B pa P la lc L n →
      Calls Try.prog 39 #[.slice pa P.length pc, .slice la L.length lc, .pointer (some ⟨B, 0, none⟩)] w fun e w' => e = .returned (.bool (fitsL n P L)) ∧ Below w.heap.size w w') := ih
    have HLEN : Hid (L.length = n + 1) := hlen
    have hL6 : (L.length : Int) ≤ 6 := by have := H.out.few; omega
    clear h ih hlen
    go_enter Try.func39, Try.ntmps39
    go_wp2_with fail
    go_loopw [15] (fun i wr => Box (∃ k : Nat, k ≤ L.length ∧ i = .int .i64 k ∧ Below w.heap.size w wr ∧ ∀ q (hq : q < L.length), q < k → pickOk n P L[q] (L.eraseIdx q) = false))
      (fun i _ => L.length - (intOf i).toNat)
    case atStart => exact ⟨⟨0, by omega, rfl, Below.refl _ _, fun q _ hq => absurd hq (Nat.not_lt_zero _)⟩⟩
    case round =>
      obtain ⟨k, hk, rfl, hb, hno⟩ := hrel.out
      have HN : Hid (∀ q (hq : q < L.length), q < k → pickOk n P L[q] (L.eraseIdx q) = false) := hno
      clear hno hrel
      by_cases hlt : k < L.length
      · have hT := H.out.on hb
        obtain ⟨g, off, hla, hg, c0, c1, c2, c3, c4, c5, c6, c7, c8, c9, c10, c11, c12⟩ := hT.calls k hlt
        obtain ⟨f, hf⟩ : ∃ f, L[k] = f := ⟨_, rfl⟩
        have HF : Hid (L[k] = f) := hf
        have HK : Hid ((k : Int) < (L.length : Int)) := by show _ < _; omega
        rw [hf] at c0 c1 c2 c3 c4 c5 c6 c7 c8 c9 c10 c11 c12
        have HLA : Hid (la = some ⟨g, off, none⟩) := hla
        have hi1 : (0 : Int) ≤ (k : Int) := by omega
        have hi2 : (k : Int) < (L.length : Int) := by omega
        obtain ⟨w1, hw1⟩ : ∃ w1, wr.alloc (.cells #[.int .i64 f.t.kind, .int .i64 f.t.key, .int .i64 f.t.val, .int .i64 f.t.node, .int .i64 f.t.pc, .int .i64 f.t.prev, .int .i64 f.t.cur, .int .i64 f.t.next, .int .i64 f.t.mark, .bool f.t.done, .int .i64 f.t.ans, .int .i64 f.bg, .int .i64 f.nd] 50) = w1 := ⟨_, rfl⟩
        have hb1 : Below wr.heap.size wr w1 := by rw [← hw1]; exact (Below.refl _ _).alloc (Nat.le_refl _) _
        have hK1 : KBox w1 wr.heap.size f := by rw [← hw1]; exact KBox.new wr f
        have hT1 := hT.on hb1
        have HW : Hid (wr.alloc (.cells #[.int .i64 f.t.kind, .int .i64 f.t.key, .int .i64 f.t.val, .int .i64 f.t.node, .int .i64 f.t.pc, .int .i64 f.t.prev, .int .i64 f.t.cur, .int .i64 f.t.next, .int .i64 f.t.mark, .bool f.t.done, .int .i64 f.t.ans, .int .i64 f.bg, .int .i64 f.nd] 50) = w1) := hw1
        have cD := implDoTask_asc w1 pa pc P f.t hT1.pairs (by have := hT1.short; omega) hT1.asc
        have HB1 : Hid (Below w.heap.size w w1) := hb.trans (hb1.mono hb.size)
        have H1 : Hid (Tries w1 B pa P la lc L (n + 1) ∧ KBox w1 wr.heap.size f ∧ wr.heap.size < w1.heap.size) := ⟨hT1, hK1, hK1.lt⟩
        obtain ⟨V, hV⟩ : ∃ V, wr.heap.size = V := ⟨_, rfl⟩
        rw [hV] at H1
        have HV : Hid (wr.heap.size = V) := hV
        obtain ⟨k0, k1, k2, k3, k4, k5, k6, k7, k8, k9, k10, k11, k12⟩ := (show KBox w1 V f from H1.out.2.1).cells
        unfold tcs at cD
        clear hw1 hb1 hK1 hT1 hT hb hf hV hg
        subst hla
        go_wp2_with fail
        rw [HW.out, HV.out]
        clear c0 c1 c2 c3 c4 c5 c6 c7 c8 c9 c10 c11 c12 HW
        refine cD.mono ?_
        rintro e w2 ⟨v2, rfl, ho2, hb2⟩
        obtain ⟨M, z, hMz⟩ : ∃ M z, doT P f.t = (M, z) := ⟨_, _, rfl⟩
        have hMl := doT_length P f.t
        have hMa := doT_asc H1.out.1.asc f.t
        rw [hMz] at ho2 hMl hMa ⊢
        dsimp only at ho2 hMl hMa ⊢
        obtain ⟨ya, yc, rfl, hP2⟩ := ho2.at
        have hT2 := H1.out.1.on hb2
        have hK2 : KBox w2 V f := H1.out.2.1.on hb2
        have HB2 : Hid (Below w.heap.size w w2) := HB1.out.trans (hb2.mono HB1.out.size)
        have HM : Hid (doT P f.t = (M, z) ∧ M.length ≤ P.length + 1 ∧ Asc M ∧ PAt w2 ya M w2.heap.size) := ⟨hMz, hMl, hMa, hP2⟩
        have HT2 : Hid (Tries w2 B pa P (some ⟨g, off, none⟩) lc L (n + 1)) := hT2
        clear cD ho2 hb2 hMz hMl hMa hP2 HB1 H1 k0 k1 k2 k3 k4 k5 k6 k7 k8 k9 k10 k11 k12
        have k10 : w2.cell? ⟨V, 10, none⟩ = some (.int .i64 f.t.ans) := hK2.cells.2.2.2.2.2.2.2.2.2.2.1
        by_cases hza : z = f.t.ans
        · have cW := mustWait_any w2 (some ⟨g, off, none⟩) lc k L hT2.calls hlt (by have := hT2.few; have := hT2.len; omega)
          have d1 : decide (z = f.t.ans) = true := decide_eq_true hza
          have HZ : Hid (z = f.t.ans) := hza
          clear hT2 hK2
          subst hza
          cases hwt : L[k].waits (L.eraseIdx k) with
          | true =>
            rw [hwt] at cW
            have HWT : Hid (L[k].waits (L.eraseIdx k) = true) := hwt
            clear hwt
            go_wp2_with fail
            refine cW.mono ?_
            rintro e w3 ⟨rfl, hb3⟩
            clear cW
            go_wp2_with fail
            go_roundw
            case rel =>
              try ((repeat apply Exists.intro); refine ⟨?_, rfl⟩)
              refine ⟨⟨k + 1, by have := HK.out; omega, by go_num, HB2.out.trans (hb3.mono HB2.out.size), fun q hq hqk => ?_⟩⟩
              by_cases e : q = k
              · subst e
                rw [pickOk_eq, HWT.out]; simp
              · exact HN.out q hq (by omega)
            case measure => have := HK.out; simp [intOf]; omega
          | false =>
            rw [hwt] at cW
            have HWT : Hid (L[k].waits (L.eraseIdx k) = false) := hwt
            clear hwt
            go_wp2_with fail
            refine cW.mono ?_
            rintro e w3 ⟨rfl, hb3⟩
            have HB3 : Hid (Below w.heap.size w w3) := HB2.out.trans (hb3.mono HB2.out.size)
            have HT3 : Hid (Tries w3 B pa P (some ⟨g, off, none⟩) lc L (n + 1)) := HT2.out.on hb3
            have HP3 : Hid (PAt w3 ya M w3.heap.size) := HM.out.2.2.2.on hb3
            clear cW hb3 k10 HB2 HT2
            obtain ⟨A2, hA2, hKd⟩ : ∃ A2 : Addr, (if lc = k + 1 then some (⟨g, off, none⟩ : Addr) else some ⟨g, off + (k + 1) * 13, none⟩) = some A2 ∧ Hid (KAt w3 (some A2) (L.drop (k + 1)) w3.heap.size) := by
              by_cases h : lc = k + 1
              · refine ⟨⟨g, off, none⟩, by simp [h], ?_⟩
                have : L.drop (k + 1) = [] := List.drop_eq_nil_of_le (by have := HT3.out.cap; omega)
                show KAt _ _ _ _
                rw [this]
                exact KAt.nil
              · exact ⟨⟨g, off + (k + 1) * 13, none⟩, by simp [h], HT3.out.calls.drop (k + 1)⟩
            have hKt : Hid (KAt w3 (some ⟨g, off, none⟩) (L.take k) w3.heap.size) := HT3.out.calls.take k
            have hlk : (L.take k).length = k := by have := HK.out; simp; omega
            have hld : (L.drop (k + 1)).length = L.length - (k + 1) := by simp
            have HLL : Hid ((L.take k).length = k ∧ (L.drop (k + 1)).length = L.length - (k + 1) ∧ L.take k ++ L.drop (k + 1) = L.eraseIdx k) := ⟨hlk, hld, (List.eraseIdx_eq_take_drop_succ L k).symm⟩
            clear hlk hld
            have hfn : ∀ wi, Below w3.heap.size w3 wi → wi.cell? ⟨B, 0, none⟩ = some (.func (.func 39) #[] #[.pointer (some ⟨B, 0, none⟩)]) := fun wi hi => (hi.cell (p := ⟨B, 0, none⟩) HT3.out.lt).trans HT3.out.fn
            have hlc : (k : Int) ≤ (lc : Int) := by have := HK.out; have := HT3.out.cap; omega
            have hlc' : k ≤ lc := by omega
            have hw1 : IntKind.i64.wrap ((k : Int) + 1) = (k : Int) + 1 := by have := HK.out; have := HT3.out.few; have := HT3.out.len; rw [IntKind.wrap_i64]; omega
            have hk1 : (k : Int) + 1 ≤ (L.length : Int) := by have := HK.out; omega
            have hk0 : (0 : Int) ≤ (k : Int) + 1 := by omega
            have htn : ((k : Int) + 1).toNat = k + 1 := by omega
            have cC : ∀ wi vb, Below w3.heap.size w3 wi → wi.cell? ⟨vb, 0, none⟩ = some (.slice (some ⟨g, off, none⟩) k lc) → wi.cell? ⟨vb, 1, none⟩ = some (.slice (some A2) (L.length - (k + 1)) (lc - (k + 1))) → vb < wi.heap.size →
                Calls Try.prog 42 #[.slice (some ⟨vb, 0, none⟩) 2 2] wi fun e w' => ∃ y cy, e = .returned (.slice y (L.eraseIdx k).length cy) ∧ KAt w' y (L.eraseIdx k) w'.heap.size ∧ (L.eraseIdx k).length ≤ cy ∧ Below w3.heap.size w3 w' := fun wi vb hi h0 h1 hv =>
              (concatK_any wi vb (some ⟨g, off, none⟩) (some A2) lc (lc - (k + 1)) (L.take k) (L.drop (k + 1)) (by rw [HLL.out.1]; exact h0) (by rw [HLL.out.2.1]; exact h1) hv (hKt.out.on hi) (hKd.out.on hi) (by have := HLL.out; have := HT3.out.few; have := HT3.out.len; omega)).mono (by
                rintro e w' ⟨v, rfl, ho, hb⟩
                rw [HLL.out.2.2] at ho
                have hcp := ho.2
                obtain ⟨y, cy, rfl, hKy⟩ := ho.at
                refine ⟨y, cy, rfl, hKy, ?_, hi.trans (hb.mono hi.size)⟩
                rcases hcp with ⟨e, h0⟩ | ⟨g', cp, cur, e, _, _, h1, _⟩
                · simp only [Value.slice.injEq] at e; omega
                · simp only [Value.slice.injEq] at e; omega)
            have cF : ∀ wi y cy, Below w3.heap.size w3 wi → KAt wi y (L.eraseIdx k) wi.heap.size → (L.eraseIdx k).length ≤ cy →
                Calls Try.prog 39 #[.slice ya M.length yc, .slice y (L.eraseIdx k).length cy, .pointer (some ⟨B, 0, none⟩)] wi fun e w' => e = .returned (.bool (fitsL n M (L.eraseIdx k))) ∧ Below wi.heap.size wi w' := fun wi y cy hi hK hc =>
              IH.out wi B ya yc M y cy (L.eraseIdx k) ⟨hfn wi hi, Nat.lt_of_lt_of_le HT3.out.lt hi.size, HP3.out.on hi, HM.out.2.2.1, hK, by rw [List.length_eraseIdx_of_lt (by have := HK.out; omega), HLEN.out]; rfl, hc, by have := HT3.out.few; omega, by have := HT3.out.short; have := HM.out.2.1; omega⟩
            obtain ⟨R, hR⟩ : ∃ R, fitsL n M (L.eraseIdx k) = R := ⟨_, rfl⟩
            have HR : Hid (pickOk n P L[k] (L.eraseIdx k) = R) := by
              show _ = _
              rw [pickOk_eq, HWT.out, HF.out, HM.out.1, hR]
              simp
            have hE : ∃ E, L.eraseIdx k = E := ⟨_, rfl⟩
            rw [hR] at cF
            clear hR
            have hdr := drwO w3
            have hal : Below w3.heap.size w3 ((w3.alloc (.cells #[.slice (some ⟨g, off, none⟩) k lc, .slice (some A2) (L.length - (k + 1)) (lc - (k + 1))] 25)).drew) := ((Below.refl _ w3).alloc (Nat.le_refl _) _).trans ⟨rfl, rfl, rfl, Nat.le_refl _, fun _ _ => rfl⟩
            have cC4 := cC _ w3.heap.size hal (by show World.cell? (w3.alloc _) _ = _; rw [World.cell?_alloc_at (w := w3) _ _ w3.heap.size 0 rfl]; rfl) (by show World.cell? (w3.alloc _) _ = _; rw [World.cell?_alloc_at (w := w3) _ _ w3.heap.size 1 rfl]; rfl) (by show _ < (w3.alloc _).heap.size; simp)
            clear cC
            go_wp2_with fail
            go_region_held3 (fun w' => Below w3.heap.size w3 w' ∧ w'.cell? ⟨B, 0, none⟩ = some (.func (.func 39) #[] #[.pointer (some ⟨B, 0, none⟩)])) (first | with_reducible exact ⟨hdr, hfn _ hdr⟩ | with_reducible exact ⟨hal, hfn _ hal⟩ | with_reducible exact ⟨hC, hfn _ hC⟩) (first | (go_at_call 42; refine Calls.mono cC4 ?_; rintro e wn ⟨y, cy, rfl, hKy, hcy, hC⟩) | (go_at_call 39; refine Calls.mono (cF _ y cy hC hKy hcy) ?_; rintro e wm ⟨rfl, hbm⟩; have hC := hC.trans (hbm.mono hC.size)))
            clear cC4 cF hfn hal hdr hKy hcy
            have HB4 : Hid (Below w.heap.size w wm) := HB3.out.trans (hC.mono HB3.out.size)
            clear hC hbm
            cases R with
            | true =>
              go_wp2_with fail
              go_ret
              refine ⟨?_, HB4.out⟩
              rw [fits_hit (i := k) (by have := HK.out; omega) HR.out]
              rfl
            | false =>
              go_wp2_with fail
              go_roundw
              case rel =>
                try ((repeat apply Exists.intro); refine ⟨?_, rfl⟩)
                refine ⟨⟨k + 1, by have := HK.out; omega, by go_num, HB4.out, fun q hq hqk => ?_⟩⟩
                by_cases e : q = k
                · subst e
                  exact HR.out
                · exact HN.out q hq (by omega)
              case measure => have := HK.out; simp [intOf]; omega
        · have d1 : decide (z = f.t.ans) = false := decide_eq_false hza
          have b1 : (z != f.t.ans) = true := by simp [hza]
          have HZ : Hid (¬ z = f.t.ans) := hza
          clear hT2 hK2
          go_wp2_with fail
          go_roundw
          case rel =>
            try ((repeat apply Exists.intro); refine ⟨?_, rfl⟩)
            refine ⟨⟨k + 1, by have := HK.out; omega, by go_num, HB2.out, fun q hq hqk => ?_⟩⟩
            by_cases e : q = k
            · subst e
              rw [pickOk_eq, HF.out, HM.out.1]; simp [HZ.out]
            · exact HN.out q hq (by omega)
          case measure => have := HK.out; simp [intOf]; omega
      · have hi2 : ¬ (k : Int) < (L.length : Int) := by omega
        go_wp2_with fail
        go_ret
        refine ⟨?_, hb⟩
        rw [fits_miss (fun q hq => HN.out q hq (by omega))]
        rfl

set_option maxRecDepth 100000 in
set_option maxHeartbeats 2000000 in
theorem implOrder_any (w : World) (a : Option Addr) (cap : Nat) (L : List Cl) (hL : KAt w a L w.heap.size) (hc : L.length ≤ cap) (hm : L.length ≤ 1048576) :
    Calls Try.prog 21 #[.slice a L.length cap] w fun e w' => e = .returned (.bool (orderL L)) ∧ Below w.heap.size w w' := by
  by_cases h6 : L.length ≤ 6
  · have hz : ¬ ((6 : Int) < (L.length : Int)) := by omega
    have h0 : (w.alloc (.cells #[.nilFunc] 70)).heap[w.heap.size]? = some (.cells #[.nilFunc] 70 (0, 0)) := heap_alloc_new w _
    have hst : (store ⟨w.heap.size, 0, none⟩ (.func (.func 39) #[] #[.pointer (some ⟨w.heap.size, 0, none⟩)])).run Try.prog (w.alloc (.cells #[.nilFunc] 70)) = .ok () ((w.alloc (.cells #[.nilFunc] 70)).setCell ⟨w.heap.size, 0, none⟩ (.func (.func 39) #[] #[.pointer (some ⟨w.heap.size, 0, none⟩)])) := by
      have hc0 : (w.alloc (.cells #[.nilFunc] 70)).cell? ⟨w.heap.size, 0, none⟩ = some .nilFunc := by rw [World.cell?_alloc_at (w := w) _ _ w.heap.size 0 rfl]; rfl
      have hfz : (w.alloc (.cells #[.nilFunc] 70)).frozen? ⟨w.heap.size, 0, none⟩ = false := World.frozen?_alloc_at (w := w) _ _ w.heap.size 0 rfl
      rw [run_store Try.prog _ _ _ _ rfl, hc0]
      simp [hfz]
    obtain ⟨w1, hw1⟩ : ∃ w1, (w.alloc (.cells #[.nilFunc] 70)).setCell ⟨w.heap.size, 0, none⟩ (.func (.func 39) #[] #[.pointer (some ⟨w.heap.size, 0, none⟩)]) = w1 := ⟨_, rfl⟩
    have hb1 : Below w.heap.size w w1 := by
      rw [← hw1]
      exact below_cell (Nat.le_refl _) _ _ ((Below.refl _ _).alloc (Nat.le_refl _) _)
    have hg1 : w1.heap[w.heap.size]? = some (.cells #[(.func (.func 39) #[] #[.pointer (some ⟨w.heap.size, 0, none⟩)])] 70 (0, 0)) := by
      rw [← hw1, setCell_eq_setRow _ w.heap.size 0 _ _ (0, 0) _ h0, setRow_heap _ w.heap.size _ _ _ _ h0]
      rfl
    have hf1 : w1.cell? ⟨w.heap.size, 0, none⟩ = some (.func (.func 39) #[] #[.pointer (some ⟨w.heap.size, 0, none⟩)]) := by rw [cell_of_row w1 w.heap.size 0 _ _ (0, 0) hg1]; rfl
    rw [hw1] at hst
    have hT : Tries w1 w.heap.size none [] a cap L L.length := ⟨hf1, (Array.getElem?_eq_some_iff.1 hg1).1, fun j hj => by simp at hj, Asc.nil, hL.on hb1, rfl, hc, h6, by simp; omega⟩
    have cF := fits_any L.length w1 w.heap.size none 0 [] a cap L hT
    have HO : Hid (orderL L = fitsL L.length [] L) := by show _ = _; simp [orderL, h6]
    have HB : Hid (Below w.heap.size w w1) := hb1
    clear hw1 hb1 hT hL h0 hg1
    go_enter Try.func21, Try.ntmps21
    go_wp2_with fail
    refine cF.mono ?_
    rintro e w2 ⟨rfl, hb2⟩
    go_wp2_with fail
    go_ret
    exact ⟨by rw [HO.out]; rfl, HB.out.trans (hb2.mono HB.out.size)⟩
  · have hz : (6 : Int) < (L.length : Int) := by omega
    have HO : Hid (orderL L = false) := by show _ = _; simp [orderL, h6]
    go_enter Try.func21, Try.ntmps21
    go_wp2_with fail
    go_ret
    exact ⟨by rw [HO.out]; rfl, Below.refl _ _⟩
end Go.Proofs.Ytogfkbkfcelgcao
