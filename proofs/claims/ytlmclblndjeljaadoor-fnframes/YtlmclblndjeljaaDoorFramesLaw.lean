/- The walk of the law on frames that come back. -/
import Derived.Test.YtlmclblndjeljaaDoorFramesPlain
import Derived.Test.YtlmclblndjeljaaDoorFrameImpl
import Derived.Test.YtlmclblndjeljaaDoorUnframeImpl
import Derived.Test.YtlmclblndjeljaaDoorDrawWords
import Derived.Test.YtlmclblndjeljaaDoorDrawTurn
import Derived.Test.YtlmclblndjeljaaDoorBig
namespace Go.Proofs.YtlmclblndjeljaaDoor
open Go.RowKit Go.Sort

theorem drawn_below {B : Nat} {a w : World} (h : Below B a w) (n : Nat) : Below B a (w.drewN n) := h.trans ⟨rfl, rfl, rfl, Nat.le_refl _, fun _ _ => rfl⟩

/-- The texts l lie at the slice value v. -/
def SAt (w : World) (v : Value) (l : List ByteArray) : Prop := ∃ a cap, v = .slice a l.length cap ∧ ∀ j (hj : j < l.length), ∃ g, a = some ⟨g, 0, none⟩ ∧ w.cell? ⟨g, j, none⟩ = some (.string l[j])
theorem OwnV.sAt {w : World} {b : Nat} {v : Value} {l : List ByteArray} (h : OwnV w b 9 v (strs l)) : SAt w v l := by
  obtain ⟨a, cap, hv, hc⟩ := h.shape
  rw [strs_length] at hv
  refine ⟨a, cap, hv, fun j hj => ?_⟩
  obtain ⟨g, h1, h2, _⟩ := hc j (by rw [strs_length]; exact hj)
  rw [strs_at hj] at h2
  exact ⟨g, h1, h2⟩

/-- Two lists of the same texts are found alike. -/
theorem sameTexts_same (w : World) (va vb : Value) (l : List ByteArray) (ha : SAt w va l) (hb : SAt w vb l) (hl : l.length ≤ 1000000) :
    Calls Tryd.prog 25 #[va, vb] w fun e w' => e = .returned (.bool true) ∧ ∃ n, w' = w.drewN n := by
  obtain ⟨a, cap, rfl, hca⟩ := ha
  obtain ⟨a2, cap2, rfl, hcb⟩ := hb
  go_enter Tryd.func25, Tryd.ntmps25
  go_wp2
  go_loopw [5] (fun i wr => Box (∃ (k nq : Nat), k ≤ l.length ∧ i = .int .i64 k ∧ wr = w.drewN nq))
    (fun i _ => l.length - (intOf i).toNat)
  case atStart => exact ⟨⟨0, 0, by omega, rfl, rfl⟩⟩
  case round =>
    obtain ⟨k, nq, hk, rfl, rfl⟩ := hrel.out
    by_cases hlt : k < l.length
    · obtain ⟨g, rfl, hc1⟩ := hca k hlt
      obtain ⟨g2, rfl, hc2⟩ := hcb k hlt
      obtain ⟨x, hx⟩ : ∃ x, l[k] = x := ⟨_, rfl⟩
      rw [hx] at hc1 hc2
      clear hca hcb hx
      have hi1 : (0 : Int) ≤ (k : Int) := by omega
      have hi2 : (k : Int) < (l.length : Int) := by omega
      go_wp2
      go_quiet (fail)
      go_wp2
      go_roundw
      case rel =>
        try ((repeat apply Exists.intro); refine ⟨?_, rfl⟩)
        exact ⟨⟨k + 1, _, by omega, by go_num, rfl⟩⟩
      case measure => simp [intOf]; omega
    · go_wp2
      go_ret
      exact ⟨rfl, _, rfl⟩

/-- The places behind the first frames, n of them. -/
def endsL (L : List ByteArray) (n : Nat) : List Int := (List.range n).map fun j => (en L j : Int)
theorem endsL_succ (L : List ByteArray) (n : Nat) : endsL L (n + 1) = endsL L n ++ [(en L n : Int)] := by simp [endsL, List.range_succ]
theorem endsL_length (L : List ByteArray) (n : Nat) : (endsL L n).length = n := by simp [endsL]
theorem small3 {x y z : ByteArray} (hx : x.size ≤ 900) (hy : y.size ≤ 900) (hz : z.size ≤ 900) (k : Nat) : (cat ([x, y, z].take k)).length ≤ 3000 := by
  have h1 := varF_length 8 x.size
  have h2 := varF_length 8 y.size
  have h3 := varF_length 8 z.size
  have l1 := frB_length x
  have l2 := frB_length y
  have l3 := frB_length z
  match k with
  | 0 => simp [cat]
  | 1 => simp [cat]; omega
  | 2 => simp [cat]; omega
  | k + 3 => simp [cat]; omega

def tTwo : ByteArray := ⟨#[116, 119, 111]⟩
def tThree : ByteArray := ⟨#[116, 104, 114, 101, 101, 32, 97, 110, 100, 32, 109, 111, 114, 101]⟩
def tOne : ByteArray := ⟨#[111, 110, 101]⟩
theorem setCell_blk (w : World) (b i : Nat) (cs : Array Value) (e : TypeId) (fr : Nat × Nat) (v : Value) (h : w.heap[b]? = some (.cells cs e fr)) : (w.setCell ⟨b, i, none⟩ v).heap[b]? = some (.cells (cs.setIfInBounds i v) e fr) := by
  simp [World.setCell, Array.getElem?_modify, h]

set_option maxHeartbeats 4000000 in
set_option maxRecDepth 100000 in
theorem frames_walk (ca : Option Addr) (n cap : Nat) (w : World) (hcode : CodeAt w ca n w.heap.size) (hlen : n ≤ maxLen) (ht : Tab w) :
    Calls Tryd.prog 5 #[.slice ca n cap] w fun e w' => e = .returned (.bool true) ∧ Below w.heap.size w w' := by
  unfold maxLen at hlen
  by_cases hn : n ≤ 1048576
  · have C1 : Hid (∀ w', Below w.heap.size w w' → CodeAt w' ca n w'.heap.size) := by
      intro w' hb j hj
      obtain ⟨b, off, z, h1, h2, h3, h4⟩ := hcode j hj
      exact ⟨b, off, z, h1, Nat.lt_of_lt_of_le h2 hb.size, (hb.cell (p := ⟨b, off + j, none⟩) h2).trans h3, h4⟩
    have HT : Hid (∀ w', Below w.heap.size w w' → Tab w') := fun w' hb => ht.below hb (Nat.le_refl _)
    have c1 := drawPlaces_any w ca n cap hcode hn
    clear hcode ht
    go_enter Tryd.func5, Tryd.ntmps5
    have cb := big_any ca n cap w hlen
    rw [show decide (1048576 < n) = false by simp; omega] at cb
    go_wp2_with fail
    refine cb.mono ?_
    rintro e w' ⟨rfl, rfl⟩
    go_wp2_with fail
    refine c1.mono ?_
    rintro e w1 ⟨pv, pl, rfl, hpl, hplz, hpo, hb1⟩
    clear c1 cb
    have c2 := drawHex_any w1 ca n cap (C1.out w1 hb1) hn
    go_wp2_with fail
    refine c2.mono ?_
    rintro e w2 ⟨s, hs, rfl, hb2⟩
    have hB2 : Below w.heap.size w w2 := hb1.trans (hb2.mono hb1.size)
    obtain ⟨pa, pc, rfl, hcells⟩ := hpo.shape
    obtain ⟨g, rfl, hz0, _, _, hg⟩ := hcells 0 (by rw [ints_length]; omega)
    rw [ints_at (by omega)] at hz0
    have hxb0 := hplz pl[0] (List.getElem_mem _)
    obtain ⟨x0, hx0⟩ : ∃ x, pl[0] = x := ⟨_, rfl⟩
    rw [hx0] at hz0 hxb0
    rw [ints_length, hpl]
    have hz2 : w2.cell? ⟨g, 0, none⟩ = some (.int .i64 x0) := (hb2.cell (p := ⟨g, 0, none⟩) hg).trans hz0
    have hg2 : g < w2.heap.size := Nat.lt_of_lt_of_le hg hb2.size
    clear hcells hpo hplz hx0 hpl C1 hb1 hb2 c2 hz0 hg
    have hd : (((s.size : Int) == 0) = true) ∨ (((s.size : Int) == 0) = false ∧ decide (900 < (s.size : Int)) = true) ∨ (((s.size : Int) == 0) = false ∧ decide (900 < (s.size : Int)) = false ∧ Framed s ∧ s.size ≤ 900) := by
      unfold Framed
      by_cases h0 : s.size = 0
      · exact .inl (by simp [h0])
      · by_cases h9 : 900 < s.size
        · exact .inr (.inl ⟨beq_eq_false_iff_ne.2 (by omega), by simp; omega⟩)
        · exact .inr (.inr ⟨beq_eq_false_iff_ne.2 (by omega), by simp; omega, by omega, by omega⟩)
    rcases hd with h0' | ⟨h0', hd9⟩ | ⟨h0', hd9, hfx, hx9⟩
    case' inl =>
      go_wp2_with fail
      clear h0'
      have hfx : Framed tOne := ⟨by decide, by decide⟩
      have hx9 : tOne.size ≤ 900 := by decide
      rw [show (⟨#[111, 110, 101]⟩ : ByteArray) = tOne from rfl]
      generalize tOne = x at hfx hx9 ⊢
      clear hs
    case' inr.inl =>
      go_wp2_with fail
      clear h0' hd9
      have hfx : Framed tOne := ⟨by decide, by decide⟩
      have hx9 : tOne.size ≤ 900 := by decide
      rw [show (⟨#[111, 110, 101]⟩ : ByteArray) = tOne from rfl]
      generalize tOne = x at hfx hx9 ⊢
      clear hs
    case' inr.inr =>
      go_wp2_with fail
      clear h0' hd9 hs
      obtain ⟨x, rfl⟩ : ∃ x, x = s := ⟨s, rfl⟩
    all_goals rw [show (⟨#[116, 119, 111]⟩ : ByteArray) = tTwo from rfl, show (⟨#[116, 104, 114, 101, 101, 32, 97, 110, 100, 32, 109, 111, 114, 101]⟩ : ByteArray) = tThree from rfl]
    all_goals have hfy : Framed tTwo := ⟨by decide, by decide⟩
    all_goals have hfz : Framed tThree := ⟨by decide, by decide⟩
    all_goals have hy9 : tTwo.size ≤ 900 := by decide
    all_goals have hz9 : tThree.size ≤ 900 := by decide
    all_goals generalize tTwo = y at hfy hy9 ⊢
    all_goals generalize tThree = z at hfz hz9 ⊢
    all_goals
      have hsm : Hid (∀ k, (cat ([x, y, z].take k)).length ≤ 3000) := small3 hx9 hy9 hz9
      have hfr : Hid (∀ k (h : k < [x, y, z].length), Framed ([x, y, z][k])) := by
        intro k h
        match k, h with
        | 0, _ => exact hfx
        | 1, _ => exact hfy
        | 2, _ => exact hfz
      have HW : Hid (ufL (catB [x, y, z]) = [x, y, z] ∧ ufE (catB [x, y, z]) = (catB [x, y, z]).size) := whole3 hfx hfy hfz (by have := hsm.out 3; rw [catB_size]; simpa using Nat.le_trans this (by omega))
      have HK : Hid (∀ k, k ≤ (catB [x, y, z]).size → ∃ m, m ≤ 3 ∧ ufL ((catB [x, y, z]).extract 0 k) = [x, y, z].take m ∧ ufE ((catB [x, y, z]).extract 0 k) = en [x, y, z] m ∧ en [x, y, z] m ≤ k ∧ (m = 3 ∨ k < en [x, y, z] (m + 1)) ∧ (k = (catB [x, y, z]).size → m = 3)) :=
        fun k hk => cut3 hfx hfy hfz hk (by have := hsm.out 3; rw [catB_size]; simpa using Nat.le_trans this (by omega))
      have hcl : ∀ k (h : k < [x, y, z].length), ((w2.alloc (.cells #[.string x, .string y, .string z] 9)).alloc (.cells #[.int .i64 0] 3)).cell? ⟨w2.heap.size, k, none⟩ = some (.string ([x, y, z][k])) := by
        intro k h
        match k, h with
        | 0, _ => simp
        | 1, _ => simp
        | 2, _ => simp
      have hso : OwnV ((w2.alloc (.cells #[.string x, .string y, .string z] 9)).alloc (.cells #[.int .i64 0] 3)) (w2.heap.size + 1) 3 (.slice (some ⟨w2.heap.size + 1, 0, none⟩) 1 1) (ints (endsL [x, y, z] 1)) := by
        have e1 : ints (endsL [x, y, z] 1) = [.int .i64 0] := by simp [ints, endsL, en, cat]
        rw [e1]
        exact ⟨by simp, .inr ⟨w2.heap.size + 1, 1, #[.int .i64 0], rfl, Nat.le_refl _, by have := World.alloc_heap_new (w2.alloc (.cells #[.string x, .string y, .string z] 9)) (.cells #[.int .i64 0] 3); rw [World.size_alloc] at this; exact this, by simp, by simp [maxLen], by simp, by simp⟩⟩
      have hbW : Below w2.heap.size w2 ((w2.alloc (.cells #[.string x, .string y, .string z] 9)).alloc (.cells #[.int .i64 0] 3)) := ((Below.refl _ w2).alloc (Nat.le_refl _) _).alloc (by simp) _
      have hsW : ((w2.alloc (.cells #[.string x, .string y, .string z] 9)).alloc (.cells #[.int .i64 0] 3)).heap.size = w2.heap.size + 2 := by simp
      have hll : [x, y, z].length = 3 := rfl
      clear hfx hfy hfz hx9 hy9 hz9
      generalize (w2.alloc (.cells #[.string x, .string y, .string z] 9)).alloc (.cells #[.int .i64 0] 3) = W0 at hcl hso hbW hsW ⊢
      have HC : Hid (∀ wr, Below (w2.heap.size + 1) W0 wr → ∀ k (h : k < [x, y, z].length), wr.cell? ⟨w2.heap.size, k, none⟩ = some (.string ([x, y, z][k]))) := fun wr hb k h => (hb.cell (p := ⟨w2.heap.size, k, none⟩) (by simp)).trans (hcl k h)
      have HG : Hid (∀ wr, Below (w2.heap.size + 1) W0 wr → wr.cell? ⟨g, 0, none⟩ = some (.int .i64 x0)) := fun wr hb => (hb.cell (p := ⟨g, 0, none⟩) (by simp; omega)).trans ((hbW.cell (p := ⟨g, 0, none⟩) hg2).trans hz2)
      have HB : Hid (∀ wr, Below (w2.heap.size + 1) W0 wr → Below w.heap.size w wr) := fun wr hb => (hB2.trans (hbW.mono hB2.size)).trans (hb.mono (by have := hB2.size; omega))
      clear hcl hbW hz2 hB2
      generalize hL : [x, y, z] = L at hsm hfr HW HK hso hll HC ⊢
      clear hL
      go_loopw [5, 6, 7] (fun f v i wr => Box (∃ (k : Nat) (F : ByteArray), k ≤ 3 ∧ i = .int .i64 k ∧ f = .string F ∧ Hid (F = catB (L.take k)) ∧ F.size ≤ 3000 ∧ OwnV wr (w2.heap.size + 1) 3 v (ints (endsL L (k + 1))) ∧ Below (w2.heap.size + 1) W0 wr))
        (fun _ _ i _ => 3 - (intOf i).toNat)
      case atStart => exact ⟨⟨0, _, by omega, rfl, rfl, rfl, by decide, hso, Below.refl _ _⟩⟩
      case round =>
        obtain ⟨k, F, hk, rfl, rfl, HF, hF, hown, hbel⟩ := hrel.out
        clear hrel
        have hsz := hbel.size
        by_cases hlt : k < 3
        · have hc := HC.out wr hbel k (by omega)
          have hft := hfr.out k (by omega)
          have HTK : Hid (L.take (k + 1) = L.take k ++ [L[k]]) := List.take_succ_eq_append_getElem (by omega)
          have hsm1 : (cat (L.take (k + 1))).length ≤ 3000 := hsm.out (k + 1)
          obtain ⟨t, htt⟩ : ∃ t, L[k] = t := ⟨_, rfl⟩
          rw [htt] at hc hft
          rw [htt] at HTK
          clear htt
          have c1 := implFrame_in t wr hft.1 hft.2 (HT.out wr (HB.out wr hbel))
          have HF2 : Hid (F ++ frAll t = catB (L.take (k + 1))) := by show _ = _; rw [HF.out, HTK.out, catB_snoc]
          have hF2 : F.size + (frAll t).size ≤ 3000 ∧ ((F.size : Int) + ((frAll t).size : Int) = (en L (k + 1) : Int)) := by
            have := congrArg ByteArray.size HF2.out
            rw [ByteArray.size_append, catB_size] at this
            unfold en
            omega
          generalize frAll t = fr at c1 HF2 hF2
          have hel : (ints (endsL L (k + 1))).length ≤ 4 := by rw [ints_length, endsL_length]; omega
          go_wp2_with fail
          refine c1.mono ?_
          rintro e w3 ⟨rfl, hb3⟩
          have hown3 := hown.below hb3 (Nat.le_refl _)
          have hbel3 : Below (w2.heap.size + 1) W0 w3 := hbel.trans (hb3.mono (by omega))
          have hsz3 := hbel3.size
          clear hown hbel hb3 c1 hsm1
          go_wp2_with (at_builtin; refine wpList_snocV rfl (.tmp 57) (.tmp 60) 36 rfl (w2.heap.size + 1) 3 Tryd.underlying36 (.int .i64 0) 8 Tryd.info3 rfl _ (ints (endsL L (k + 1))) rfl hown3 _ rfl rfl (by omega) (by omega) (by omega) ?_; intro v' w4 hown' hne' hbel' hsz')
          go_roundw
          case rel =>
            try ((repeat apply Exists.intro); refine ⟨?_, rfl⟩)
            refine ⟨⟨k + 1, F ++ fr, by omega, by go_num, rfl, HF2, by simp; omega, ?_, hbel' _ hbel3⟩⟩
            rw [endsL_succ]
            simpa [ints] using hown'
          case measure => simp [intOf]; omega
        · obtain rfl : k = 3 := by omega
          have HF3 : Hid (F = catB L) := by
            show _ = _
            rw [HF.out, List.take_of_length_le (by omega)]
          have HWF : Hid (ufL F = L ∧ ufE F = F.size) := by
            have h := HW.out
            rw [← HF3.out] at h
            exact h
          have HKF : Hid (∀ k, k ≤ F.size → ∃ m, m ≤ 3 ∧ ufL (F.extract 0 k) = L.take m ∧ ufE (F.extract 0 k) = en L m ∧ en L m ≤ k ∧ (m = 3 ∨ k < en L (m + 1))) := by
            intro k hk
            rw [HF3.out] at hk ⊢
            obtain ⟨m, h1, h2, h3, h4, h5, _⟩ := HK.out k hk
            exact ⟨m, h1, h2, h3, h4, h5⟩
          clear HF HF3 HW HK hfr hsm hso
          have c1 := implUnframe_any F wr (by omega) (HT.out wr (HB.out wr hbel))
          rw [HWF.out.1, HWF.out.2] at c1
          clear HWF
          go_wp2_with fail
          refine c1.mono ?_
          rintro e w5 ⟨v5, rfl, hv5, hb5⟩
          have hbel5 : Below (w2.heap.size + 1) W0 w5 := hbel.trans (hb5.mono (by omega))
          have hown5 := hown.below hb5 (Nat.le_refl _)
          clear hown hbel hb5 c1
          have c2 := sameTexts_same w5 v5 (.slice (some ⟨w2.heap.size, 0, none⟩) 3 3) L hv5.sAt ⟨_, 3, by rw [hll], fun j hj => ⟨_, rfl, HC.out w5 hbel5 j hj⟩⟩ (by omega)
          go_wp2_with fail
          refine c2.mono ?_
          rintro e w6 ⟨rfl, n6, rfl⟩
          have hbel6 : Below (w2.heap.size + 1) W0 (w5.drewN n6) := drawn_below hbel5 n6
          have hown6 : OwnV (w5.drewN n6) (w2.heap.size + 1) 3 u6 (ints (endsL L 4)) := hown5
          have hz6 := HG.out _ hbel6
          clear hown5 hbel5 c2 hv5
          generalize w5.drewN n6 = w6 at hbel6 hown6 hz6 ⊢
          obtain ⟨kk, hkk, hkx1, hkx2⟩ : ∃ i : Nat, i ≤ F.size ∧ x0 % ((F.size : Int) + 1) = (i : Int) ∧ x0.tmod ((F.size : Int) + 1) = (i : Int) := by
            have h1 := Int.emod_nonneg x0 (b := (F.size : Int) + 1) (by omega)
            have h2 := Int.emod_lt_of_pos x0 (b := (F.size : Int) + 1) (by omega)
            exact ⟨(x0 % ((F.size : Int) + 1)).toNat, by omega, by omega, by rw [Int.tmod_eq_emod_of_nonneg (by omega)]; omega⟩
          have hsl : ∀ w, (Instr.slice 9 (.string F) none (some (.int .i64 (kk : Int))) none).run Tryd.prog w = .ok (.string (F.extract 0 kk)) w := fun w => by
            rw [run_slice_string_h w 9 F Tryd.underlying9 .i64 _ (by omega) (by omega)]
            simp
          have hes : (F.extract 0 kk).size ≤ 1048576 := by simp; omega
          obtain ⟨m, hm3, hm1, hm2, hmk, hmo⟩ := HKF.out kk hkk
          have c3 := implUnframe_any (F.extract 0 kk) w6 hes (HT.out w6 (HB.out w6 hbel6))
          rw [hm1, hm2] at c3
          clear HKF hm1 hm2 hes
          have hw6 := hbel6.size
          have HTL : Hid ((L.take m).length = m) := by show _ = _; rw [List.length_take]; omega
          go_wp2_with fail
          refine c3.mono ?_
          rintro e w7 ⟨v7, rfl, hv7, hb7⟩
          have hbel7 : Below (w2.heap.size + 1) W0 w7 := hbel6.trans (hb7.mono (by omega))
          have hown7 := hown6.below hb7 (Nat.le_refl _)
          clear hown6 hbel6 hb7 c3 hz6 hsl
          obtain ⟨a7, cap7, rfl, hs7⟩ := hv7.sAt
          have c4 := sameTexts_same w7 (.slice a7 (L.take m).length cap7) (.slice (some ⟨w2.heap.size, 0, none⟩) m 3) (L.take m) ⟨_, _, rfl, hs7⟩ ⟨_, 3, by rw [HTL.out], fun j hj => ⟨_, rfl, by
            have h1 : j < L.length := by have := HTL.out; omega
            rw [HC.out w7 hbel7 j h1]
            simp⟩⟩ (by have := HTL.out; omega)
          rw [HTL.out] at c4 ⊢
          clear hs7 hv7 HTL
          obtain ⟨ae, cape, rfl, hce⟩ := hown7.shape
          rw [ints_length, endsL_length]
          have hea : ∀ j (h : j < 4), (ints (endsL L 4))[j]'(by rw [ints_length, endsL_length]; exact h) = .int .i64 (en L j : Int) := by
            intro j h
            rw [ints_at (by rw [endsL_length]; exact h)]
            simp [endsL]
          obtain ⟨ge, rfl, hem, _, _, _⟩ := hce m (by rw [ints_length, endsL_length]; omega)
          rw [hea m (by omega)] at hem
          have hB7 := HB.out w7 hbel7
          have hi1 : (0 : Int) ≤ (m : Int) := by omega
          have hi2 : (m : Int) < 4 := by omega
          have hi3 : (m : Int) ≤ 3 := by omega
          by_cases hm : m = 3
          · subst hm
            clear hmo hce hea hown7 hbel7
            generalize en L 3 = ea at hem hmk ⊢
            go_wp2_with (go_at_call 25; refine c4.mono ?_; rintro e w8 ⟨rfl, n8, rfl⟩)
            go_ret
            exact ⟨rfl, drawn_below hB7 n8⟩
          · obtain ⟨ge', hgg, hem1, _, _, _⟩ := hce (m + 1) (by rw [ints_length, endsL_length]; omega)
            rw [hea (m + 1) (by omega)] at hem1
            simp at hgg
            subst hgg
            have hkb : kk < en L (m + 1) := by omega
            have hi4 : ((m : Int) == 3) = false := beq_eq_false_iff_ne.2 (by omega)
            clear hmo hce hea hown7 hbel7
            generalize en L m = ea at hem hmk ⊢
            generalize en L (m + 1) = eb at hem1 hkb
            go_wp2_with (go_at_call 25; refine c4.mono ?_; rintro e w8 ⟨rfl, n8, rfl⟩; replace hem1 : (w7.drewN n8).cell? ⟨ge, m + 1, none⟩ = some (.int .i64 (eb : Int)) := hem1)
            go_ret
            exact ⟨rfl, drawn_below hB7 n8⟩
  · have cb := big_any ca n cap w hlen
    rw [show decide (1048576 < n) = true by simp; omega] at cb
    go_enter Tryd.func5, Tryd.ntmps5
    go_wp2_with fail
    refine cb.mono ?_
    rintro e w' ⟨rfl, rfl⟩
    go_wp2
    go_ret
    exact ⟨rfl, Below.refl _ _⟩
end Go.Proofs.YtlmclblndjeljaaDoor
