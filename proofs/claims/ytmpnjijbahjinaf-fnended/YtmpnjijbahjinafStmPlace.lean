/- The program's readerPlace: where a reader is, or would be, among readers that ascend. -/
import Derived.Test.YtmpnjijbahjinafStmBase
import Derived.Test.YtmpnjijbahjinafStmAt
import Derived.Test.YtmpnjijbahjinafShelf
import Derived.Shelf.Abstract
namespace Go.Proofs.Ytmpnjijbahjinaf
open Go.RowKit Go.Sort

/-- The readers ascend. -/
def AscR (l : List (Int × Int)) : Prop := ∀ i j (hi : i < l.length) (hj : j < l.length), i < j → l[i].1 < l[j].1
theorem rdOkTo_at {t : Nat} {l : List (Int × Int)} {k : Nat} (h : rdOkTo t l k = true) {i : Nat} (hi : i < k) : (inI (l.getD i (0, 0)).1 1 9 && !(decide (0 < i) && decide ((l.getD i (0, 0)).1 ≤ (l.getD (i - 1) (0, 0)).1)) && inI (l.getD i (0, 0)).2 0 t) = true := by
  unfold rdOkTo at h
  rw [List.all_eq_true] at h
  exact h i (List.mem_range.2 hi)
theorem rdOkTo_asc {t : Nat} {l : List (Int × Int)} (h : rdOkTo t l l.length = true) : AscR l := by
  have step : ∀ i (hi : i + 1 < l.length), l[i].1 < l[i + 1].1 := fun i hi => by
    have := rdOkTo_at h hi
    rw [Bool.and_eq_true, Bool.and_eq_true] at this
    have h2 := this.1.2
    simp only [List.getD, List.getElem?_eq_getElem hi, Option.getD_some, Nat.add_sub_cancel, List.getElem?_eq_getElem (show i < l.length by omega), Bool.not_eq_true', Bool.and_eq_false_iff, decide_eq_false_iff_not] at h2
    rcases h2 with h2 | h2
    · omega
    · omega
  intro i j hi hj hij
  obtain ⟨d, rfl⟩ : ∃ d, j = i + 1 + d := ⟨j - (i + 1), by omega⟩
  clear hij
  induction d with
  | zero => exact step i hj
  | succ d ih => exact Int.lt_trans (ih (by omega)) (step (i + 1 + d) hj)
/-- What readerPlace tells: k are ahead of id; b: it is there. -/
structure PlaceR (rd : List (Int × Int)) (id : Int) (k : Nat) (b : Bool) : Prop where
  le : k ≤ rd.length
  lo : ∀ j (hj : j < rd.length), j < k → rd[j].1 < id
  hi : ∀ j (hj : j < rd.length), k ≤ j → id ≤ rd[j].1
  there : b = true ↔ ∃ h : k < rd.length, rd[k].1 = id
theorem place1_eg : ∀ args w, (callFunc 63 args).run Try.prog w = .ok (.enter 63 args) w := enters_of Try.func63 (by kernel_rfl) rfl
set_option maxHeartbeats 2000000 in
theorem place1_any (r : Int × Int) (id : Int) (w : World) :
    Calls Try.prog 63 #[.agg #[.int .i64 r.1, .int .i64 r.2], .int .i64 id] w fun e w' => e = .returned (.int .i64 (Go.Lib.compareInt r.1 id)) ∧ Below w.heap.size w w' := by
  have hb1 : Below w.heap.size w (w.alloc (.cells #[.int .i64 r.1, .int .i64 r.2] 38)) := (Below.refl _ _).alloc (Nat.le_refl _) _
  have c1 := Try.cmp_Compare_int r.1 id (w.alloc (.cells #[.int .i64 r.1, .int .i64 r.2] 38))
  go_enter Try.func63, Try.ntmps63
  go_wp2_with fail
  refine c1.mono ?_
  rintro e w2 ⟨rfl, rfl⟩
  go_wp2_with fail
  go_ret
  exact ⟨rfl, hb1⟩
set_option maxRecDepth 100000 in
set_option maxHeartbeats 4000000 in
theorem searchR_any (w : World) (a : Option Addr) (c : Nat) (rd : List (Int × Int)) (id : Int) (hE : PAt w a rd w.heap.size) (hm : rd.length ≤ 1048577) (hA : AscR rd) :
    Calls Try.prog 62 #[.slice a rd.length c, .int .i64 id, .func (.func 63) #[] #[]] w fun e w' => ∃ (k : Nat) (b : Bool), e = .returned (.tuple #[.int .i64 (k : Int), .bool b]) ∧ k ≤ rd.length ∧ (∀ j (hj : j < rd.length), j < k → rd[j].1 < id) ∧ (∀ j (hj : j < rd.length), k ≤ j → id ≤ rd[j].1) ∧ (b = true ↔ ∃ h : k < rd.length, rd[k].1 = id) ∧ Below w.heap.size w w' := by
  have eg := place1_eg
  obtain ⟨G, hG⟩ : ∃ G : Ending → World → Prop, G = fun e w' => ∃ (k : Nat) (b : Bool), e = .returned (.tuple #[.int .i64 (k : Int), .bool b]) ∧ k ≤ rd.length ∧ (∀ j (hj : j < rd.length), j < k → rd[j].1 < id) ∧ (∀ j (hj : j < rd.length), k ≤ j → id ≤ rd[j].1) ∧ (b = true ↔ ∃ h : k < rd.length, rd[k].1 = id) ∧ Below w.heap.size w w' := ⟨_, rfl⟩
  rw [← hG]
  have HG : Hid (∀ (k : Nat) (b : Bool) w', k ≤ rd.length → (∀ j (hj : j < rd.length), j < k → rd[j].1 < id) → (∀ j (hj : j < rd.length), k ≤ j → id ≤ rd[j].1) → (b = true ↔ ∃ h : k < rd.length, rd[k].1 = id) → Below w.heap.size w w' → G (.returned (.tuple #[.int .i64 (k : Int), .bool b])) w') := by rw [hG]; exact fun k b w' h1 h2 h3 h4 h5 => ⟨k, b, rfl, h1, h2, h3, h4, h5⟩
  have HA : Hid (AscR rd) := hA
  clear hG hA
  go_enter Try.func62, Try.ntmps62
  go_wp2_with fail
  go_loopw [9, 10] (fun i j wr => Box (∃ (lo hi : Nat), lo ≤ hi ∧ hi ≤ rd.length ∧ i = .int .i64 lo ∧ j = .int .i64 hi ∧ Hid (∀ j (hj : j < rd.length), j < lo → rd[j].1 < id) ∧ Hid (∀ j (hj : j < rd.length), hi ≤ j → id ≤ rd[j].1) ∧ Below w.heap.size w wr))
    (fun i j _ => (intOf j).toNat - (intOf i).toNat)
  case atStart => exact ⟨⟨0, rd.length, Nat.zero_le _, Nat.le_refl _, rfl, rfl, fun j _ hj => absurd hj (Nat.not_lt_zero _), fun j hj h => absurd hj (by omega), Below.refl _ _⟩⟩
  case round =>
    obtain ⟨lo, hi, hlh, hin, rfl, rfl, HL, HH, hbr⟩ := hrel.out
    clear hrel
    by_cases hlt : lo < hi
    · have hmid : (lo + hi) / 2 < rd.length := by omega
      obtain ⟨gg, offg, rfl, _, q0, q1⟩ := (hE.below hbr (Nat.le_refl _)) ((lo + hi) / 2) hmid
      obtain ⟨f, hf⟩ : ∃ f, rd[(lo + hi) / 2] = f := ⟨_, rfl⟩
      have HF : Hid (rd[(lo + hi) / 2] = f) := hf
      rw [hf] at q0 q1
      have hc := place1_any f id wr
      have HB : Hid (Below w.heap.size w wr) := hbr
      have HLT : Hid (lo < hi ∧ hi ≤ rd.length) := ⟨hlt, hin⟩
      clear hf hbr hE
      by_cases hx : f.1 < id
      · have hcx : Go.Lib.compareInt f.1 id = -1 := by unfold Go.Lib.compareInt; simp [hx]
        rw [hcx] at hc
        go_wp2_with (go_at_fn 63; refine hc.mono ?_; rintro e w' ⟨rfl, hb'⟩)
        go_roundw
        case rel =>
          try ((repeat apply Exists.intro); refine ⟨?_, rfl⟩)
          refine ⟨⟨(lo + hi) / 2 + 1, hi, by have := HLT.out; omega, HLT.out.2, by go_num, rfl, ?_, HH, HB.out.trans (hb'.mono HB.out.size)⟩⟩
          intro j hj hjk
          by_cases e : j = (lo + hi) / 2
          · subst e; rw [HF.out]; exact hx
          · have := HA.out j ((lo + hi) / 2) hj hmid (by omega)
            rw [HF.out] at this
            omega
        case measure => have := HLT.out; simp [intOf]; omega
      · have hcx : ¬ Go.Lib.compareInt f.1 id < 0 := by unfold Go.Lib.compareInt; simp [hx]; split <;> omega
        obtain ⟨q, hq⟩ : ∃ q, Go.Lib.compareInt f.1 id = q := ⟨_, rfl⟩
        rw [hq] at hc hcx
        clear hq
        go_wp2_with (go_at_fn 63; refine hc.mono ?_; rintro e w' ⟨rfl, hb'⟩)
        go_roundw
        case rel =>
          try ((repeat apply Exists.intro); refine ⟨?_, rfl⟩)
          refine ⟨⟨lo, (lo + hi) / 2, by have := HLT.out; omega, by omega, rfl, by go_num, HL, ?_, HB.out.trans (hb'.mono HB.out.size)⟩⟩
          intro j hj hjk
          by_cases e : j = (lo + hi) / 2
          · subst e; rw [HF.out]; omega
          · have := HA.out ((lo + hi) / 2) j hmid hj (by omega)
            rw [HF.out] at this
            omega
        case measure => have := HLT.out; simp [intOf]; omega
    · obtain rfl : hi = lo := by omega
      have HB : Hid (Below w.heap.size w wr) := hbr
      by_cases hk : hi < rd.length
      · obtain ⟨gg, offg, rfl, _, q0, q1⟩ := (hE.below hbr (Nat.le_refl _)) hi hk
        obtain ⟨f, hf⟩ : ∃ f, rd[hi] = f := ⟨_, rfl⟩
        have HF : Hid (∃ h : hi < rd.length, rd[hi] = f) := ⟨hk, hf⟩
        rw [hf] at q0 q1
        have hc := place1_any f id wr
        have hi1 : (0 : Int) ≤ (hi : Int) := by omega
        have hi2 : (hi : Int) < (rd.length : Int) := by omega
        have HI : Hid (hi ≤ rd.length) := hin
        clear hf hbr hE hk hlt hin hlh
        by_cases hx : f.1 = id
        · have hcx : Go.Lib.compareInt f.1 id = 0 := by unfold Go.Lib.compareInt; simp [hx]
          rw [hcx] at hc
          have HX : Hid (f.1 = id) := hx
          clear hx hcx
          go_wp2_with (go_at_fn 63; refine hc.mono ?_; rintro e w' ⟨rfl, hb'⟩)
          exact HG.out hi true w' HI.out HL.out HH.out ⟨fun _ => ⟨HF.out.1, by rw [HF.out.2]; exact HX.out⟩, fun _ => rfl⟩ (HB.out.trans (hb'.mono HB.out.size))
        · have hcx : (Go.Lib.compareInt f.1 id == 0) = false := by
            unfold Go.Lib.compareInt
            by_cases h1 : f.1 < id
            · simp [h1]
            · simp [h1]; omega
          obtain ⟨q, hq⟩ : ∃ q, Go.Lib.compareInt f.1 id = q := ⟨_, rfl⟩
          rw [hq] at hc hcx
          clear hq
          go_wp2_with (go_at_fn 63; refine hc.mono ?_; rintro e w' ⟨rfl, hb'⟩)
          exact HG.out hi false w' HI.out HL.out HH.out ⟨fun h => (by cases h), fun ⟨h, e⟩ => absurd (by rw [HF.out.2] at e; exact e) hx⟩ (HB.out.trans (hb'.mono HB.out.size))
      · have hi2 : ¬ (hi : Int) < (rd.length : Int) := by omega
        have HI : Hid (hi ≤ rd.length) := hin
        have HN : Hid (¬ hi < rd.length) := hk
        clear hbr hE hk hlt hin hlh
        go_wp2_with fail
        exact HG.out hi false wr HI.out HL.out HH.out ⟨fun h => (by cases h), fun ⟨h, _⟩ => absurd h HN.out⟩ HB.out
set_option maxRecDepth 100000 in
set_option maxHeartbeats 4000000 in
theorem readerPlace_any (w : World) (a : Option Addr) (c : Nat) (S : Stm) (id : Int) (hE : PAt w a S.rd w.heap.size) (hm : S.rd.length ≤ 1048577) (hA : AscR S.rd) :
    Calls Try.prog 36 #[.agg #[.int .i64 S.st, .string S.text, .slice a S.rd.length c], .int .i64 id] w fun e w' => ∃ (k : Nat) (b : Bool), e = .returned (.tuple #[.int .i64 (k : Int), .bool b]) ∧ PlaceR S.rd id k b ∧ Below w.heap.size w w' := by
  obtain ⟨st, t, rd⟩ := S
  dsimp only at hE hm hA ⊢
  obtain ⟨G, hG⟩ : ∃ G : Ending → World → Prop, G = fun e w' => ∃ (k : Nat) (b : Bool), e = .returned (.tuple #[.int .i64 (k : Int), .bool b]) ∧ PlaceR rd id k b ∧ Below w.heap.size w w' := ⟨_, rfl⟩
  rw [← hG]
  have HG : Hid (∀ (k : Nat) (b : Bool) w', PlaceR rd id k b → Below w.heap.size w w' → G (.returned (.tuple #[.int .i64 (k : Int), .bool b])) w') := by rw [hG]; exact fun k b w' h1 h2 => ⟨k, b, rfl, h1, h2⟩
  obtain ⟨w1, hw1⟩ : ∃ w1, w.alloc (.cells #[.int .i64 st, .string t, .slice a rd.length c] 26) = w1 := ⟨_, rfl⟩
  have hb1 : Below w.heap.size w w1 := by rw [← hw1]; exact (Below.refl _ _).alloc (Nat.le_refl _) _
  have hB1 : MBox w1 w.heap.size (.int .i64 st) (.string t) (.slice a rd.length c) := by rw [← hw1]; exact MBox.new _ _ _ _
  have HW : Hid (w.alloc (.cells #[.int .i64 st, .string t, .slice a rd.length c] 26) = w1) := hw1
  have c1 := searchR_any w1 a c rd id (hE.on hb1) hm hA
  have HB : Hid (Below w.heap.size w w1) := hb1
  obtain ⟨b0, b1, b2⟩ := hB1.cells
  clear hw1 hb1 hB1 hG hE hA
  go_enter Try.func36, Try.ntmps36
  go_wp2_with fail
  rw [HW.out]
  refine c1.mono ?_
  rintro e w2 ⟨k, b, rfl, h1, h2, h3, h4, hb2⟩
  have HP : Hid (PlaceR rd id k b) := ⟨h1, h2, h3, h4⟩
  clear h1 h2 h3 h4 c1
  go_wp2_with fail
  exact HG.out k b w2 HP.out (HB.out.trans (hb2.mono HB.out.size))
/-- Where it is: atM. -/
theorem PlaceR.at {rd : List (Int × Int)} {id : Int} {k : Nat} {b : Bool} (h : PlaceR rd id k b) (hA : AscR rd) : (b = true → atM rd id = k ∧ ∃ hk : k < rd.length, rd[k].1 = id) ∧ (b = false → atM rd id = -1 ∧ ∀ r ∈ rd, ¬ r.1 = id) := by
  refine ⟨fun e => ?_, fun e => ?_⟩
  · obtain ⟨hk, hx⟩ := h.there.1 e
    exact ⟨atM_hit rd id k hk hx fun j hj hjk => by have := h.lo j hj hjk; omega, hk, hx⟩
  · have hno : ∀ j (hj : j < rd.length), ¬ rd[j].1 = id := fun j hj ej => by
      have hk : j = k ∨ k < j ∨ j < k := by omega
      rcases hk with rfl | hk | hk
      · rw [h.there.2 ⟨hj, ej⟩] at e; cases e
      · have := h.hi k (by omega) (Nat.le_refl _); have := hA k j (by omega) hj hk; omega
      · have := h.lo j hj hk; omega
    refine ⟨atM_miss rd id hno, fun r hr => ?_⟩
    obtain ⟨j, hj, rfl⟩ := List.getElem_of_mem hr
    exact hno j hj
end Go.Proofs.Ytmpnjijbahjinaf
