/- Texts that stand in one: PxSlices, OnePlain, OneSpec. -/
import Derived.Test.YtpgcfgbhkodmeaaPxPlain
import Derived.Test.YtpgcfgbhkodmeaaPrxBase
import Derived.Lib.QuietBelow
import Derived.BigQuiet
namespace Go.Proofs.Ytpgcfgbhkodmeaa
open Go.RowKit Go.Sort
theorem CliV.at' {w : World} {a : Option Addr} {c : Nat} {L : List Cli} {B : Nat} (h : CliV w (.slice a L.length c) L B) : CliAt w a L B := by
  obtain ⟨a', c', e, h⟩ := h
  cases e
  exact h
theorem FetV.at' {w : World} {a : Option Addr} {c : Nat} {L : List Fet} {B : Nat} (h : FetV w (.slice a L.length c) L B) : FetAt w a L B := by
  obtain ⟨a', c', e, h⟩ := h
  cases e
  exact h
theorem EnsV.at' {w : World} {a : Option Addr} {c : Nat} {L : List En} {B : Nat} (h : EnsV w (.slice a L.length c) L B) : NAt w a L B := by
  obtain ⟨a', c', e, h⟩ := h
  cases e
  exact h
theorem StrsV.at' {w : World} {a : Option Addr} {c : Nat} {L : List ByteArray} {B : Nat} (h : StrsV w (.slice a L.length c) L B) : LAt w a L B := by
  obtain ⟨a', c', e, h⟩ := h
  cases e
  exact h
theorem SSV.at' {w : World} {a : Option Addr} {c : Nat} {L : List (List Int)} {B : Nat} (h : SSV w (.slice a L.length c) L B) : SSAt w a L B := by
  obtain ⟨a', c', e, h⟩ := h
  cases e
  exact h
theorem PxAt.slices {w : World} {X : Pc} {R : Prx} {B : Nat} (h : PxAt w X R B) : ∃ (e0 : Option Addr) (e1 : Nat) (p0 : Option Addr) (p1 : Nat) (m0 : Option Addr) (m1 : Nat) (k0 : Option Addr) (k1 : Nat) (f0 : Option Addr) (f1 : Nat) (c0 : Option Addr) (c1 : Nat), X = ⟨.slice e0 R.ents.length e1, .slice p0 R.pol.win.length p1, .slice m0 R.pol.main.length m1, .slice k0 R.pol.sk.rows.length k1, .slice f0 R.fes.length f1, .slice c0 R.cls.length c1⟩ := by
  obtain ⟨xe, xw, xm, xk, xf, xc⟩ := X
  obtain ⟨⟨e0, e1, h1, _⟩, ⟨w0, w1, h2, _⟩, ⟨m0, m1, h3, _⟩, ⟨k0, k1, h4, _⟩, ⟨f0, f1, h5, _⟩, ⟨c0, c1, h6, _⟩⟩ := h
  dsimp only at *
  subst h1 h2 h3 h4 h5 h6
  exact ⟨_, _, _, _, _, _, _, _, _, _, _, _, rfl⟩
theorem PxAt.polAt {w : World} {e0 p0 m0 k0 f0 c0 : Option Addr} {e1 p1 m1 k1 f1 c1 : Nat} {R : Prx} {B : Nat} (h : PxAt w ⟨.slice e0 R.ents.length e1, .slice p0 R.pol.win.length p1, .slice m0 R.pol.main.length m1, .slice k0 R.pol.sk.rows.length k1, .slice f0 R.fes.length f1, .slice c0 R.cls.length c1⟩ R B) : PolAt w p0 m0 k0 R.pol B := ⟨StrsV.at' h.pw, StrsV.at' h.pm, SSV.at' h.pk⟩
theorem PxSz.ents {R : Prx} (h : PxSz R) : ∀ e ∈ R.ents, e.key.size ≤ 1048576 ∧ e.bd.size ≤ 1048576 := fun c hc => by
  obtain ⟨j, hj, rfl⟩ := List.getElem_of_mem hc
  have h1 := ewg_mem hj
  have h2 : wgtX R ≤ 1048576 := h
  unfold wgtX at h2
  unfold En.wg at h1
  omega
theorem PxSz.fes {R : Prx} (h : PxSz R) : ∀ e ∈ R.fes, e.key.size ≤ 1048576 ∧ e.tx.size ≤ 1048576 := fun c hc => by
  obtain ⟨j, hj, rfl⟩ := List.getElem_of_mem hc
  have h1 := ftwg_mem hj
  have h2 : wgtX R ≤ 1048576 := h
  unfold wgtX at h2
  unfold Fet.wg at h1
  omega
theorem PxSz.cls {R : Prx} (h : PxSz R) : ∀ e ∈ R.cls, e.key.size ≤ 1048576 ∧ e.got.size ≤ 1048576 := fun c hc => by
  obtain ⟨j, hj, rfl⟩ := List.getElem_of_mem hc
  have h1 := clwg_mem hj
  have h2 : wgtX R ≤ 1048576 := h
  unfold wgtX at h2
  unfold Cli.wg at h1
  omega
/-- There is room for as many fetches as there are. -/
def RoomF (v : Value) (n : Nat) : Prop := ∀ a k c, v = .slice a k c → n ≤ c
theorem PxOwn.roomF {w : World} {lo hi : Nat} {X : Pc} {R : Prx} (h : PxOwn w lo hi X R) : RoomF X.f R.fes.length := fun a k c e => by
  have h' := h.f
  rw [e] at h'
  rcases h'.2 with ⟨e1, hl⟩ | ⟨g', cp, cur, e1, _, _, hle, _⟩
  · omega
  · simp only [Value.slice.injEq] at e1
    omega
end Go.Proofs.Ytpgcfgbhkodmeaa

namespace Go.Proofs.Ytpgcfgbhkodmeaa
open Go.RowKit Go.Sort
def oneF (L : List Fet) (i : Nat) : Bool := !(((L.getD i zFet).st == 1) && (L.take i).any (openP (L.getD i zFet).key))
def oneX (L : List Fet) : Bool := allT (oneF L) L.length
def fetG (now : Int) (L : List Fet) (i : Nat) : Bool :=
  enKey (L.getD i zFet).key && (decide ((L.getD i zFet).tx.size ≤ 400) && (inB (L.getD i zFet).st 1 3 && (inB (L.getD i zFet).lf 0 999999 && inB (L.getD i zFet).sto 0 now)))
theorem allT_and {f g : Nat → Bool} : ∀ n, allT (fun i => f i && g i) n = (allT f n && allT g n)
  | 0 => rfl
  | n + 1 => by
    unfold allT
    rw [allT_and n]
    cases allT f n <;> cases allT g n <;> cases f n <;> cases g n <;> rfl
theorem fesOkX_split (now : Int) (L : List Fet) : fesOkX now L = (decide (L.length ≤ 20) && (allT (fetG now L) L.length && oneX L)) := by
  unfold fesOkX oneX
  rw [← allT_and]
  rfl
end Go.Proofs.Ytpgcfgbhkodmeaa

namespace Go.Proofs.Ytpgcfgbhkodmeaa
open Go.RowKit Go.Sort
theorem one_stop {L : List Fet} {m n : Nat} (hm : m < L.length) (hn : n < m) (h1 : (L[m]).st = 1) (h2 : (L[n]'(by omega)).st = 1) (h3 : (L[m]).key = (L[n]'(by omega)).key) : oneX L = false := by
  refine allT_down hm ?_
  unfold oneF
  rw [getD_of hm]
  have : (L.take m).any (openP L[m].key) = true := by
    rw [List.any_eq_true]
    refine ⟨L[n]'(by omega), ?_, ?_⟩
    · rw [List.mem_take_iff_getElem]
      exact ⟨n, by omega, rfl⟩
    · unfold openP
      rw [Bool.and_eq_true, eqS_iff, beq_iff_eq]
      exact ⟨h3.symm, h2⟩
  rw [this, h1]
  rfl
set_option maxRecDepth 100000 in
set_option maxHeartbeats 8000000 in
theorem specOneEach_any (w : World) (X : Pc) (R : Prx) (hA : PxAt w X R w.heap.size) (hsz : PxSz R) :
    Calls Try.prog 8 #[.agg #[.int .i64 R.now, X.e, X.w, X.m, X.k, .int .i64 R.pol.sk.added, X.f, X.c, .int .i64 R.hits]] w fun e w' => e = .returned (.bool (oneX R.fes)) ∧ Below w.heap.size w w' := by
  obtain ⟨e0, e1, p0, p1, m0, m1, k0, k1, f0, f1, c0, c1, rfl⟩ := hA.slices
  dsimp only
  obtain ⟨_, _, hl, _⟩ := hsz.parts
  have hF := hA.f
  obtain ⟨ff0, ff1, hfe, hF⟩ := hF
  dsimp only at hfe
  simp only [Value.slice.injEq] at hfe
  obtain ⟨rfl, _, rfl⟩ := hfe
  obtain ⟨L, hL⟩ : ∃ L, R.fes = L := ⟨_, rfl⟩
  rw [hL] at hF hl ⊢
  obtain ⟨w1, hw1⟩ : ∃ x, w.alloc (.cells #[.int .i64 R.now, .slice e0 R.ents.length e1, .slice p0 R.pol.win.length p1, .slice m0 R.pol.main.length m1, .slice k0 R.pol.sk.rows.length k1, .int .i64 R.pol.sk.added, .slice f0 L.length f1, .slice c0 R.cls.length c1, .int .i64 R.hits] 42) = x := ⟨_, rfl⟩
  have hb1 : Below w.heap.size w w1 := by rw [← hw1]; exact (Below.refl _ _).alloc (Nat.le_refl _) _
  have hB1 : NB w1 w.heap.size 42 (.int .i64 R.now) (.slice e0 R.ents.length e1) (.slice p0 R.pol.win.length p1) (.slice m0 R.pol.main.length m1) (.slice k0 R.pol.sk.rows.length k1) (.int .i64 R.pol.sk.added) (.slice f0 L.length f1) (.slice c0 R.cls.length c1) (.int .i64 R.hits) := by rw [← hw1]; exact NB.new _ _ _ _ _ _ _ _ _ _ _
  have HFA : Hid (FetAt w1 f0 L w1.heap.size) := hF.on hb1
  have HB1 : Hid (Below w.heap.size w w1) := hb1
  have HL : Hid (L.length ≤ 1048576) := hl
  have HBX : Hid (∀ W, Below w1.heap.size w1 W → W.cell? ⟨w.heap.size, 6, none⟩ = some (.slice f0 L.length f1)) := fun W h => (hB1.on h).cells.2.2.2.2.2.2.1
  have HW : Hid (w.alloc (.cells #[.int .i64 R.now, .slice e0 R.ents.length e1, .slice p0 R.pol.win.length p1, .slice m0 R.pol.main.length m1, .slice k0 R.pol.sk.rows.length k1, .int .i64 R.pol.sk.added, .slice f0 L.length f1, .slice c0 R.cls.length c1, .int .i64 R.hits] 42) = w1) := hw1
  obtain ⟨res, hres⟩ : ∃ r, oneX L = r := ⟨_, rfl⟩
  have HE : Hid (oneX L = res) := hres
  rw [hres]
  clear hw1 hb1 hB1 hF hsz hres hA hL hl
  go_enter Try.func8, Try.ntmps8
  go_wp2_with fail
  rw [HW.out]
  go_loopw [3] (fun i wr => Box (∃ m : Nat, m ≤ L.length ∧ i = .int .i64 m ∧ allT (oneF L) m = true ∧ Below w1.heap.size w1 wr))
    (fun i _ => L.length - (intOf i).toNat)
  case atStart => exact ⟨⟨0, by omega, rfl, rfl, Below.refl _ _⟩⟩
  case round =>
    obtain ⟨m, hm, rfl, hno, hbr⟩ := hrel.out
    obtain ⟨wo, hwo⟩ : ∃ wo, wo = wr := ⟨_, rfl⟩
    subst hwo
    have HN : Hid (allT (oneF L) m = true) := hno
    have HBO : Hid (Below w1.heap.size w1 wo) := hbr
    clear hrel hno hbr
    have x6 := HBX.out wo HBO.out
    have hL20 := HL.out
    by_cases hlt : m < L.length
    · have hi1 : (0 : Int) ≤ (m : Int) := by omega
      have hi2 : (m : Int) < (L.length : Int) := by omega
      obtain ⟨f, hf⟩ : ∃ f, L[m] = f := ⟨_, rfl⟩
      have HF1 : Hid (L[m] = f) := hf
      have HK : Hid (m < L.length) := hlt
      go_wp2_with fail
      go_loopw [4] (fun i wr => Box (∃ n : Nat, n ≤ m ∧ i = .int .i64 n ∧ (f.st = 1 → (L.take n).any (openP f.key) = false) ∧ Below w1.heap.size w1 wr))
        (fun i _ => m - (intOf i).toNat)
      case atStart => exact ⟨⟨0, by omega, rfl, fun _ => rfl, HBO.out⟩⟩
      case round =>
        obtain ⟨n, hn, rfl, hno, hbr⟩ := hrel.out
        obtain ⟨wq, hwq⟩ : ∃ wq, wq = wr := ⟨_, rfl⟩
        subst hwq
        have HM : Hid (f.st = 1 → (L.take n).any (openP f.key) = false) := hno
        have HBQ : Hid (Below w1.heap.size w1 wq) := hbr
        clear hrel hno hbr x6
        by_cases hlt2 : n < m
        · have hnl : n < L.length := by have := HK.out; omega
          obtain ⟨gg, offg, hga, _, q0, q1, q2, q3, q4⟩ := (HFA.out.on HBQ.out) n hnl
          obtain ⟨gg', offg', hga', _, r0, r1, r2, r3, r4⟩ := (HFA.out.on HBQ.out) m HK.out
          obtain ⟨g, hg⟩ : ∃ g, L[n] = g := ⟨_, rfl⟩
          rw [hg] at q0 q1 q2 q3 q4
          rw [HF1.out] at r0 r1 r2 r3 r4
          cases hga
          cases hga'
          have y0 := cell_regrown q0
          have y2 := cell_regrown q2
          have z0 := cell_regrown r0
          have z2 := cell_regrown r2
          have z6 := cell_regrown (HBX.out wq HBQ.out)
          clear q0 q1 q2 q3 q4 r0 r1 r2 r3 r4
          have hj1 : (0 : Int) ≤ (n : Int) := by omega
          have hj3 : (n : Int) < (L.length : Int) := by omega
          have hj4 : (n : Int) < (m : Int) := by omega
          have HK2 : Hid (n < m) := hlt2
          have HS : Hid ((L.take (n + 1)).any (openP f.key) = ((L.take n).any (openP f.key) || openP f.key g)) := by
            show _ = _
            rw [List.take_succ_eq_append_getElem hnl, hg, List.any_append]
            simp
          have HST : Hid (f.st = 1 → g.st = 1 → f.key = g.key → res = false) := fun a b c => by
            rw [← HE.out]
            have hg' := hg
            have hf' := HF1.out
            exact one_stop HK.out HK2.out (by rw [hf']; exact a) (by rw [hg']; exact b) (by rw [hf', hg']; exact c)
          clear hg hnl hlt2
          cases hs3 : (f.st == 1) with
          | false =>
            have HP : Hid (¬ f.st = 1) := by show ¬ _; simpa using hs3
            go_wp2_with fail
            refine wp_region_quiet_below (by kernel_rfl) (by kernel_rfl) ?_
            repeat (first | go_big_quiet_step (fail) | quiet_step (fail))
            refine wpQuiet_nil ?_
            intro _ hw'
            obtain ⟨⟨dq, osq⟩, hw''⟩ := hw'
            subst hw''
            go_wp2_with fail
            go_roundw
            case rel =>
              try ((repeat apply Exists.intro); refine ⟨?_, rfl⟩)
              exact ⟨⟨n + 1, by have := HK2.out; omega, by go_num, fun h => absurd h HP.out, HBQ.out.trans ((below_regrown wq dq osq).mono HBQ.out.size)⟩⟩
            case measure => have := HK2.out; simp [intOf]; omega
          | true =>
            cases hs1 : (g.st == 1) with
            | false =>
              have HP : Hid (openP f.key g = false) := by show _ = _; unfold openP; rw [hs1, Bool.and_false]
              go_wp2_with fail
              refine wp_region_quiet_below (by kernel_rfl) (by kernel_rfl) ?_
              repeat (first | go_big_quiet_step (fail) | quiet_step (fail))
              refine wpQuiet_nil ?_
              intro _ hw'
              obtain ⟨⟨dq, osq⟩, hw''⟩ := hw'
              subst hw''
              go_wp2_with fail
              go_roundw
              case rel =>
                try ((repeat apply Exists.intro); refine ⟨?_, rfl⟩)
                exact ⟨⟨n + 1, by have := HK2.out; omega, by go_num, fun h => by rw [HS.out, HM.out h, HP.out]; rfl, HBQ.out.trans ((below_regrown wq dq osq).mono HBQ.out.size)⟩⟩
              case measure => have := HK2.out; simp [intOf]; omega
            | true =>
              cases he : (f.key.toList == g.key.toList) with
              | false =>
                have HP : Hid (openP f.key g = false) := by
                  show _ = _
                  unfold openP eqS
                  have : (g.key.toList == f.key.toList) = false := by rw [← he]; exact Bool.beq_comm
                  rw [this]; rfl
                go_wp2_with fail
                refine wp_region_quiet_below (by kernel_rfl) (by kernel_rfl) ?_
                repeat (first | go_big_quiet_step (fail) | quiet_step (fail))
                refine wpQuiet_nil ?_
                intro _ hw'
                obtain ⟨⟨dq, osq⟩, hw''⟩ := hw'
                subst hw''
                go_wp2_with fail
                go_roundw
                case rel =>
                  try ((repeat apply Exists.intro); refine ⟨?_, rfl⟩)
                  exact ⟨⟨n + 1, by have := HK2.out; omega, by go_num, fun h => by rw [HS.out, HM.out h, HP.out]; rfl, HBQ.out.trans ((below_regrown wq dq osq).mono HBQ.out.size)⟩⟩
                case measure => have := HK2.out; simp [intOf]; omega
              | true =>
                have HR : Hid (res = false) := HST.out (by simpa using hs3) (by simpa using hs1) (eqS_iff.1 he)
                go_wp2_with fail
                refine wp_region_quiet_below (by kernel_rfl) (by kernel_rfl) ?_
                repeat (first | go_big_quiet_step (fail) | quiet_step (fail))
                refine wpQuiet_nil ?_
                intro _ hw'
                obtain ⟨⟨dq, osq⟩, hw''⟩ := hw'
                subst hw''
                go_wp2_with fail
                go_ret
                exact ⟨by rw [HR.out]; rfl, HB1.out.trans ((HBQ.out.trans ((below_regrown wq dq osq).mono HBQ.out.size)).mono HB1.out.size)⟩
        · have hj4 : ¬ (n : Int) < (m : Int) := by omega
          have HPO : Hid (allT (oneF L) (m + 1) = true) := by
            show _ = _
            unfold allT
            rw [HN.out, Bool.true_and]
            unfold oneF
            rw [getD_of HK.out, HF1.out]
            by_cases h3 : f.st = 1
            · rw [show m = n by omega, HM.out h3]; simp
            · simp [h3]
          clear hlt2 hn
          go_wp2_with fail
          refine ⟨⟨⟨m + 1, by have := HK.out; omega, by go_num, HPO.out, HBQ.out⟩⟩, ?_⟩
          have := HK.out; simp [intOf]; omega
    · have hi3 : ¬ (m : Int) < (L.length : Int) := by omega
      have HR : Hid (res = true) := by show _ = _; rw [← HE.out]; unfold oneX; rw [show L.length = m by omega, HN.out]
      clear hlt hm
      go_wp2_with fail
      go_ret
      exact ⟨by rw [HR.out]; rfl, HB1.out.trans (HBO.out.mono HB1.out.size)⟩
end Go.Proofs.Ytpgcfgbhkodmeaa
