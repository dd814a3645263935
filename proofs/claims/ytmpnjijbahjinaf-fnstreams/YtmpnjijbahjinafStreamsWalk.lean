/- The law on streams that are read bit by bit, walked. Written by mkstreams.py. -/
import Derived.Test.YtmpnjijbahjinafStmFn
import Derived.Test.YtmpnjijbahjinafStmPutImpl
import Derived.Test.YtmpnjijbahjinafStmLeaveImpl
import Derived.Test.YtmpnjijbahjinafStmJoinImpl
import Derived.Test.YtmpnjijbahjinafStmReadImpl
import Derived.Test.YtmpnjijbahjinafDecimal
import Derived.Deep.RegionLaw
import Derived.Deep.DeepCutAuto
namespace Go.Proofs.Ytmpnjijbahjinaf
open Go.RowKit Go.Sort

theorem extr_cat (t : ByteArray) (A N : Nat) : t.extract 0 A ++ t.extract A (A + N) = t.extract 0 (A + N) := by
  apply ByteArray.ext
  simp only [ByteArray.data_append, ByteArray.data_extract]
  rw [Array.extract_append_extract]
  congr 1 <;> omega
theorem extr_pre (t x : ByteArray) (A : Nat) (h : A ≤ t.size) : (t ++ x).extract 0 A = t.extract 0 A := by
  apply ByteArray.ext
  simp only [ByteArray.data_append, ByteArray.data_extract]
  rw [Array.extract_append]
  have h2 : A ≤ t.data.size := h
  have : x.data.extract (0 - t.data.size) (A - t.data.size) = #[] := by rw [show A - t.data.size = 0 by omega]; simp
  rw [this, Array.append_empty]
theorem digF_short : ∀ (f n : Nat) (s : List UInt8), (digF f n s).length ≤ f + s.length
  | 0, _, s => by simp [digF]
  | f + 1, n, s => by
    unfold digF
    split
    · omega
    · have := digF_short f (n / 10) (fig (n % 10) :: s)
      rw [List.length_cons] at this
      omega
theorem decOf_short (n : Int) : (decOf n).length ≤ 21 := by
  unfold decOf
  split
  · decide
  · split
    · have := digF_short 20 n.natAbs []
      simp only [List.length_cons, List.length_nil] at this ⊢
      omega
    · have := digF_short 20 n.natAbs []
      simp only [List.length_nil] at this
      omega
theorem ownV_typeM {w : World} {lo : Nat} {e : TypeId} {u : Value} {xs : List Value} (ho : OwnV w lo e u xs) : ∀ k, u.ownBlock = some k → ∃ cs, w.heap[k]? = some (.cells cs e (0, 0)) := by
  intro k hk
  rcases ho.2 with ⟨rfl, _⟩ | ⟨g, cap, cur, rfl, _, hg, _⟩
  · simp [Value.ownBlock] at hk
  · simp [Value.ownBlock] at hk
    subst hk
    exact ⟨_, hg⟩
/-- Numbers that lie in the row g. -/
def PLs (l : List Int) (g : Nat) (w : World) : Prop := ∀ j (hj : j < l.length), w.cell? ⟨g, j, none⟩ = some (.int .i64 l[j])
theorem PLs.on {l : List Int} {g : Nat} {w w' : World} (h : PLs l g w) (hb : Below w.heap.size w w') : PLs l g w' := fun j hj => (hb.cell (World.block_lt_of_cell? w _ (h j hj))).trans (h j hj)
theorem PLs.other {l : List Int} {g : Nat} {w w' : World} (h : PLs l g w) (hk : w'.heap[g]? = w.heap[g]?) : PLs l g w' := fun j hj => by
  have := h j hj
  simp only [World.cell?, hk] at this ⊢
  exact this
set_option maxHeartbeats 1000000 in
theorem beginsM_any (w : World) (a b : ByteArray) (h1 : a.size ≤ b.size) (h2 : b.extract 0 a.size = a) :
    Calls Try.prog 14 #[.string a, .string b] w fun e w' => e = .returned (.bool true) ∧ Below w.heap.size w w' := by
  obtain ⟨n, hn⟩ : ∃ n, a.size = n := ⟨_, rfl⟩
  obtain ⟨m, hm⟩ : ∃ m, b.size = m := ⟨_, rfl⟩
  have hsl := fun w => run_slice_string_h (P := Try.prog) w 9 b Try.underlying9 .i64 (n : Int) (by omega) (by omega)
  have he : b.extract 0 (n : Int).toNat = a := by rw [← hn]; simpa using h2
  rw [he] at hsl
  have h3 : (n : Int) ≤ (m : Int) := by omega
  clear h2 he h1
  go_enter Try.func14, Try.ntmps14
  go_wp2
  go_ret
  exact ⟨rfl, Below.refl _ _⟩
/-- What stands while a stream is read. -/
structure SI (w : World) (B T g : Nat) (l : List Int) (R : List (Int × Int)) (a : Option Addr) (c : Nat) (D : Stm) (A : Nat) (G : ByteArray) (wx : World) : Prop where
  rdg : Rdg D 9 R A
  got : G = D.text.extract 0 A
  st : StV wx B T a c D
  hB : w.heap.size ≤ B
  pl : PLs l g wx
  ne : g ≠ T
  below : Below w.heap.size w wx
theorem SI.on {w : World} {B T g : Nat} {l : List Int} {R : List (Int × Int)} {a : Option Addr} {c : Nat} {D : Stm} {A : Nat} {G : ByteArray} {wx wy : World} (h : SI w B T g l R a c D A G wx) (hb : Below wx.heap.size wx wy) : SI w B T g l R a c D A G wy :=
  ⟨h.rdg, h.got, h.st.on hb, h.hB, h.pl.on hb, h.ne, h.below.trans (hb.mono h.below.size)⟩
theorem SI.put {w : World} {B T g : Nat} {l : List Int} {R : List (Int × Int)} {a a' : Option Addr} {c c' : Nat} {D D' : Stm} {A A' : Nat} {G G' : ByteArray} {wx w' : World} (h : SI w B T g l R a c D A G wx) (hb : Below wx.heap.size wx w') (ho : MOwn w' wx.heap.size (.agg #[.int .i64 D'.st, .string D'.text, .slice a' D'.rd.length c']) D') (hr : Rdg D' 9 R A') (hG : G' = D'.text.extract 0 A') :
    MBox w' T (.int .i64 D.st) (.string D.text) (.slice a D.rd.length c) ∧ SI w B T g l R a' c' D' A' G' (((w'.setCell ⟨T, 0, none⟩ (.int .i64 D'.st)).setCell ⟨T, 1, none⟩ (.string D'.text)).setCell ⟨T, 2, none⟩ (.slice a' D'.rd.length c')) := by
  obtain ⟨h1, h2⟩ := h.st.put hb ho
  have hle := h.st.le
  have hB := h.hB
  refine ⟨h1, hr, hG, h2, h.hB, (h.on hb).pl.other (put3_otherM _ _ _ _ _ g h.ne), h.ne, Below.put3M (h.on hb).below (by omega) _ _ _⟩
theorem SI.len {w : World} {B T g : Nat} {l : List Int} {R : List (Int × Int)} {a : Option Addr} {c : Nat} {D : Stm} {A : Nat} {G : ByteArray} {wx : World} (h : SI w B T g l R a c D A G wx) : D.text.size ≤ 400 ∧ D.rd.length ≤ 6 ∧ A ≤ D.text.size ∧ G.size ≤ 400 := by
  obtain ⟨_, _, h3, h4⟩ := okM_parts h.rdg.ok
  have h5 := h.rdg.le
  refine ⟨h3, h4, h5, ?_⟩
  rw [h.got]
  simp
  omega
set_option maxRecDepth 100000 in
set_option maxHeartbeats 8000000 in
theorem streams_walk (ca : Option Addr) (n cap : Nat) (w : World) (hcode : CodeAt w ca n w.heap.size) (hlen : n ≤ maxLen) :
    Calls Try.prog 3 #[.slice ca n cap] w fun e w' => e = .returned (.bool true) ∧ Below w.heap.size w w' := by
  unfold maxLen at hlen
  have cb := big_any ca n cap w (by omega)
  by_cases hn : n ≤ 1048576
  case neg =>
    rw [show decide (1048576 < n) = true by simp; omega] at cb
    go_enter Try.func3, Try.ntmps3
    go_wp2_with fail
    refine cb.mono ?_
    rintro e w' ⟨rfl, rfl⟩
    go_wp2_with fail
    go_ret
    exact ⟨rfl, Below.refl _ _⟩
  rw [show decide (1048576 < n) = false by simp; omega] at cb
  have HCD : Hid (∀ W, Below w.heap.size w W → CodeAt W ca n W.heap.size) := fun W h => hcode.onM h
  have cD := drawStream_any w ca n cap hcode hn
  clear hcode
  go_enter Try.func3, Try.ntmps3
  go_wp2_with fail
  refine cb.mono ?_
  rintro e w' ⟨rfl, rfl⟩
  clear cb
  go_wp2_with fail
  refine cD.mono ?_
  rintro e w1 ⟨v, S, rfl, hDr, ho1, hb1⟩
  obtain ⟨a, c, rfl, _⟩ := ho1.at
  have hS2 := StV.new ho1 hb1.size
  obtain ⟨T, hT⟩ : ∃ T, w1.heap.size = T := ⟨_, rfl⟩
  obtain ⟨w2, hw2⟩ : ∃ x, w1.alloc (.cells #[.int .i64 S.st, .string S.text, .slice a S.rd.length c] 26) = x := ⟨_, rfl⟩
  have hb2 : Below w.heap.size w w2 := by rw [← hw2]; exact hb1.alloc hb1.size _
  have HW2 : Hid (w1.alloc (.cells #[.int .i64 S.st, .string S.text, .slice a S.rd.length c] 26) = w2) := hw2
  rw [hw2, hT] at hS2
  have cP := drawPlaces_any w2 ca n cap (HCD.out w2 hb2) hn
  clear hw2 ho1 cD
  go_wp2_with fail
  rw [HW2.out]
  refine cP.mono ?_
  rintro e w3 ⟨vp, l, rfl, hl12, hlz, hown, hb3⟩
  have hS3 := hS2.on hb3
  have hbw3 := hb2.trans (hb3.mono hb2.size)
  obtain ⟨pa, pc, rfl, hcells⟩ := hown.shape
  have hln : (ints l).length = 12 := by rw [ints_length]; exact hl12
  rw [hln]
  clear cP HW2 hS2 hb2 hb3 HCD
  obtain ⟨g, rfl, hu1, hu2, hu3, hg⟩ := hcells 0 (by rw [hln]; decide)
  clear hu1 hu2 hu3
  have hgT : g ≠ T := by
    intro e
    obtain ⟨cs, hc⟩ := ownV_typeM hown g rfl
    have hb := hS3.box
    unfold MBox at hb
    rw [e, hb] at hc
    simp only [Option.some.injEq, Obj.cells.injEq] at hc
    exact absurd hc.2.1 (by decide)
  have hPL : PLs l g w3 := fun j hj => by
    obtain ⟨g', e, hz, _⟩ := hcells j (by rw [ints_length]; exact hj)
    simp only [Option.some.injEq, Addr.mk.injEq, and_true] at e
    subst e
    rw [hz, ints_at hj]
  obtain ⟨hj, hRd⟩ := join_last hDr (id := 9) (by decide) (by decide)
  have hlv : leaveM S 9 = S := leave_none fun r hr => by have := hDr.2 r hr; omega
  have hSl := hDr.len
  have hSt := hDr.text
  rw [hlv] at hj
  obtain ⟨R, hR⟩ : ∃ R, S.rd = R := ⟨_, rfl⟩
  obtain ⟨D0, hD0⟩ : ∃ J : Stm, (⟨S.st, S.text, S.rd ++ [(9, 0)]⟩ : Stm) = J := ⟨_, rfl⟩
  rw [hD0] at hj hRd
  rw [hR] at hRd
  have CLv : Hid (Calls Try.prog 10 #[.agg #[.int .i64 S.st, .string S.text, .slice a S.rd.length c], .int .i64 9] w3 fun e w' => ∃ b' d', e = .returned (.agg #[.int .i64 S.st, .string S.text, .slice b' S.rd.length d']) ∧ PAt w' b' S.rd w'.heap.size ∧ Below w3.heap.size w3 w') := by
    have h0 := implStreamLeave_any w3 a c S 9 hS3.at (by omega) (by omega)
    rw [hlv] at h0
    refine h0.mono ?_
    rintro e w' ⟨v, rfl, ho, hb⟩
    obtain ⟨b', d', rfl, hA⟩ := ho.at
    exact ⟨b', d', rfl, hA, hb⟩
  have CJn : Hid (∀ W b' d', PAt W b' S.rd W.heap.size → Calls Try.prog 9 #[.agg #[.int .i64 S.st, .string S.text, .slice b' S.rd.length d'], .int .i64 9] W fun e w' => ∃ b'' d'', e = .returned (.tuple #[.agg #[.int .i64 D0.st, .string D0.text, .slice b'' D0.rd.length d''], .bool true]) ∧ MOwn w' W.heap.size (.agg #[.int .i64 D0.st, .string D0.text, .slice b'' D0.rd.length d'']) D0 ∧ Below W.heap.size W w') := fun W b' d' h => by
    have h0 := implStreamJoin_any W b' d' S 9 h (by omega) (by omega)
    rw [hj] at h0
    refine h0.mono ?_
    rintro e w' ⟨v, rfl, ho, hb⟩
    obtain ⟨b'', d'', rfl, _⟩ := ho.at
    exact ⟨b'', d'', rfl, ho, hb⟩
  have HRd : Hid (Rdg D0 9 R 0) := hRd
  have HLZ : Hid (l.length = 12 ∧ ∀ z ∈ l, 0 ≤ z ∧ z < 10000) := ⟨hl12, hlz⟩
  have HP3 : Hid (PLs l g w3 ∧ g ≠ T ∧ Below w.heap.size w w3 ∧ StV w3 w.heap.size T a c S) := ⟨hPL, hgT, hbw3, hS3⟩
  obtain ⟨x0, x1, x2⟩ := hS3.box.cells
  clear hj hRd hlv hD0 hDr hPL hgT hbw3 hS3 hown hcells hl12 hlz hln hSl hSt hR hT hg
  go_wp2_with fail
  refine CLv.out.mono ?_
  rintro e w4 ⟨b4, d4, rfl, hA4, hb4⟩
  clear x0 x1 x2 CLv
  go_wp2_with fail
  refine (CJn.out w4 b4 d4 hA4).mono ?_
  rintro e w5 ⟨a5, c5, rfl, ho5, hb5⟩
  have hb35 := hb4.trans (hb5.mono hb4.size)
  obtain ⟨hPL, hgT, hbw3, hS3⟩ := HP3.out
  obtain ⟨hbx, hS6⟩ := hS3.put hb35 (ho5.mono hb4.size)
  have hle6 := hS3.le
  have HI6 : Hid (SI w w.heap.size T g l R a5 c5 D0 0 ⟨#[]⟩ (((w5.setCell ⟨T, 0, none⟩ (.int .i64 D0.st)).setCell ⟨T, 1, none⟩ (.string D0.text)).setCell ⟨T, 2, none⟩ (.slice a5 D0.rd.length c5))) := ⟨HRd.out, by simp; rfl, hS6, Nat.le_refl _, (hPL.on hb35).other (put3_otherM _ _ _ _ _ g hgT), hgT, Below.put3M (hbw3.trans (hb35.mono hbw3.size)) hle6 _ _ _⟩
  obtain ⟨u0, u1, u2⟩ := hbx.cells
  obtain ⟨f0, f1, f2⟩ := (⟨hbx.thaw 0, hbx.thaw 1, hbx.thaw 2⟩ : _ ∧ _ ∧ _)
  obtain ⟨w6, hw6⟩ : ∃ x, (((w5.setCell ⟨T, 0, none⟩ (.int .i64 D0.st)).setCell ⟨T, 1, none⟩ (.string D0.text)).setCell ⟨T, 2, none⟩ (.slice a5 D0.rd.length c5)) = x := ⟨_, rfl⟩
  have HW6 : Hid ((((w5.setCell ⟨T, 0, none⟩ (.int .i64 D0.st)).setCell ⟨T, 1, none⟩ (.string D0.text)).setCell ⟨T, 2, none⟩ (.slice a5 D0.rd.length c5)) = w6) := hw6
  rw [hw6] at HI6
  clear hPL hgT hbw3 hS3 hbx hS6 hle6 ho5 hb5 hb4 hb35 hA4 CJn HP3 hw6 HRd
  go_wp2_with fail
  rw [HW6.out]
  clear HW6 u0 u1 u2 f0 f1 f2
  go_loopw [5, 6] (fun gv i wr => Box (∃ (k A : Nat) (a : Option Addr) (c : Nat) (D : Stm) (G : ByteArray), k ≤ 12 ∧ i = .int .i64 k ∧ gv = .string G ∧ Hid (SI w w.heap.size T g l R a c D A G wr)))
    (fun _ i _ => 12 - (intOf i).toNat)
  case atStart => exact ⟨⟨0, 0, a5, c5, D0, ⟨#[]⟩, by omega, rfl, rfl, HI6⟩⟩
  case round =>
    obtain ⟨k, A, a6, c6, D, G, hk, rfl, rfl, HI⟩ := hrel.out
    clear hrel HI6
    obtain ⟨wo, hwo⟩ : ∃ wo, wo = wr := ⟨_, rfl⟩
    subst hwo
    by_cases hlt : k < 12
    · have HK : Hid (k < 12) := hlt
      have hi1 : (0 : Int) ≤ (k : Int) := by omega
      have hi2 : (k : Int) < 12 := by omega
      obtain ⟨q, hq⟩ : ∃ q, l[k]'(by have := HLZ.out.1; omega) = q := ⟨_, rfl⟩
      have hqb := HLZ.out.2 q (by rw [← hq]; exact List.getElem_mem _)
      have HQ : Hid (∀ W, PLs l g W → W.cell? ⟨g, k, none⟩ = some (.int .i64 q)) := fun W h => by have := h k (by have := HLZ.out.1; omega); rw [hq] at this; exact this
      have hc0 := HQ.out wo HI.out.pl
      obtain ⟨M, hM⟩ : ∃ M : Nat, q.tmod 7 = (M : Int) := ⟨(q.tmod 7).toNat, by have := Int.tmod_nonneg 7 hqb.1; omega⟩
      have hM' : q % 7 = (M : Int) := by rw [← Int.tmod_eq_emod_of_nonneg hqb.1]; exact hM
      have hM6 : M ≤ 6 := by have := Int.tmod_lt_of_pos q (show (0 : Int) < 7 by decide); omega
      clear hq
      by_cases h3 : q.tmod 3 = 0
      · have h3' : (q % 3 == 0) = true := by rw [← Int.tmod_eq_emod_of_nonneg hqb.1]; simp [h3]
        obtain ⟨DS, hDS⟩ : ∃ DS : ByteArray, (⟨(decOf q).toArray⟩ : ByteArray) = DS := ⟨_, rfl⟩
        have hds : DS.size ≤ 21 := by rw [← hDS]; exact decOf_short q
        have CD : Hid (∀ wi, Calls Try.prog 12 #[.int .i64 q] wi fun e w' => e = .returned (.string DS) ∧ Below wi.heap.size wi w') := by intro wi; rw [← hDS]; exact specDecimal_any q wi (by omega) (by omega)
        obtain ⟨PT, hPT⟩ : ∃ PT : ByteArray, (⟨#[112, 97, 114, 116]⟩ : ByteArray) ++ DS = PT := ⟨_, rfl⟩
        have hps : PT.size ≤ 25 := by rw [← hPT, ByteArray.size_append]; show 4 + _ ≤ 25; omega
        have hcat := fun w => run_string_add_sum (P := Try.prog) (w := w) ⟨#[112, 97, 114, 116]⟩ DS (by show 4 + _ ≤ _; omega)
        simp only [hPT] at hcat
        obtain ⟨⟨D1, ok1⟩, hD1⟩ : ∃ X, putM D PT = X := ⟨_, rfl⟩
        obtain ⟨hR1, xx, hx1⟩ := HI.out.rdg.put PT
        rw [hD1] at hR1 hx1
        have hG1 : G = D1.text.extract 0 A := by rw [HI.out.got]; dsimp only at hx1; rw [hx1, extr_pre _ _ _ HI.out.len.2.2.1]
        have HR1 : Hid (Rdg D1 9 R A ∧ G = D1.text.extract 0 A) := ⟨hR1, hG1⟩
        have CPut : Hid (∀ W, SI w w.heap.size T g l R a6 c6 D A G W → Calls Try.prog 11 #[.agg #[.int .i64 D.st, .string D.text, .slice a6 D.rd.length c6], .string PT] W fun e w' => ∃ b d, e = .returned (.tuple #[.agg #[.int .i64 D1.st, .string D1.text, .slice b D1.rd.length d], .bool ok1]) ∧ MOwn w' W.heap.size (.agg #[.int .i64 D1.st, .string D1.text, .slice b D1.rd.length d]) D1 ∧ Below W.heap.size W w') := fun W h => by
          have hl := h.len
          have h0 := implStreamPut_any W a6 c6 D PT (by omega) h.st.at (by omega) (by omega)
          rw [hD1] at h0
          refine h0.mono ?_
          rintro e w' ⟨v, rfl, ho, hb⟩
          obtain ⟨b, d, rfl, _⟩ := ho.at
          exact ⟨b, d, rfl, ho, hb⟩
        have hdr : Below wo.heap.size wo wo.drew := ⟨rfl, rfl, rfl, Nat.le_refl _, fun _ _ => rfl⟩
        have hId := HI.out.on hdr
        obtain ⟨x0, x1, x2⟩ := HI.out.st.box.cells
        clear hDS hPT hD1 hR1 hx1 hG1 h3
        go_wp2_with fail
        go_cut [6] from 28 to 106 (fun iv wc => ∃ (b : Option Addr) (d : Nat), iv = .int .i64 k ∧ SI w w.heap.size T g l R b d D1 A G wc)
        case first =>
          go_region_law (first
            | (go_simp; go_at_call 12; refine (CD.out wo.drew).mono ?_; rintro e wA ⟨rfl, hbA⟩; have hIA := hId.on hbA; obtain ⟨y0, y1, y2⟩ := hIA.st.box.cells)
            | (go_simp; go_at_call 11; refine (CPut.out wA hIA).mono ?_; rintro e wC ⟨b, d, rfl, hoC, hbC⟩; obtain ⟨hbx, hIC⟩ := hIA.put hbC hoC HR1.out.1 HR1.out.2; obtain ⟨u0, u1, u2⟩ := hbx.cells; obtain ⟨f0, f1, f2⟩ := (⟨hbx.thaw 0, hbx.thaw 1, hbx.thaw 2⟩ : _ ∧ _ ∧ _)))
          all_goals go_wp2_with fail
          all_goals go_meet
          all_goals exact ⟨b, d, rfl, hIC⟩
        case rest =>
          obtain ⟨a7, c7, rfl, hI7⟩ := hcut
          obtain ⟨w7, hw7⟩ : ∃ x, wc = x := ⟨_, rfl⟩
          rw [hw7] at hI7 ⊢
          clear hw7 x0 x1 x2 hId hdr HI hc0 CD CPut hcat hds hps HR1 h3'
          have HI : Hid (SI w w.heap.size T g l R a7 c7 D1 A G w7) := hI7
          clear hI7
          obtain ⟨D, hDD⟩ : ∃ X, D1 = X := ⟨_, rfl⟩
          rw [hDD] at HI
          clear hDD D1
          have hl := HI.out.len
          obtain ⟨N, hN⟩ : ∃ N : Nat, min (max (q.tmod 7) 0) (((D.text.size - A : Nat)) : Int) = N := ⟨(min (max (q.tmod 7) 0) (((D.text.size - A : Nat)) : Int)).toNat, by omega⟩
          have hNM : N ≤ M := by omega
          have hNl : A + N ≤ D.text.size := by omega
          obtain ⟨hrd, hRd2⟩ := HI.out.rdg.read (q.tmod 7) N hN
          obtain ⟨D2, hD2⟩ : ∃ X : Stm, (⟨D.st, D.text, R ++ [(9, ((A + N : Nat) : Int))]⟩ : Stm) = X := ⟨_, rfl⟩
          rw [hD2] at hrd hRd2
          have hD2t : D2.text = D.text := by rw [← hD2]
          obtain ⟨PX, hPX⟩ : ∃ X, D.text.extract A (A + N) = X := ⟨_, rfl⟩
          rw [hPX] at hrd
          have hPs : PX.size = N := by rw [← hPX]; simp; omega
          obtain ⟨G2, hG2⟩ : ∃ X, G ++ PX = X := ⟨_, rfl⟩
          have hG2e : G2 = D2.text.extract 0 (A + N) := by rw [← hG2, HI.out.got, ← hPX, hD2t]; exact extr_cat _ _ _
          have hG2s : G2.size = A + N := by rw [hG2e, hD2t]; simp; omega
          have HR2 : Hid (Rdg D2 9 R (A + N) ∧ G2 = D2.text.extract 0 (A + N)) := ⟨hRd2, hG2e⟩
          have CRd : Hid (∀ W, SI w w.heap.size T g l R a7 c7 D A G W → Calls Try.prog 13 #[.agg #[.int .i64 D.st, .string D.text, .slice a7 D.rd.length c7], .int .i64 9, .int .i64 (M : Int)] W fun e w' => ∃ b d, e = .returned (.tuple #[.agg #[.int .i64 D2.st, .string D2.text, .slice b D2.rd.length d], .string PX, .bool true]) ∧ MOwn w' W.heap.size (.agg #[.int .i64 D2.st, .string D2.text, .slice b D2.rd.length d]) D2 ∧ Below W.heap.size W w') := fun W h => by
            have h0 := implStreamRead_any W a7 c7 D 9 (q.tmod 7) h.st.at (by omega) (by omega)
            rw [hrd, hM] at h0
            refine h0.mono ?_
            rintro e w' ⟨v, rfl, ho, hb⟩
            obtain ⟨b, d, rfl, _⟩ := ho.at
            exact ⟨b, d, rfl, ho, hb⟩
          have CBg : Hid (∀ W, Calls Try.prog 14 #[.string G2, .string D2.text] W fun e w' => e = .returned (.bool true) ∧ Below W.heap.size W w') := fun W => beginsM_any W G2 D2.text (by rw [hD2t]; omega) (by rw [hG2s]; exact hG2e.symm)
          have hadd := fun w => run_string_add_sum (P := Try.prog) (w := w) G PX (by omega)
          simp only [hG2] at hadd
          have hNM' : ¬ ((M : Int) < (PX.size : Int)) := by omega
          have hok2 := hRd2.ok
          have hl2 : D2.text.size ≤ 1048576 ∧ D2.rd.length ≤ 1048577 := by obtain ⟨_, _, h5, h6⟩ := okM_parts hok2; exact ⟨by omega, by omega⟩
          have COk : Hid (∀ W b d, PAt W b D2.rd W.heap.size → Calls Try.prog 15 #[.agg #[.int .i64 D2.st, .string D2.text, .slice b D2.rd.length d]] W fun e w' => e = .returned (.bool true) ∧ Below W.heap.size W w') := fun W b d h => by
            have h0 := implStreamOk_any W b d D2 h hl2.1 hl2.2
            rw [hok2] at h0
            exact h0
          have hb7 : Below w7.heap.size w7 w7 := Below.refl _ _
          have hdr : Below w7.heap.size w7 w7.drew := ⟨rfl, rfl, rfl, Nat.le_refl _, fun _ _ => rfl⟩
          have hza : Below w7.heap.size w7 (w7.alloc (.cells #[.int .i64 0, .string ⟨#[]⟩, .slice none 0 0] 26)) := (Below.refl _ _).alloc (Nat.le_refl _) _
          have hzd : Below w7.heap.size w7 ((w7.alloc (.cells #[.int .i64 0, .string ⟨#[]⟩, .slice none 0 0] 26)).drew) := hza.trans ⟨rfl, rfl, rfl, Nat.le_refl _, fun _ _ => rfl⟩
          have hI7d := HI.out.on hdr
          have hI7z := HI.out.on hzd
          have hI7y := HI.out.on (hdr.alloc hdr.size (.cells #[.int .i64 0, .string ⟨#[]⟩, .slice none 0 0] 26))
          obtain ⟨x0, x1, x2⟩ := HI.out.st.box.cells
          obtain ⟨z0, z1, z2⟩ := (HI.out.on hza).st.box.cells
          have xq := HQ.out w7 HI.out.pl
          have zq := HQ.out _ (HI.out.on hza).pl
          clear hrd hRd2 hD2 hPX hPs hG2 hG2e hG2s hN hNl hNM hok2 hl2 hD2t
          go_wp2_with fail
          go_cut [6, 7, 8, 9] from 28 to 106 (fun iv pn gn bn wc => ∃ (N : Nat) (b : Option Addr) (d : Nat), iv = .int .i64 k ∧ pn = .pointer (some ⟨N, 0, none⟩) ∧ gn = .string PX ∧ bn = .bool true ∧ StV wc w7.heap.size N b d D2 ∧ Below w7.heap.size w7 wc)
          case first =>
            go_region_law (go_simp; go_at_call 13; first
              | ((with_reducible refine Calls.mono (CRd.out w7.drew hI7d) ?_); rintro e wC ⟨b, d, rfl, hoC, hbC⟩; have hC1 : Below w7.heap.size w7 wC := hdr.trans hbC)
              | ((with_reducible refine Calls.mono (CRd.out ((w7.alloc (.cells #[.int .i64 0, .string ⟨#[]⟩, .slice none 0 0] 26)).drew) hI7z) ?_); rintro e wC ⟨b, d, rfl, hoC, hbC⟩; have hz : MBox wC w7.heap.size (.int .i64 0) (.string ⟨#[]⟩) (.slice none 0 0) := MBox.on (w := (w7.alloc (.cells #[.int .i64 0, .string ⟨#[]⟩, .slice none 0 0] 26)).drew) (heap_alloc_new w7 _) hbC; have hC1 : Below w7.heap.size w7 wC := hzd.trans (hbC.mono hzd.size); obtain ⟨u0, u1, u2⟩ := hz.cells; obtain ⟨f0, f1, f2⟩ := (⟨hz.thaw 0, hz.thaw 1, hz.thaw 2⟩ : _ ∧ _ ∧ _))
              | ((with_reducible refine Calls.mono (CRd.out (w7.drew.alloc (.cells #[.int .i64 0, .string ⟨#[]⟩, .slice none 0 0] 26)) hI7y) ?_); rintro e wC ⟨b, d, rfl, hoC, hbC⟩; have hz : MBox wC w7.heap.size (.int .i64 0) (.string ⟨#[]⟩) (.slice none 0 0) := MBox.on (w := w7.drew.alloc (.cells #[.int .i64 0, .string ⟨#[]⟩, .slice none 0 0] 26)) (heap_alloc_new w7.drew _) hbC; have hC1 : Below w7.heap.size w7 wC := (hdr.alloc hdr.size _).trans (hbC.mono (hdr.alloc hdr.size _).size); obtain ⟨u0, u1, u2⟩ := hz.cells; obtain ⟨f0, f1, f2⟩ := (⟨hz.thaw 0, hz.thaw 1, hz.thaw 2⟩ : _ ∧ _ ∧ _)))
            all_goals go_wp2_with fail
            all_goals go_meet
            all_goals first
              | exact ⟨_, b, d, rfl, rfl, rfl, rfl, StV.first hoC hz (by first | exact hdr.size | exact hzd.size | exact (hdr.alloc hdr.size _).size) (Nat.le_refl _), Below.put3M hC1 (Nat.le_refl _) _ _ _⟩
              | exact ⟨_, b, d, rfl, rfl, rfl, rfl, StV.last hoC hdr.size hC1.size, hC1.alloc hC1.size _⟩
          case rest =>
            obtain ⟨NX, b8, d8, rfl, rfl, rfl, rfl, hN8, hb8⟩ := hcut
            obtain ⟨w8, hw8⟩ : ∃ x, wc = x := ⟨_, rfl⟩
            rw [hw8] at hN8 hb8 ⊢
            have hI8 := HI.out.on hb8
            have HS8 : Hid (∀ W, Below w8.heap.size w8 W → SI w w.heap.size T g l R a7 c7 D A G W ∧ StV W w7.heap.size NX b8 d8 D2) := fun W h => ⟨hI8.on h, hN8.on h⟩
            have HS7 : Hid (w.heap.size ≤ w7.heap.size ∧ T < w7.heap.size) := ⟨HI.out.below.size, HI.out.st.box.lt⟩
            clear hw8 x0 x1 x2 z0 z1 z2 xq zq hI7d hI7z hI7y hza hzd hdr CRd HI
            have hb88 : Below w8.heap.size w8 w8 := Below.refl _ _
            obtain ⟨y0, y1, y2⟩ := hN8.box.cells
            have xq := HQ.out w8 hI8.pl
            clear hI8 hN8
            go_wp2_with fail
            refine (CBg.out w8).mono ?_
            rintro e w9 ⟨rfl, hb9⟩
            obtain ⟨hI9, hN9⟩ := HS8.out w9 hb9
            clear y0 y1 y2 xq
            obtain ⟨y0, y1, y2⟩ := hN9.box.cells
            go_wp2_with fail
            refine (COk.out w9 b8 d8 hN9.at).mono ?_
            rintro e w10 ⟨rfl, hb10⟩
            have hb810 := hb9.trans (hb10.mono hb9.size)
            obtain ⟨hI10, hN10⟩ := HS8.out w10 hb810
            clear y0 y1 y2 hI9 hN9
            obtain ⟨y0, y1, y2⟩ := hN10.box.cells
            obtain ⟨x0, x1, x2⟩ := hI10.st.box.cells
            obtain ⟨f0, f1, f2⟩ := (⟨hI10.st.box.thaw 0, hI10.st.box.thaw 1, hI10.st.box.thaw 2⟩ : _ ∧ _ ∧ _)
            have HX : Hid (SI w w.heap.size T g l R b8 d8 D2 (A + N) G2 (((w10.setCell ⟨T, 0, none⟩ (.int .i64 D2.st)).setCell ⟨T, 1, none⟩ (.string D2.text)).setCell ⟨T, 2, none⟩ (.slice b8 D2.rd.length d8))) := by
              have hs := HS7.out
              refine ⟨HR2.out.1, HR2.out.2, ⟨hI10.st.le, hI10.st.box.put _ _ _, ?_⟩, hI10.hB, hI10.pl.other (put3_otherM _ _ _ _ _ g hI10.ne), hI10.ne, Below.put3M hI10.below hI10.st.le _ _ _⟩
              exact ((hN10.mown.put3 hI10.st.box _ _ _).mono hs.1).partR
            clear hI10 hN10 HS8 HR2 CBg COk HS7
            go_wp2_with fail
            refine ⟨?_, ?_⟩
            · exact ⟨⟨k + 1, A + N, b8, d8, D2, G2, by have := HK.out; omega, by go_num, rfl, HX.out⟩⟩
            · have := HK.out; simp [intOf]; omega
      · have h3' : (q % 3 == 0) = false := by rw [← Int.tmod_eq_emod_of_nonneg hqb.1]; simp [h3]
        go_wp2_with fail
        obtain ⟨a7, ha7⟩ : ∃ x, a6 = x := ⟨_, rfl⟩
        obtain ⟨c7, hc7⟩ : ∃ x, c6 = x := ⟨_, rfl⟩
        obtain ⟨w7, hw7⟩ : ∃ x, wo = x := ⟨_, rfl⟩
        rw [ha7, hc7, hw7] at HI
        rw [hw7]
        clear ha7 hc7 hw7 h3 h3' hc0
        have hl := HI.out.len
        obtain ⟨N, hN⟩ : ∃ N : Nat, min (max (q.tmod 7) 0) (((D.text.size - A : Nat)) : Int) = N := ⟨(min (max (q.tmod 7) 0) (((D.text.size - A : Nat)) : Int)).toNat, by omega⟩
        have hNM : N ≤ M := by omega
        have hNl : A + N ≤ D.text.size := by omega
        obtain ⟨hrd, hRd2⟩ := HI.out.rdg.read (q.tmod 7) N hN
        obtain ⟨D2, hD2⟩ : ∃ X : Stm, (⟨D.st, D.text, R ++ [(9, ((A + N : Nat) : Int))]⟩ : Stm) = X := ⟨_, rfl⟩
        rw [hD2] at hrd hRd2
        have hD2t : D2.text = D.text := by rw [← hD2]
        obtain ⟨PX, hPX⟩ : ∃ X, D.text.extract A (A + N) = X := ⟨_, rfl⟩
        rw [hPX] at hrd
        have hPs : PX.size = N := by rw [← hPX]; simp; omega
        obtain ⟨G2, hG2⟩ : ∃ X, G ++ PX = X := ⟨_, rfl⟩
        have hG2e : G2 = D2.text.extract 0 (A + N) := by rw [← hG2, HI.out.got, ← hPX, hD2t]; exact extr_cat _ _ _
        have hG2s : G2.size = A + N := by rw [hG2e, hD2t]; simp; omega
        have HR2 : Hid (Rdg D2 9 R (A + N) ∧ G2 = D2.text.extract 0 (A + N)) := ⟨hRd2, hG2e⟩
        have CRd : Hid (∀ W, SI w w.heap.size T g l R a7 c7 D A G W → Calls Try.prog 13 #[.agg #[.int .i64 D.st, .string D.text, .slice a7 D.rd.length c7], .int .i64 9, .int .i64 (M : Int)] W fun e w' => ∃ b d, e = .returned (.tuple #[.agg #[.int .i64 D2.st, .string D2.text, .slice b D2.rd.length d], .string PX, .bool true]) ∧ MOwn w' W.heap.size (.agg #[.int .i64 D2.st, .string D2.text, .slice b D2.rd.length d]) D2 ∧ Below W.heap.size W w') := fun W h => by
          have h0 := implStreamRead_any W a7 c7 D 9 (q.tmod 7) h.st.at (by omega) (by omega)
          rw [hrd, hM] at h0
          refine h0.mono ?_
          rintro e w' ⟨v, rfl, ho, hb⟩
          obtain ⟨b, d, rfl, _⟩ := ho.at
          exact ⟨b, d, rfl, ho, hb⟩
        have CBg : Hid (∀ W, Calls Try.prog 14 #[.string G2, .string D2.text] W fun e w' => e = .returned (.bool true) ∧ Below W.heap.size W w') := fun W => beginsM_any W G2 D2.text (by rw [hD2t]; omega) (by rw [hG2s]; exact hG2e.symm)
        have hadd := fun w => run_string_add_sum (P := Try.prog) (w := w) G PX (by omega)
        simp only [hG2] at hadd
        have hNM' : ¬ ((M : Int) < (PX.size : Int)) := by omega
        have hok2 := hRd2.ok
        have hl2 : D2.text.size ≤ 1048576 ∧ D2.rd.length ≤ 1048577 := by obtain ⟨_, _, h5, h6⟩ := okM_parts hok2; exact ⟨by omega, by omega⟩
        have COk : Hid (∀ W b d, PAt W b D2.rd W.heap.size → Calls Try.prog 15 #[.agg #[.int .i64 D2.st, .string D2.text, .slice b D2.rd.length d]] W fun e w' => e = .returned (.bool true) ∧ Below W.heap.size W w') := fun W b d h => by
          have h0 := implStreamOk_any W b d D2 h hl2.1 hl2.2
          rw [hok2] at h0
          exact h0
        have hb7 : Below w7.heap.size w7 w7 := Below.refl _ _
        have hdr : Below w7.heap.size w7 w7.drew := ⟨rfl, rfl, rfl, Nat.le_refl _, fun _ _ => rfl⟩
        have hza : Below w7.heap.size w7 (w7.alloc (.cells #[.int .i64 0, .string ⟨#[]⟩, .slice none 0 0] 26)) := (Below.refl _ _).alloc (Nat.le_refl _) _
        have hzd : Below w7.heap.size w7 ((w7.alloc (.cells #[.int .i64 0, .string ⟨#[]⟩, .slice none 0 0] 26)).drew) := hza.trans ⟨rfl, rfl, rfl, Nat.le_refl _, fun _ _ => rfl⟩
        have hI7d := HI.out.on hdr
        have hI7z := HI.out.on hzd
        have hI7y := HI.out.on (hdr.alloc hdr.size (.cells #[.int .i64 0, .string ⟨#[]⟩, .slice none 0 0] 26))
        obtain ⟨x0, x1, x2⟩ := HI.out.st.box.cells
        obtain ⟨z0, z1, z2⟩ := (HI.out.on hza).st.box.cells
        have xq := HQ.out w7 HI.out.pl
        have zq := HQ.out _ (HI.out.on hza).pl
        clear hrd hRd2 hD2 hPX hPs hG2 hG2e hG2s hN hNl hNM hok2 hl2 hD2t
        go_wp2_with fail
        go_cut [6, 7, 8, 9] from 28 to 106 (fun iv pn gn bn wc => ∃ (N : Nat) (b : Option Addr) (d : Nat), iv = .int .i64 k ∧ pn = .pointer (some ⟨N, 0, none⟩) ∧ gn = .string PX ∧ bn = .bool true ∧ StV wc w7.heap.size N b d D2 ∧ Below w7.heap.size w7 wc)
        case first =>
          go_region_law (go_simp; go_at_call 13; first
            | ((with_reducible refine Calls.mono (CRd.out w7.drew hI7d) ?_); rintro e wC ⟨b, d, rfl, hoC, hbC⟩; have hC1 : Below w7.heap.size w7 wC := hdr.trans hbC)
            | ((with_reducible refine Calls.mono (CRd.out ((w7.alloc (.cells #[.int .i64 0, .string ⟨#[]⟩, .slice none 0 0] 26)).drew) hI7z) ?_); rintro e wC ⟨b, d, rfl, hoC, hbC⟩; have hz : MBox wC w7.heap.size (.int .i64 0) (.string ⟨#[]⟩) (.slice none 0 0) := MBox.on (w := (w7.alloc (.cells #[.int .i64 0, .string ⟨#[]⟩, .slice none 0 0] 26)).drew) (heap_alloc_new w7 _) hbC; have hC1 : Below w7.heap.size w7 wC := hzd.trans (hbC.mono hzd.size); obtain ⟨u0, u1, u2⟩ := hz.cells; obtain ⟨f0, f1, f2⟩ := (⟨hz.thaw 0, hz.thaw 1, hz.thaw 2⟩ : _ ∧ _ ∧ _))
            | ((with_reducible refine Calls.mono (CRd.out (w7.drew.alloc (.cells #[.int .i64 0, .string ⟨#[]⟩, .slice none 0 0] 26)) hI7y) ?_); rintro e wC ⟨b, d, rfl, hoC, hbC⟩; have hz : MBox wC w7.heap.size (.int .i64 0) (.string ⟨#[]⟩) (.slice none 0 0) := MBox.on (w := w7.drew.alloc (.cells #[.int .i64 0, .string ⟨#[]⟩, .slice none 0 0] 26)) (heap_alloc_new w7.drew _) hbC; have hC1 : Below w7.heap.size w7 wC := (hdr.alloc hdr.size _).trans (hbC.mono (hdr.alloc hdr.size _).size); obtain ⟨u0, u1, u2⟩ := hz.cells; obtain ⟨f0, f1, f2⟩ := (⟨hz.thaw 0, hz.thaw 1, hz.thaw 2⟩ : _ ∧ _ ∧ _)))
          all_goals go_wp2_with fail
          all_goals go_meet
          all_goals first
            | exact ⟨_, b, d, rfl, rfl, rfl, rfl, StV.first hoC hz (by first | exact hdr.size | exact hzd.size | exact (hdr.alloc hdr.size _).size) (Nat.le_refl _), Below.put3M hC1 (Nat.le_refl _) _ _ _⟩
            | exact ⟨_, b, d, rfl, rfl, rfl, rfl, StV.last hoC hdr.size hC1.size, hC1.alloc hC1.size _⟩
        case rest =>
          obtain ⟨NX, b8, d8, rfl, rfl, rfl, rfl, hN8, hb8⟩ := hcut
          obtain ⟨w8, hw8⟩ : ∃ x, wc = x := ⟨_, rfl⟩
          rw [hw8] at hN8 hb8 ⊢
          have hI8 := HI.out.on hb8
          have HS8 : Hid (∀ W, Below w8.heap.size w8 W → SI w w.heap.size T g l R a7 c7 D A G W ∧ StV W w7.heap.size NX b8 d8 D2) := fun W h => ⟨hI8.on h, hN8.on h⟩
          have HS7 : Hid (w.heap.size ≤ w7.heap.size ∧ T < w7.heap.size) := ⟨HI.out.below.size, HI.out.st.box.lt⟩
          clear hw8 x0 x1 x2 z0 z1 z2 xq zq hI7d hI7z hI7y hza hzd hdr CRd HI
          have hb88 : Below w8.heap.size w8 w8 := Below.refl _ _
          obtain ⟨y0, y1, y2⟩ := hN8.box.cells
          have xq := HQ.out w8 hI8.pl
          clear hI8 hN8
          go_wp2_with fail
          refine (CBg.out w8).mono ?_
          rintro e w9 ⟨rfl, hb9⟩
          obtain ⟨hI9, hN9⟩ := HS8.out w9 hb9
          clear y0 y1 y2 xq
          obtain ⟨y0, y1, y2⟩ := hN9.box.cells
          go_wp2_with fail
          refine (COk.out w9 b8 d8 hN9.at).mono ?_
          rintro e w10 ⟨rfl, hb10⟩
          have hb810 := hb9.trans (hb10.mono hb9.size)
          obtain ⟨hI10, hN10⟩ := HS8.out w10 hb810
          clear y0 y1 y2 hI9 hN9
          obtain ⟨y0, y1, y2⟩ := hN10.box.cells
          obtain ⟨x0, x1, x2⟩ := hI10.st.box.cells
          obtain ⟨f0, f1, f2⟩ := (⟨hI10.st.box.thaw 0, hI10.st.box.thaw 1, hI10.st.box.thaw 2⟩ : _ ∧ _ ∧ _)
          have HX : Hid (SI w w.heap.size T g l R b8 d8 D2 (A + N) G2 (((w10.setCell ⟨T, 0, none⟩ (.int .i64 D2.st)).setCell ⟨T, 1, none⟩ (.string D2.text)).setCell ⟨T, 2, none⟩ (.slice b8 D2.rd.length d8))) := by
            have hs := HS7.out
            refine ⟨HR2.out.1, HR2.out.2, ⟨hI10.st.le, hI10.st.box.put _ _ _, ?_⟩, hI10.hB, hI10.pl.other (put3_otherM _ _ _ _ _ g hI10.ne), hI10.ne, Below.put3M hI10.below hI10.st.le _ _ _⟩
            exact ((hN10.mown.put3 hI10.st.box _ _ _).mono hs.1).partR
          clear hI10 hN10 HS8 HR2 CBg COk HS7
          go_wp2_with fail
          refine ⟨?_, ?_⟩
          · exact ⟨⟨k + 1, A + N, b8, d8, D2, G2, by have := HK.out; omega, by go_num, rfl, HX.out⟩⟩
          · have := HK.out; simp [intOf]; omega
    · have hl := HI.out.len
      have hi2 : ¬ (k : Int) < 12 := by omega
      obtain ⟨hrd, hRd2⟩ := HI.out.rdg.read 1000 (D.text.size - A) (by omega)
      have hAs : A + (D.text.size - A) = D.text.size := by omega
      obtain ⟨D2, hD2⟩ : ∃ X : Stm, (⟨D.st, D.text, R ++ [(9, ((A + (D.text.size - A) : Nat) : Int))]⟩ : Stm) = X := ⟨_, rfl⟩
      rw [hD2] at hrd hRd2
      obtain ⟨PX, hPX⟩ : ∃ X, D.text.extract A (A + (D.text.size - A)) = X := ⟨_, rfl⟩
      rw [hPX] at hrd
      have hPs : PX.size ≤ 400 := by rw [← hPX]; simp; omega
      have hGP : G ++ PX = D.text := by rw [HI.out.got, ← hPX, extr_cat, hAs]; simp
      have hD2t : D2.text = D.text := by rw [← hD2]
      obtain ⟨hrd3, _⟩ := hRd2.read 5 0 (by rw [hD2t]; omega)
      obtain ⟨D3, hD3⟩ : ∃ X : Stm, (⟨D2.st, D2.text, R ++ [(9, ((A + (D.text.size - A) + 0 : Nat) : Int))]⟩ : Stm) = X := ⟨_, rfl⟩
      rw [hD3] at hrd3
      have hemp : D2.text.extract (A + (D.text.size - A)) (A + (D.text.size - A) + 0) = ⟨#[]⟩ := by
        apply ByteArray.ext
        simp only [ByteArray.data_extract]
        rw [Nat.add_zero, Array.extract_eq_empty_of_le (by omega)]
      rw [hemp] at hrd3
      have hok2 := hRd2.ok
      have hl2 : D2.text.size ≤ 1048576 ∧ D2.rd.length ≤ 1048576 := by obtain ⟨_, _, h5, h6⟩ := okM_parts hok2; exact ⟨by omega, by omega⟩
      have CR1 : Hid (Calls Try.prog 13 #[.agg #[.int .i64 D.st, .string D.text, .slice a6 D.rd.length c6], .int .i64 9, .int .i64 1000] wo fun e w' => ∃ b d, e = .returned (.tuple #[.agg #[.int .i64 D2.st, .string D2.text, .slice b D2.rd.length d], .string PX, .bool true]) ∧ MOwn w' wo.heap.size (.agg #[.int .i64 D2.st, .string D2.text, .slice b D2.rd.length d]) D2 ∧ Below wo.heap.size wo w') := by
        have h0 := implStreamRead_any wo a6 c6 D 9 1000 HI.out.st.at (by omega) (by omega)
        rw [hrd] at h0
        refine h0.mono ?_
        rintro e w' ⟨v, rfl, ho, hb⟩
        obtain ⟨b, d, rfl, _⟩ := ho.at
        exact ⟨b, d, rfl, ho, hb⟩
      have CR2 : Hid (∀ W b' d', PAt W b' D2.rd W.heap.size → Calls Try.prog 13 #[.agg #[.int .i64 D2.st, .string D2.text, .slice b' D2.rd.length d'], .int .i64 9, .int .i64 5] W fun e w' => ∃ b d, e = .returned (.tuple #[.agg #[.int .i64 D3.st, .string D3.text, .slice b D3.rd.length d], .string ⟨#[]⟩, .bool true]) ∧ Below W.heap.size W w') := fun W b' d' h => by
        have h0 := implStreamRead_any W b' d' D2 9 5 h hl2.1 hl2.2
        rw [hrd3] at h0
        refine h0.mono ?_
        rintro e w' ⟨v, rfl, ho, hb⟩
        obtain ⟨b, d, rfl, _⟩ := ho.at
        exact ⟨b, d, rfl, hb⟩
      have hadd := fun w => run_string_add_sum (P := Try.prog) (w := w) G PX (by omega)
      simp only [hGP] at hadd
      obtain ⟨x0, x1, x2⟩ := HI.out.st.box.cells
      clear hrd hRd2 hD2 hPX hPs hGP hD2t hrd3 hD3 hemp hok2 hl2 hAs hl
      go_wp2_with fail
      refine CR1.out.mono ?_
      rintro e w8 ⟨b8, d8, rfl, ho8, hb8⟩
      obtain ⟨w9, hw9⟩ : ∃ x, w8.alloc (.cells #[.int .i64 D2.st, .string D2.text, .slice b8 D2.rd.length d8] 26) = x := ⟨_, rfl⟩
      have hb9 : Below wo.heap.size wo w9 := by rw [← hw9]; exact hb8.alloc hb8.size _
      have hN9 : StV w9 wo.heap.size w8.heap.size b8 d8 D2 := by rw [← hw9]; exact StV.new ho8 hb8.size
      have HW9 : Hid (w8.alloc (.cells #[.int .i64 D2.st, .string D2.text, .slice b8 D2.rd.length d8] 26) = w9) := hw9
      clear x0 x1 x2
      obtain ⟨y0, y1, y2⟩ := hN9.box.cells
      rw [← hw9] at y0 y1 y2
      clear hw9 CR1 ho8 hb8
      go_wp2_with fail
      rw [HW9.out] at y0 y1 y2 ⊢
      refine (CR2.out w9 b8 d8 hN9.at).mono ?_
      rintro e w10 ⟨b10, d10, rfl, hb10⟩
      have hb10' := hb9.trans (hb10.mono hb9.size)
      obtain ⟨w11, hw11⟩ : ∃ x, w10.alloc (.cells #[.int .i64 D3.st, .string D3.text, .slice b10 D3.rd.length d10] 26) = x := ⟨_, rfl⟩
      have hb11 : Below wo.heap.size wo w11 := by rw [← hw11]; exact hb10'.alloc hb10'.size _
      have HW11 : Hid (w10.alloc (.cells #[.int .i64 D3.st, .string D3.text, .slice b10 D3.rd.length d10] 26) = w11) := hw11
      obtain ⟨x0, x1, x2⟩ := (HI.out.on hb11).st.box.cells
      have HBW : Hid (Below w.heap.size w w11) := HI.out.below.trans (hb11.mono HI.out.below.size)
      rw [← hw11] at x0 x1 x2
      clear hw11 y0 y1 y2 CR2 hN9 hb10 hb10' hb9 HW9 HI
      go_wp2_with fail
      go_ret
      refine ⟨by simp, ?_⟩
      rw [HW11.out]
      exact HBW.out
end Go.Proofs.Ytmpnjijbahjinaf
