/- Streams are drawn. Written by mkmdraw.py. -/
import Derived.Test.YtmpnjijbahjinafStmDrawPlain
import Derived.Test.YtmpnjijbahjinafStmJoinSpec
import Derived.Test.YtmpnjijbahjinafStmPut
import Derived.Test.YtmpnjijbahjinafStmEnd
import Derived.Test.YtmpnjijbahjinafStmLeave
import Derived.Test.YtmpnjijbahjinafDraws
import Derived.Deep.RegionLaw
namespace Go.Proofs.Ytmpnjijbahjinaf
open Go.RowKit Go.Sort

/-- A stream in the variable T, its readers in a row of its own from B on. -/
structure StV (w : World) (B T : Nat) (a : Option Addr) (c : Nat) (S : Stm) : Prop where
  le : B ≤ T
  box : MBox w T (.int .i64 S.st) (.string S.text) (.slice a S.rd.length c)
  own : OwnP w B 38 (.slice a S.rd.length c) S.rd
theorem StV.new {w : World} {lo : Nat} {a : Option Addr} {c : Nat} {S : Stm} (h : MOwn w lo (.agg #[.int .i64 S.st, .string S.text, .slice a S.rd.length c]) S) (hlo : lo ≤ w.heap.size) : StV (w.alloc (.cells #[.int .i64 S.st, .string S.text, .slice a S.rd.length c] 26)) lo w.heap.size a c S :=
  ⟨hlo, MBox.new _ _ _ _, (h.partR).below ((Below.refl _ _).alloc (Nat.le_refl _) _) (Nat.le_refl _)⟩
theorem StV.on {w w' : World} {B T : Nat} {a : Option Addr} {c : Nat} {S : Stm} (h : StV w B T a c S) (hb : Below w.heap.size w w') : StV w' B T a c S := ⟨h.le, h.box.on hb, h.own.below hb (Nat.le_refl _)⟩
theorem StV.tch {X : Nat → Prop} {w w' : World} {B T : Nat} {a : Option Addr} {c : Nat} {S : Stm} (h : StV w B T a c S) (ht : Tch X w w') (hX : ∀ k, X k → k < B) : StV w' B T a c S :=
  ⟨h.le, h.box.kept (ht.2 T h.box.lt (fun e => by have := hX T e; have := h.le; omega)), h.own.kept fun k hk => ht.2 k (h.own.lt k hk).2 (fun e => by have := hX k e; have := (h.own.lt k hk).1; omega)⟩
theorem StV.at {w : World} {B T : Nat} {a : Option Addr} {c : Nat} {S : Stm} (h : StV w B T a c S) : PAt w a S.rd w.heap.size := by
  obtain ⟨p, q, hv, hA⟩ := h.own.at
  simp only [Value.slice.injEq, true_and] at hv
  obtain ⟨rfl, rfl⟩ := hv
  exact hA
theorem StV.mown {w : World} {B T : Nat} {a : Option Addr} {c : Nat} {S : Stm} (h : StV w B T a c S) : MOwn w B (.agg #[.int .i64 S.st, .string S.text, .slice a S.rd.length c]) S := ⟨_, rfl, h.own⟩
theorem StV.put {w w' : World} {B T : Nat} {a a' : Option Addr} {c c' : Nat} {S S' : Stm} (h : StV w B T a c S) (hb : Below w.heap.size w w') (ho : MOwn w' w.heap.size (.agg #[.int .i64 S'.st, .string S'.text, .slice a' S'.rd.length c']) S') :
    MBox w' T (.int .i64 S.st) (.string S.text) (.slice a S.rd.length c) ∧ StV (((w'.setCell ⟨T, 0, none⟩ (.int .i64 S'.st)).setCell ⟨T, 1, none⟩ (.string S'.text)).setCell ⟨T, 2, none⟩ (.slice a' S'.rd.length c')) B T a' c' S' := by
  have hx := h.box.on hb
  have hlt := h.box.lt
  have hle := h.le
  refine ⟨hx, h.le, hx.put _ _ _, ?_⟩
  have := (ho.put3 hx (.int .i64 S'.st) (.string S'.text) (.slice a' S'.rd.length c')).partR
  exact this.mono (by omega)
/-- What stands while a stream is drawn: the stream in its variable T, the answer's cell R, the cursor p. -/
structure DI (w : World) (p : Nat) (ca : Option Addr) (n cap B T R : Nat) (a : Option Addr) (c : Nat) (S : Stm) (wx : World) : Prop where
  hp : p < w.heap.size
  hR : w.heap.size ≤ R
  hB : R < B
  st : StV wx B T a c S
  res : MBox wx R (.int .i64 0) (.string ⟨#[]⟩) (.slice none 0 0)
  left : Left w wx p ca n cap
theorem DI.to {w : World} {p : Nat} {ca : Option Addr} {n cap B T R : Nat} {a : Option Addr} {c : Nat} {S : Stm} {wx wy : World} (h : DI w p ca n cap B T R a c S wx) (hl : Left wx wy p ca n cap) : DI w p ca n cap B T R a c S wy := by
  have h1 := h.hp
  have h2 := h.hR
  have h3 := h.hB
  have ht : Tch (fun k => k = p) wx wy := Tch.of_grown hl.2.2 (fun k e => by cases e; rfl)
  exact ⟨h1, h2, h3, h.st.tch ht (fun k e => by omega), h.res.kept (ht.2 R h.res.lt (by omega)), h.left.trans hl⟩
theorem DI.on {w : World} {p : Nat} {ca : Option Addr} {n cap B T R : Nat} {a : Option Addr} {c : Nat} {S : Stm} {wx wy : World} (h : DI w p ca n cap B T R a c S wx) (hb : Below wx.heap.size wx wy) : DI w p ca n cap B T R a c S wy :=
  ⟨h.hp, h.hR, h.hB, h.st.on hb, h.res.on hb, h.left.below (hb.mono h.left.2.2.size) h.hp⟩
theorem DI.put {w : World} {p : Nat} {ca : Option Addr} {n cap B T R : Nat} {a a' : Option Addr} {c c' : Nat} {S S' : Stm} {wx w' : World} (h : DI w p ca n cap B T R a c S wx) (hb : Below wx.heap.size wx w') (ho : MOwn w' wx.heap.size (.agg #[.int .i64 S'.st, .string S'.text, .slice a' S'.rd.length c']) S') :
    MBox w' T (.int .i64 S.st) (.string S.text) (.slice a S.rd.length c) ∧ DI w p ca n cap B T R a' c' S' (((w'.setCell ⟨T, 0, none⟩ (.int .i64 S'.st)).setCell ⟨T, 1, none⟩ (.string S'.text)).setCell ⟨T, 2, none⟩ (.slice a' S'.rd.length c')) := by
  obtain ⟨h1, h2⟩ := h.st.put hb ho
  have hle := h.st.le
  have g1 := h.hR
  have g2 := h.hB
  have h3 := h.on hb
  refine ⟨h1, h.hp, h.hR, h.hB, h2, h3.res.kept (put3_otherM _ _ _ _ _ R (by omega)), ?_⟩
  exact ((h3.left.set h.hp (A := ⟨T, 0, none⟩) (by dsimp only; omega) _).set h.hp (A := ⟨T, 1, none⟩) (by dsimp only; omega) _).set h.hp (A := ⟨T, 2, none⟩) (by dsimp only; omega) _
set_option maxRecDepth 100000 in
set_option maxHeartbeats 8000000 in
theorem l14Stream_any (w : World) (p : Nat) (ca : Option Addr) (n cap : Nat) (hc : Cur w p ca n cap) (hcode : CodeAt w ca n p) (hn : n ≤ 1048576) (hp : p < w.heap.size) :
    Calls Try.prog 29 #[.pointer (some ⟨p, 0, none⟩)] w fun e w' => ∃ (v : Value) (S : Stm), e = .returned v ∧ DrM S ∧ MOwn w' w.heap.size v S ∧ Left w w' p ca n cap := by
  obtain ⟨w1, hw1⟩ : ∃ x, w.alloc (.cells #[.int .i64 0, .string ⟨#[]⟩, .slice none 0 0] 26) = x := ⟨_, rfl⟩
  have hb1 : Below w.heap.size w w1 := by rw [← hw1]; exact (Below.refl _ _).alloc (Nat.le_refl _) _
  have s1 : w1.heap.size = w.heap.size + 1 := by rw [← hw1]; simp
  obtain ⟨R, hR⟩ : ∃ R, w.heap.size = R := ⟨_, rfl⟩
  have hR1 : MBox w1 R (.int .i64 0) (.string ⟨#[]⟩) (.slice none 0 0) := by rw [← hw1, ← hR]; exact MBox.new _ _ _ _
  have hL1 : Left w w1 p ca n cap := (Left.refl hc hcode).below hb1 hp
  have HW1 : Hid (w.alloc (.cells #[.int .i64 0, .string ⟨#[]⟩, .slice none 0 0] 26) = w1) := hw1
  have cN := specStreamNew_any w1
  clear hw1 hc hcode
  go_enter Try.func29, Try.ntmps29
  go_wp2_with fail
  rw [HW1.out]
  refine cN.mono ?_
  rintro e w2 ⟨v2, rfl, ho2, hb2⟩
  obtain ⟨a2, c2, rfl, _⟩ := ho2.at
  clear cN HW1
  have S3 := StV.new ho2 hb2.size
  obtain ⟨w3, hw3⟩ : ∃ x, w2.alloc (.cells #[.int .i64 newM.st, .string newM.text, .slice a2 newM.rd.length c2] 26) = x := ⟨_, rfl⟩
  have hbw : Below w1.heap.size w1 w3 := by rw [← hw3]; exact hb2.alloc hb2.size _
  have HW3 : Hid (w2.alloc (.cells #[.int .i64 newM.st, .string newM.text, .slice a2 newM.rd.length c2] 26) = w3) := hw3
  obtain ⟨T, hT⟩ : ∃ T, w2.heap.size = T := ⟨_, rfl⟩
  obtain ⟨B, hBB⟩ : ∃ B, w1.heap.size = B := ⟨_, rfl⟩
  rw [hw3, hT, hBB] at S3
  have HD3 : Hid (DI w p ca n cap B T R a2 c2 newM w3) := ⟨hp, by omega, by omega, S3, hR1.on hbw, hL1.below (hbw.mono (by omega)) hp⟩
  have HRW : Hid (w.heap.size = R) := hR
  have HTT : Hid (w2.heap.size = T) := hT
  clear hw3 ho2 hb2 hR1 hL1 hbw hb1 s1 hT hBB hR S3
  go_wp2_with fail
  rw [HW3.out, HTT.out]
  clear HW3
  try rw [HRW.out]
  go_loopw [4] (fun i wr => Box (∃ (k : Nat) (a : Option Addr) (c : Nat) (S : Stm), k ≤ 14 ∧ i = .int .i64 k ∧ Hid (DrM S) ∧ Hid (DI w p ca n cap B T R a c S wr)))
    (fun i _ => 14 - (intOf i).toNat)
  case atStart => exact ⟨⟨0, _, _, newM, by omega, rfl, new_dr, HD3⟩⟩
  case round =>
    obtain ⟨k, a, c, S, hk, rfl, HOK, HD⟩ := hrel.out
    have HB : Hid (∀ wx, DI w p ca n cap B T R a c S wx → ∀ m : Int, 0 < m → m ≤ 1000 → Calls Try.prog 32 #[.pointer (some ⟨p, 0, none⟩), .int .i64 m] wx fun e w' => ∃ x : Nat, (x : Int) < m ∧ e = .returned (.int .i64 x) ∧ DI w p ca n cap B T R a c S w') := fun wx h m h0 h1 => (below_any wx p ca n cap m h.left.1 h.left.2.1 hn (by omega) (by omega)).mono (by rintro e w' ⟨x, hx, _, rfl, hl⟩; exact ⟨x, hx h0, rfl, h.to hl⟩)
    have HO : Hid (∀ wx, DI w p ca n cap B T R a c S wx → ∀ m : Int, 0 < m → m ≤ 1000 → Calls Try.prog 54 #[.pointer (some ⟨p, 0, none⟩), .int .i64 m] wx fun e w' => ∃ b : Bool, e = .returned (.bool b) ∧ DI w p ca n cap B T R a c S w') := fun wx h m h0 h1 => (once_any wx p ca n cap m h.left.1 h.left.2.1 hn (by omega) (by omega)).mono (by rintro e w' ⟨b, rfl, hl⟩; exact ⟨b, rfl, h.to hl⟩)
    have HT : Hid (∀ wx, DI w p ca n cap B T R a c S wx → ∀ m : Int, 0 ≤ m → m ≤ 100 → Calls Try.prog 59 #[.pointer (some ⟨p, 0, none⟩), .int .i64 m] wx fun e w' => ∃ s : ByteArray, s.size ≤ 100 ∧ e = .returned (.string s) ∧ DI w p ca n cap B T R a c S w') := fun wx h m h0 h1 => (text_any wx p ca n cap m h.left.1 h.left.2.1 hn (by omega) (by omega)).mono (by rintro e w' ⟨s, hs, rfl, hl⟩; exact ⟨s, by omega, rfl, h.to hl⟩)
    have HSZ : Hid (S.text.size ≤ 1048576 ∧ S.rd.length ≤ 1048576) := by have h1 := HOK.out.text; have h2 := HOK.out.len; exact ⟨by omega, by omega⟩
    clear hrel HD3
    have c14 := HB.out wr HD.out 14 (by omega) (by omega)
    go_wp2_with fail
    refine c14.mono ?_
    rintro e w4 ⟨x, hx, rfl, hD4⟩
    clear c14 HD
    by_cases hlt : (k : Int) < (x : Int)
    · have HK : Hid (k < 14) := by show _ < _; omega
      have c6 := HB.out w4 hD4 6 (by omega) (by omega)
      go_wp2_with fail
      refine c6.mono ?_
      rintro e w5 ⟨y, hy, rfl, hD5⟩
      clear c6 hD4 hlt hx
      have hdr : Below w5.heap.size w5 w5.drew := ⟨rfl, rfl, rfl, Nat.le_refl _, fun _ _ => rfl⟩
      have hD5d := hD5.on hdr
      obtain ⟨x0, x1, x2⟩ := hD5.st.box.cells
      have hy6 : y = 0 ∨ y = 1 ∨ y = 2 ∨ y = 3 ∨ y = 4 ∨ y = 5 := by omega
      clear hy hdr
      rcases hy6 with rfl | rfl | rfl | rfl | rfl | rfl
      · have HC : Hid (∀ wx, DI w p ca n cap B T R a c S wx → ∀ s : ByteArray, s.size ≤ 100 → Calls Try.prog 17 #[.agg #[.int .i64 S.st, .string S.text, .slice a S.rd.length c], .string s] wx fun e w' => ∃ v Q b, e = .returned (.tuple #[v, .bool b]) ∧ DrM Q ∧ MOwn w' wx.heap.size v Q ∧ Below wx.heap.size wx w') := fun wx h s hs => (specStreamPut_any wx a c S s h.st.at HSZ.out.1 HSZ.out.2 (by omega)).mono (by rintro e w' ⟨v, rfl, ho, hb⟩; exact ⟨v, _, _, rfl, put_dr HOK.out, ho, hb⟩)
        go_wp2_with fail
        go_region_law (first
          | (go_simp; go_at_call 32; refine (HB.out _ hD5d 6 (by omega) (by omega)).mono ?_; rintro e w6 ⟨z, hz, rfl, hD6⟩; have hw6 : IntKind.i64.wrap (1 + (z : Int)) = 1 + (z : Int) := (by rw [IntKind.wrap_i64]; omega); obtain ⟨y0, y1, y2⟩ := hD6.st.box.cells)
          | (go_simp; go_at_call 59; refine (HT.out _ hD6 _ (by omega) (by omega)).mono ?_; rintro e w7 ⟨s7, hs7, rfl, hD7⟩; obtain ⟨z0, z1, z2⟩ := hD7.st.box.cells)
          | (go_simp; go_at_call 17; refine (HC.out _ hD7 s7 hs7).mono ?_; rintro e w8 ⟨v8, Q, b8, rfl, hdr8, ho8, hb8⟩; obtain ⟨a8, c8, rfl, _⟩ := ho8.at; obtain ⟨hbx, hD9⟩ := hD7.put hb8 ho8; obtain ⟨u0, u1, u2⟩ := hbx.cells; obtain ⟨f0, f1, f2⟩ := (⟨hbx.thaw 0, hbx.thaw 1, hbx.thaw 2⟩ : _ ∧ _ ∧ _)))
        all_goals (
          have HX : Hid (DrM Q ∧ DI w p ca n cap B T R a8 c8 Q (((w8.setCell ⟨T, 0, none⟩ (.int .i64 Q.st)).setCell ⟨T, 1, none⟩ (.string Q.text)).setCell ⟨T, 2, none⟩ (.slice a8 Q.rd.length c8))) := ⟨hdr8, hD9⟩
          clear hD9 hbx ho8 hb8 x0 x1 x2 hD5 hD5d HB HO HT HC
          go_wp2_with fail
          refine ⟨?_, ?_⟩
          · exact ⟨⟨k + 1, a8, c8, Q, by have := HK.out; omega, by go_num, HX.out.1, HX.out.2⟩⟩
          · have := HK.out; simp [intOf]; omega)
      · have HC : Hid (∀ wx, DI w p ca n cap B T R a c S wx → ∀ s : ByteArray, s.size ≤ 100 → Calls Try.prog 17 #[.agg #[.int .i64 S.st, .string S.text, .slice a S.rd.length c], .string s] wx fun e w' => ∃ v Q b, e = .returned (.tuple #[v, .bool b]) ∧ DrM Q ∧ MOwn w' wx.heap.size v Q ∧ Below wx.heap.size wx w') := fun wx h s hs => (specStreamPut_any wx a c S s h.st.at HSZ.out.1 HSZ.out.2 (by omega)).mono (by rintro e w' ⟨v, rfl, ho, hb⟩; exact ⟨v, _, _, rfl, put_dr HOK.out, ho, hb⟩)
        go_wp2_with fail
        go_region_law (first
          | (go_simp; go_at_call 32; refine (HB.out _ hD5d 6 (by omega) (by omega)).mono ?_; rintro e w6 ⟨z, hz, rfl, hD6⟩; have hw6 : IntKind.i64.wrap (1 + (z : Int)) = 1 + (z : Int) := (by rw [IntKind.wrap_i64]; omega); obtain ⟨y0, y1, y2⟩ := hD6.st.box.cells)
          | (go_simp; go_at_call 59; refine (HT.out _ hD6 _ (by omega) (by omega)).mono ?_; rintro e w7 ⟨s7, hs7, rfl, hD7⟩; obtain ⟨z0, z1, z2⟩ := hD7.st.box.cells)
          | (go_simp; go_at_call 17; refine (HC.out _ hD7 s7 hs7).mono ?_; rintro e w8 ⟨v8, Q, b8, rfl, hdr8, ho8, hb8⟩; obtain ⟨a8, c8, rfl, _⟩ := ho8.at; obtain ⟨hbx, hD9⟩ := hD7.put hb8 ho8; obtain ⟨u0, u1, u2⟩ := hbx.cells; obtain ⟨f0, f1, f2⟩ := (⟨hbx.thaw 0, hbx.thaw 1, hbx.thaw 2⟩ : _ ∧ _ ∧ _)))
        all_goals (
          have HX : Hid (DrM Q ∧ DI w p ca n cap B T R a8 c8 Q (((w8.setCell ⟨T, 0, none⟩ (.int .i64 Q.st)).setCell ⟨T, 1, none⟩ (.string Q.text)).setCell ⟨T, 2, none⟩ (.slice a8 Q.rd.length c8))) := ⟨hdr8, hD9⟩
          clear hD9 hbx ho8 hb8 x0 x1 x2 hD5 hD5d HB HO HT HC
          go_wp2_with fail
          refine ⟨?_, ?_⟩
          · exact ⟨⟨k + 1, a8, c8, Q, by have := HK.out; omega, by go_num, HX.out.1, HX.out.2⟩⟩
          · have := HK.out; simp [intOf]; omega)
      · have HC : Hid (∀ wx, DI w p ca n cap B T R a c S wx → ∀ id : Int, id ≤ 5 → Calls Try.prog 22 #[.agg #[.int .i64 S.st, .string S.text, .slice a S.rd.length c], .int .i64 id] wx fun e w' => ∃ v Q b, e = .returned (.tuple #[v, .bool b]) ∧ DrM Q ∧ MOwn w' wx.heap.size v Q ∧ Below wx.heap.size wx w') := fun wx h id hi => (specStreamJoin_any wx a c S id h.st.at HSZ.out.1 HSZ.out.2).mono (by rintro e w' ⟨v, rfl, ho, hb⟩; exact ⟨v, _, _, rfl, join_dr HOK.out hi, ho, hb⟩)
        go_wp2_with fail
        go_region_law (first
          | (go_simp; go_at_call 32; refine (HB.out _ hD5d 5 (by omega) (by omega)).mono ?_; rintro e w6 ⟨z, hz, rfl, hD6⟩; have hw6 : IntKind.i64.wrap (1 + (z : Int)) = 1 + (z : Int) := (by rw [IntKind.wrap_i64]; omega); obtain ⟨y0, y1, y2⟩ := hD6.st.box.cells)
          | (go_simp; go_at_call 22; refine (HC.out _ hD6 _ (by omega)).mono ?_; rintro e w8 ⟨v8, Q, b8, rfl, hdr8, ho8, hb8⟩; obtain ⟨a8, c8, rfl, _⟩ := ho8.at; obtain ⟨hbx, hD9⟩ := hD6.put hb8 ho8; obtain ⟨u0, u1, u2⟩ := hbx.cells; obtain ⟨f0, f1, f2⟩ := (⟨hbx.thaw 0, hbx.thaw 1, hbx.thaw 2⟩ : _ ∧ _ ∧ _)))
        all_goals (
          have HX : Hid (DrM Q ∧ DI w p ca n cap B T R a8 c8 Q (((w8.setCell ⟨T, 0, none⟩ (.int .i64 Q.st)).setCell ⟨T, 1, none⟩ (.string Q.text)).setCell ⟨T, 2, none⟩ (.slice a8 Q.rd.length c8))) := ⟨hdr8, hD9⟩
          clear hD9 hbx ho8 hb8 x0 x1 x2 hD5 hD5d HB HO HT HC
          go_wp2_with fail
          refine ⟨?_, ?_⟩
          · exact ⟨⟨k + 1, a8, c8, Q, by have := HK.out; omega, by go_num, HX.out.1, HX.out.2⟩⟩
          · have := HK.out; simp [intOf]; omega)
      · have HC : Hid (∀ wx, DI w p ca n cap B T R a c S wx → ∀ id most : Int, Calls Try.prog 24 #[.agg #[.int .i64 S.st, .string S.text, .slice a S.rd.length c], .int .i64 id, .int .i64 most] wx fun e w' => ∃ v Q t b, e = .returned (.tuple #[v, .string t, .bool b]) ∧ DrM Q ∧ MOwn w' wx.heap.size v Q ∧ Below wx.heap.size wx w') := fun wx h id most => (specStreamRead_any wx a c S id most h.st.at HSZ.out.1 HSZ.out.2).mono (by rintro e w' ⟨v, rfl, ho, hb⟩; exact ⟨v, _, _, _, rfl, read_dr HOK.out, ho, hb⟩)
        go_wp2_with fail
        go_region_law (first
          | (go_simp; go_at_call 32; with_reducible refine Calls.mono (HB.out w5.drew hD5d 5 (by omega) (by omega)) ?_; rintro e w6 ⟨za, hza, rfl, hD6⟩; have hwza : IntKind.i64.wrap (1 + (za : Int)) = 1 + (za : Int) := (by rw [IntKind.wrap_i64]; omega); obtain ⟨y0, y1, y2⟩ := hD6.st.box.cells)
          | (go_simp; go_at_call 32; with_reducible refine Calls.mono (HB.out w6 hD6 6 (by omega) (by omega)) ?_; rintro e w7 ⟨zb, hzb, rfl, hD7⟩; have hwzb : IntKind.i64.wrap (1 + (zb : Int)) = 1 + (zb : Int) := (by rw [IntKind.wrap_i64]; omega); obtain ⟨y0, y1, y2⟩ := hD7.st.box.cells)
          | (go_simp; go_at_call 32; with_reducible refine Calls.mono (HB.out w5.drew hD5d 6 (by omega) (by omega)) ?_; rintro e w6 ⟨zb, hzb, rfl, hD6⟩; have hwzb : IntKind.i64.wrap (1 + (zb : Int)) = 1 + (zb : Int) := (by rw [IntKind.wrap_i64]; omega); obtain ⟨y0, y1, y2⟩ := hD6.st.box.cells)
          | (go_simp; go_at_call 32; with_reducible refine Calls.mono (HB.out w6 hD6 5 (by omega) (by omega)) ?_; rintro e w7 ⟨za, hza, rfl, hD7⟩; have hwza : IntKind.i64.wrap (1 + (za : Int)) = 1 + (za : Int) := (by rw [IntKind.wrap_i64]; omega); obtain ⟨y0, y1, y2⟩ := hD7.st.box.cells)
          | (go_simp; go_at_call 24; refine (HC.out _ hD7 _ _).mono ?_; rintro e w8 ⟨v8, Q, t8, b8, rfl, hdr8, ho8, hb8⟩; obtain ⟨a8, c8, rfl, _⟩ := ho8.at; obtain ⟨hbx, hD9⟩ := hD7.put hb8 ho8; obtain ⟨u0, u1, u2⟩ := hbx.cells; obtain ⟨f0, f1, f2⟩ := (⟨hbx.thaw 0, hbx.thaw 1, hbx.thaw 2⟩ : _ ∧ _ ∧ _)))
        all_goals (
          have HX : Hid (DrM Q ∧ DI w p ca n cap B T R a8 c8 Q (((w8.setCell ⟨T, 0, none⟩ (.int .i64 Q.st)).setCell ⟨T, 1, none⟩ (.string Q.text)).setCell ⟨T, 2, none⟩ (.slice a8 Q.rd.length c8))) := ⟨hdr8, hD9⟩
          clear hD9 hbx ho8 hb8 x0 x1 x2 hD5 hD5d HB HO HT HC
          go_wp2_with fail
          refine ⟨?_, ?_⟩
          · exact ⟨⟨k + 1, a8, c8, Q, by have := HK.out; omega, by go_num, HX.out.1, HX.out.2⟩⟩
          · have := HK.out; simp [intOf]; omega)
      · have HC : Hid (∀ wx, DI w p ca n cap B T R a c S wx → ∀ id : Int, Calls Try.prog 27 #[.agg #[.int .i64 S.st, .string S.text, .slice a S.rd.length c], .int .i64 id] wx fun e w' => ∃ v Q, e = .returned v ∧ DrM Q ∧ MOwn w' wx.heap.size v Q ∧ Below wx.heap.size wx w') := fun wx h id => (specStreamLeave_any wx a c S id h.st.at HSZ.out.2).mono (by rintro e w' ⟨v, rfl, ho, hb⟩; exact ⟨v, _, rfl, leave_dr HOK.out, ho, hb⟩)
        go_wp2_with fail
        go_region_law (first
          | (go_simp; go_at_call 32; refine (HB.out _ hD5d 5 (by omega) (by omega)).mono ?_; rintro e w6 ⟨z, hz, rfl, hD6⟩; have hw6 : IntKind.i64.wrap (1 + (z : Int)) = 1 + (z : Int) := (by rw [IntKind.wrap_i64]; omega); obtain ⟨y0, y1, y2⟩ := hD6.st.box.cells)
          | (go_simp; go_at_call 27; refine (HC.out _ hD6 _).mono ?_; rintro e w8 ⟨v8, Q, rfl, hdr8, ho8, hb8⟩; obtain ⟨a8, c8, rfl, _⟩ := ho8.at; obtain ⟨hbx, hD9⟩ := hD6.put hb8 ho8; obtain ⟨u0, u1, u2⟩ := hbx.cells; obtain ⟨f0, f1, f2⟩ := (⟨hbx.thaw 0, hbx.thaw 1, hbx.thaw 2⟩ : _ ∧ _ ∧ _)))
        all_goals (
          have HX : Hid (DrM Q ∧ DI w p ca n cap B T R a8 c8 Q (((w8.setCell ⟨T, 0, none⟩ (.int .i64 Q.st)).setCell ⟨T, 1, none⟩ (.string Q.text)).setCell ⟨T, 2, none⟩ (.slice a8 Q.rd.length c8))) := ⟨hdr8, hD9⟩
          clear hD9 hbx ho8 hb8 x0 x1 x2 hD5 hD5d HB HO HT HC
          go_wp2_with fail
          refine ⟨?_, ?_⟩
          · exact ⟨⟨k + 1, a8, c8, Q, by have := HK.out; omega, by go_num, HX.out.1, HX.out.2⟩⟩
          · have := HK.out; simp [intOf]; omega)
      · have cO := HO.out w5 hD5 6 (by omega) (by omega)
        go_wp2_with fail
        refine cO.mono ?_
        rintro e w6 ⟨bo, rfl, hD6⟩
        clear cO hD5 hD5d x0 x1 x2
        cases bo with
        | false =>
          have HX : Hid (DrM S ∧ DI w p ca n cap B T R a c S w6) := ⟨HOK.out, hD6⟩
          clear hD6 HB HO HT
          go_wp2_with fail
          go_roundw
          case rel =>
            try ((repeat apply Exists.intro); refine ⟨?_, rfl⟩)
            exact ⟨⟨k + 1, a, c, S, by have := HK.out; omega, by go_num, HX.out.1, HX.out.2⟩⟩
          case measure => have := HK.out; simp [intOf]; omega
        | true =>
          have hD5 := hD6
          have hdr : Below w6.heap.size w6 w6.drew := ⟨rfl, rfl, rfl, Nat.le_refl _, fun _ _ => rfl⟩
          have hD5d := hD6.on hdr
          obtain ⟨x0, x1, x2⟩ := hD5.st.box.cells
          have HC : Hid (∀ wx, DI w p ca n cap B T R a c S wx → ∀ br : Bool, Calls Try.prog 20 #[.agg #[.int .i64 S.st, .string S.text, .slice a S.rd.length c], .bool br] wx fun e w' => ∃ v Q b, e = .returned (.tuple #[v, .bool b]) ∧ DrM Q ∧ MOwn w' wx.heap.size v Q ∧ Below wx.heap.size wx w') := fun wx h br => (specStreamEnd_any wx a c S br h.st.at HSZ.out.1 HSZ.out.2).mono (by rintro e w' ⟨v, rfl, ho, hb⟩; exact ⟨v, _, _, rfl, end_dr HOK.out, ho, hb⟩)
          go_wp2_with fail
          go_region_law (first
            | (go_simp; go_at_call 54; refine (HO.out _ hD5d 2 (by omega) (by omega)).mono ?_; rintro e w7 ⟨bb, rfl, hD7⟩; obtain ⟨y0, y1, y2⟩ := hD7.st.box.cells)
            | (go_simp; go_at_call 20; refine (HC.out _ hD7 bb).mono ?_; rintro e w8 ⟨v8, Q, b8, rfl, hdr8, ho8, hb8⟩; obtain ⟨a8, c8, rfl, _⟩ := ho8.at; obtain ⟨hbx, hD9⟩ := hD7.put hb8 ho8; obtain ⟨u0, u1, u2⟩ := hbx.cells; obtain ⟨f0, f1, f2⟩ := (⟨hbx.thaw 0, hbx.thaw 1, hbx.thaw 2⟩ : _ ∧ _ ∧ _)))
          all_goals (
            have HX : Hid (DrM Q ∧ DI w p ca n cap B T R a8 c8 Q (((w8.setCell ⟨T, 0, none⟩ (.int .i64 Q.st)).setCell ⟨T, 1, none⟩ (.string Q.text)).setCell ⟨T, 2, none⟩ (.slice a8 Q.rd.length c8))) := ⟨hdr8, hD9⟩
            clear hD9 hbx ho8 hb8 x0 x1 x2 hD5 hD5d HB HO HT HC
            go_wp2_with fail
            refine ⟨?_, ?_⟩
            · exact ⟨⟨k + 1, a8, c8, Q, by have := HK.out; omega, by go_num, HX.out.1, HX.out.2⟩⟩
            · have := HK.out; simp [intOf]; omega)
    · have HX : Hid (DrM S ∧ DI w p ca n cap B T R a c S w4) := ⟨HOK.out, hD4⟩
      obtain ⟨x0, x1, x2⟩ := hD4.st.box.cells
      obtain ⟨r0, r1, r2⟩ := hD4.res.cells
      obtain ⟨f0, f1, f2⟩ := (⟨hD4.res.thaw 0, hD4.res.thaw 1, hD4.res.thaw 2⟩ : _ ∧ _ ∧ _)
      clear hD4 HB HO HT
      go_wp2_with fail
      have hD := HX.out.2
      obtain ⟨q0, q1, q2⟩ := (hD.res.put (.int .i64 S.st) (.string S.text) (.slice a S.rd.length c)).cells
      have hs := HRW.out
      have hR' := hD.hB
      refine bodyPost_ret (v := .agg #[.int .i64 S.st, .string S.text, .slice a S.rd.length c]) (by simp [results, Try.results29, go_sem, q0, q1, q2]) rfl ⟨_, S, rfl, HX.out.1, (hD.st.mown.put3 hD.res _ _ _).mono (by omega), ?_⟩
      exact ((hD.left.set hD.hp (A := ⟨R, 0, none⟩) (by dsimp only; omega) _).set hD.hp (A := ⟨R, 1, none⟩) (by dsimp only; omega) _).set hD.hp (A := ⟨R, 2, none⟩) (by dsimp only; omega) _
set_option maxRecDepth 100000 in
set_option maxHeartbeats 2000000 in
theorem drawStream_any (w : World) (ca : Option Addr) (n cap : Nat) (hcode : CodeAt w ca n w.heap.size) (hn : n ≤ 1048576) :
    Calls Try.prog 7 #[.slice ca n cap] w fun e w' => ∃ (v : Value) (S : Stm), e = .returned v ∧ DrM S ∧ MOwn w' w.heap.size v S ∧ Below w.heap.size w w' := by
  obtain ⟨w0, hw0⟩ : ∃ x, w.alloc (.cells #[.int .i64 0, .string ⟨#[]⟩, .slice none 0 0] 26) = x := ⟨_, rfl⟩
  have hb0 : Below w.heap.size w w0 := by rw [← hw0]; exact (Below.refl _ _).alloc (Nat.le_refl _) _
  have s0 : w0.heap.size = w.heap.size + 1 := by rw [← hw0]; simp
  have hR0 : MBox w0 w.heap.size (.int .i64 0) (.string ⟨#[]⟩) (.slice none 0 0) := by rw [← hw0]; exact MBox.new _ _ _ _
  have hcd : CodeAt w0 ca n w0.heap.size := by
    intro j hj
    obtain ⟨b, off, z, h1, h2, h3, h4⟩ := hcode j hj
    exact ⟨b, off, z, h1, by omega, (hb0.cell h2).trans h3, h4⟩
  have c1 := new_any w0 ca n cap hcd hn
  have HW : Hid (w.alloc (.cells #[.int .i64 0, .string ⟨#[]⟩, .slice none 0 0] 26) = w0) := hw0
  clear hw0 hcode hcd
  go_enter Try.func7, Try.ntmps7
  go_wp2_with fail
  rw [HW.out]
  refine c1.mono ?_
  rintro e w1 ⟨p, rfl, hp1, hp2, hcur, hcd, hb1⟩
  have c2 := l14Stream_any w1 p ca n cap hcur hcd hn hp1
  clear c1
  go_wp2_with fail
  refine c2.mono ?_
  rintro e w2 ⟨v2, S, rfl, hok, ho2, hl2⟩
  obtain ⟨a, c, rfl, _⟩ := ho2.at
  have hbw1 : Below w.heap.size w w1 := hb0.trans (hb1.mono hb0.size)
  have hbw2 := below_of_left hbw1 (by omega) hl2
  have hR2 : MBox w2 w.heap.size (.int .i64 0) (.string ⟨#[]⟩) (.slice none 0 0) := (hR0.on hb1).kept (hl2.2.2.block _ (hR0.on hb1).lt (fun e => by cases e; omega))
  obtain ⟨r0, r1, r2⟩ := hR2.cells
  obtain ⟨f0, f1, f2⟩ := (⟨hR2.thaw 0, hR2.thaw 1, hR2.thaw 2⟩ : _ ∧ _ ∧ _)
  have HO : Hid (MOwn w2 w1.heap.size (.agg #[.int .i64 S.st, .string S.text, .slice a S.rd.length c]) S ∧ DrM S) := ⟨ho2, hok⟩
  have hs := hbw1.size
  clear c2 ho2 hok hR0 hl2
  go_wp2_with fail
  obtain ⟨q0, q1, q2⟩ := (hR2.put (.int .i64 S.st) (.string S.text) (.slice a S.rd.length c)).cells
  refine bodyPost_ret (v := .agg #[.int .i64 S.st, .string S.text, .slice a S.rd.length c]) (by simp [results, Try.results7, go_sem, q0, q1, q2]) rfl ⟨_, S, rfl, HO.out.2, (HO.out.1.put3 hR2 _ _ _).mono (by omega), Below.put3M hbw2 (Nat.le_refl _) _ _ _⟩
end Go.Proofs.Ytmpnjijbahjinaf
