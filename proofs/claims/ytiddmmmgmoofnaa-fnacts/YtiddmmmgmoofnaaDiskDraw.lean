/- A disk is drawn, right or spoilt. -/
import Derived.Test.YtiddmmmgmoofnaaActDraw
import Derived.Test.YtiddmmmgmoofnaaGatherJ
import Derived.Test.YtiddmmmgmoofnaaFigPlainJ
import Derived.Laws.Concat
namespace Go.Proofs.Ytiddmmmgmoofnaa
open Go.RowKit Go.Sort

/-- Files of bounded names and texts. -/
def Sm (L : List Fil) : Prop := ∀ f ∈ L, f.nm.size ≤ 9 ∧ f.tx.size ≤ 20001
theorem Sm.put {L : List Fil} {f : Fil} (h : Sm L) (h1 : f.nm.size ≤ 9) (h2 : f.tx.size ≤ 20001) : Sm (putL L f) := by
  intro g hg
  rcases mem_putL.1 hg with rfl | ⟨hg, _⟩
  · exact ⟨h1, h2⟩
  · exact h g hg
theorem Sm.snoc {L : List Fil} {f : Fil} (h : Sm L) (hf : f.nm.size ≤ 9 ∧ f.tx.size ≤ 20001) : Sm (L ++ [f]) := by
  intro g hg
  rcases List.mem_append.1 hg with hg | hg
  · exact h g hg
  · simp at hg; subst hg; exact hf
theorem Sm.modify {L : List Fil} (h : Sm L) (k : Nat) (F : Fil → Fil) (hF : ∀ f, f.nm.size ≤ 9 ∧ f.tx.size ≤ 20001 → (F f).nm.size ≤ 9 ∧ (F f).tx.size ≤ 20001) : Sm (L.modify k F) := by
  intro g hg
  obtain ⟨j, hj, rfl⟩ := List.getElem_of_mem hg
  rw [List.getElem_modify]
  have h1 := h _ (List.getElem_mem (by simpa using hj))
  split
  · exact hF _ h1
  · exact h1

/-- What stands while a disk is drawn by a cursor that was there. -/
structure Dj (w0 : World) (R V p : Nat) (ca : Option Addr) (n cap : Nat) (v : Value) (L : List Fil) (wi : World) : Prop where
  own : OwnF wi (V + 1) 36 v L
  bV : DBox wi V v
  bR : DBox wi R (.slice none 0 0)
  left : Left w0 wi p ca n cap
  hp : p < w0.heap.size
  wR : w0.heap.size ≤ R
  RV : R < V
theorem Dj.next {w0 : World} {R V p : Nat} {ca : Option Addr} {n cap : Nat} {v : Value} {L : List Fil} {wi wj : World} (h : Dj w0 R V p ca n cap v L wi) (hb : Below wi.heap.size wi wj) : Dj w0 R V p ca n cap v L wj where
  own := h.own.below hb (Nat.le_refl _)
  bV := h.bV.on hb
  bR := h.bR.on hb
  left := h.left.below (hb.mono h.left.2.2.size) h.hp
  hp := h.hp
  wR := h.wR
  RV := h.RV
theorem Dj.go {w0 : World} {R V p : Nat} {ca : Option Addr} {n cap : Nat} {v : Value} {L : List Fil} {wi wj : World} (h : Dj w0 R V p ca n cap v L wi) (hl : Left wi wj p ca n cap) : Dj w0 R V p ca n cap v L wj where
  own := h.own.grown hl.2.2 fun k hk e => by
    have h1 := (h.own.lt k hk).1
    have h2 := h.hp
    have h3 := h.wR
    have h4 := h.RV
    simp at e
    omega
  bV := h.bV.grown hl.2.2 fun k e => by have := h.hp; have := h.wR; have := h.RV; simp at e; omega
  bR := h.bR.grown hl.2.2 fun k e => by have := h.hp; have := h.wR; simp at e; omega
  left := h.left.trans hl
  hp := h.hp
  wR := h.wR
  RV := h.RV
theorem Dj.store {w0 : World} {R V p : Nat} {ca : Option Addr} {n cap : Nat} {v u : Value} {L M : List Fil} {wi : World} (h : Dj w0 R V p ca n cap v L wi) (ho : OwnF wi (V + 1) 36 u M) : Dj w0 R V p ca n cap u M (wi.setCell ⟨V, 0, none⟩ u) where
  own := ho.setBox h.bV
  bV := h.bV.set u
  bR := (heap_setCell_other _ _ _ _ (by have := h.RV; simp; omega)).trans h.bR
  left := h.left.set h.hp (by have := h.wR; have := h.RV; simp; omega) _
  hp := h.hp
  wR := h.wR
  RV := h.RV
/-- A row of the disk's own has been written, or has grown. -/
theorem Dj.row {w0 : World} {R V p : Nat} {ca : Option Addr} {n cap : Nat} {v : Value} {L M : List Fil} {wi wj : World} (h : Dj w0 R V p ca n cap v L wi) (ho : OwnF wj (V + 1) 36 v M) (hg : wi.grownBy wj v.ownBlock) : Dj w0 R V p ca n cap v M wj where
  own := ho
  bV := h.bV.grown hg (h.bV.ne h.own)
  bR := h.bR.grown hg (h.bR.ne h.own)
  left := by
    have hs := h.left.2.2.size
    refine h.left.below ⟨hg.os, hg.tape, hg.output, hg.size, fun k hk => hg.block k (by omega) fun e => ?_⟩ h.hp
    have := (h.own.lt k e.symm).1
    have := h.wR
    have := h.RV
    omega
  hp := h.hp
  wR := h.wR
  RV := h.RV
/-- The row has grown, and is stored back. -/
theorem Dj.gather {w0 : World} {R V p : Nat} {ca : Option Addr} {n cap : Nat} {v u : Value} {L M : List Fil} {wi W w2 : World} (h : Dj w0 R V p ca n cap v L wi) (hW : Below wi.heap.size wi W) (hg : W.grownBy w2 v.ownBlock) (ho : OwnF w2 (V + 1) 36 u M) : DBox w2 V v ∧ Dj w0 R V p ca n cap u M (w2.setCell ⟨V, 0, none⟩ u) := by
  have h1 := h.next hW
  have bV := h1.bV.grown hg (h1.bV.ne h1.own)
  have bR := h1.bR.grown hg (h1.bR.ne h1.own)
  have left : Left w0 w2 p ca n cap := by
    have hs := h1.left.2.2.size
    refine h1.left.below ⟨hg.os, hg.tape, hg.output, hg.size, fun k hk => hg.block k (by omega) fun e => ?_⟩ h.hp
    have := (h1.own.lt k e.symm).1
    have := h.wR
    have := h.RV
    omega
  exact ⟨bV, ho.setBox bV, bV.set u, (heap_setCell_other _ _ _ _ (by have := h.RV; simp; omega)).trans bR, left.set h.hp (by have := h.wR; have := h.RV; simp; omega) _, h.hp, h.wR, h.RV⟩
theorem Dj.below {w0 : World} {R V p : Nat} {ca : Option Addr} {n cap : Nat} {v : Value} {L : List Fil} {wi : World} (h : Dj w0 R V p ca n cap v L wi) (hn : n ≤ 1048576) (m : Int) (hm1 : 0 < m) (hm2 : m ≤ 5000) :
    Calls Try.prog 22 #[.pointer (some ⟨p, 0, none⟩), .int .i64 m] wi fun e w' => ∃ x : Nat, (x : Int) < m ∧ e = .returned (.int .i64 x) ∧ Dj w0 R V p ca n cap v L w' :=
  (below_any wi p ca n cap m h.left.1 h.left.2.1 hn (by omega) (by omega)).mono fun _ _ ⟨x, h1, _, h2, h3⟩ => ⟨x, h1 hm1, h2, h.go h3⟩
theorem Dj.text {w0 : World} {R V p : Nat} {ca : Option Addr} {n cap : Nat} {v : Value} {L : List Fil} {wi : World} (h : Dj w0 R V p ca n cap v L wi) (hn : n ≤ 1048576) (m : Nat) (hm2 : m ≤ 5000) :
    Calls Try.prog 23 #[.pointer (some ⟨p, 0, none⟩), .int .i64 (m : Int)] wi fun e w' => ∃ s : ByteArray, s.size ≤ m ∧ e = .returned (.string s) ∧ Dj w0 R V p ca n cap v L w' :=
  (text_any wi p ca n cap (m : Int) h.left.1 h.left.2.1 hn (by omega) (by omega)).mono fun _ _ ⟨x, h1, h2, h3⟩ => ⟨x, by omega, h2, h.go h3⟩
theorem Dj.named {w0 : World} {R V p : Nat} {ca : Option Addr} {n cap : Nat} {v : Value} {L : List Fil} {wi : World} (h : Dj w0 R V p ca n cap v L wi) (hn : n ≤ 1048576) :
    Calls Try.prog 25 #[.pointer (some ⟨p, 0, none⟩)] wi fun e w' => ∃ s : ByteArray, s.size ≤ 8 ∧ e = .returned (.string s) ∧ Dj w0 R V p ca n cap v L w' :=
  (named_any wi p ca n cap h.left.1 h.left.2.1 hn h.left.1.lt).mono fun _ _ ⟨x, h1, h2, h3⟩ => ⟨x, by simp [nOk] at h1; omega, h2, h.go h3⟩
theorem Dj.put {w0 : World} {R V p : Nat} {ca : Option Addr} {n cap : Nat} {v : Value} {L : List Fil} {wi : World} (h : Dj w0 R V p ca n cap v L wi) (hl : L.length ≤ 1048576) (nm tx : ByteArray) (kp : Int) :
    Calls Try.prog 24 #[.agg #[v], .agg #[.string nm, .string tx, .int .i64 kp]] wi fun e w' => ∃ (a : Option Addr) (m c : Nat), e = .returned (.agg #[.slice a m c]) ∧ OwnF w' (V + 1) 36 (.slice a m c) (putL L ⟨nm, tx, kp⟩) ∧ Dj w0 R V p ca n cap v L w' := by
  obtain ⟨a, c, rfl, _, _, hA, _⟩ := h.own.shape
  exact (l03Put_any wi a c L ⟨nm, tx, kp⟩ hA hl).mono fun _ _ ⟨u, h1, h2, h3⟩ => by
    obtain ⟨a', c', rfl, _⟩ := h2.shape
    exact ⟨a', _, c', h1, h2.mono (by have := h.bV.lt; omega), h.next h3⟩
theorem Dj.pickInt {w0 : World} {R V p : Nat} {ca : Option Addr} {n cap : Nat} {v : Value} {L : List Fil} {wi : World} (h : Dj w0 R V p ca n cap v L wi) (hn : n ≤ 1048576) (base : Nat) (u : Value) (zs : List Int) (hown : OwnV wi base 3 u (ints zs)) (hpb : p < base) (h0 : 0 < zs.length) (h1 : zs.length ≤ 1000000) :
    Calls Try.prog 44 #[.pointer (some ⟨p, 0, none⟩), u] wi fun e w' => ∃ z : Int, e = .returned (.int .i64 z) ∧ Dj w0 R V p ca n cap v L w' :=
  (pickInt_any wi p ca n cap base u zs h.left.1 h.left.2.1 hn hown hpb h0 h1).mono fun _ _ ⟨x, _, h2, h3⟩ => ⟨x, h2, h.go h3⟩
theorem Dj.pick {w0 : World} {R V p : Nat} {ca : Option Addr} {n cap : Nat} {v : Value} {L : List Fil} {wi : World} (h : Dj w0 R V p ca n cap v L wi) (hn : n ≤ 1048576) (base : Nat) (u : Value) (zs : List ByteArray) (hown : OwnV wi base 9 u (strs zs)) (hpb : p < base) (h0 : 0 < zs.length) (h1 : zs.length ≤ 1000000) :
    Calls Try.prog 42 #[.pointer (some ⟨p, 0, none⟩), u] wi fun e w' => ∃ z ∈ zs, e = .returned (.string z) ∧ Dj w0 R V p ca n cap v L w' :=
  (pick_any wi p ca n cap base u zs h.left.1 h.left.2.1 hn hown hpb h0 h1).mono fun _ _ ⟨x, hx, h2, h3⟩ => ⟨x, hx, h2, h.go h3⟩

theorem dec_small : ∀ b < 32, (⟨(digF 20 (100 + b) []).toArray⟩ : ByteArray).size ≤ 8 := by decide
def spoilL : List ByteArray := [⟨#[]⟩, ⟨#[49, 50, 51, 52, 53, 54, 55, 56]⟩, ⟨#[49, 50, 51, 52, 53, 54, 55, 56, 57]⟩]
theorem spoilL_ok : ∀ z ∈ spoilL, z.size ≤ 9 := by decide
theorem OwnF.cellsAt {w : World} {base : Nat} {e : TypeId} {g n cap : Nat} {L : List Fil} (h : OwnF w base e (.slice (some ⟨g, 0, none⟩) n cap) L) (j : Nat) (hj : j < L.length) {f : Fil} (hf : L[j] = f) :
    (w.cell? ⟨g, j * 3, none⟩ = some (.string f.nm) ∧ w.cell? ⟨g, j * 3 + 1, none⟩ = some (.string f.tx) ∧ w.cell? ⟨g, j * 3 + 2, none⟩ = some (.int .i64 f.kp)) ∧ w.frozen? ⟨g, j * 3, none⟩ = false ∧ w.frozen? ⟨g, j * 3 + 1, none⟩ = false ∧ w.frozen? ⟨g, j * 3 + 2, none⟩ = false := by
  obtain ⟨a, cap', hv, _, _, hA, hz⟩ := h.shape
  obtain ⟨ha, _, _, hfz⟩ := hz g rfl
  obtain ⟨g', off, ha', _, h0, h1, h2⟩ := hA j hj
  rw [ha] at ha'
  simp only [Option.some.injEq, Addr.mk.injEq, and_true] at ha'
  obtain ⟨rfl, rfl⟩ := ha'
  simp only [Nat.zero_add] at h0 h1 h2
  rw [hf] at h0 h1 h2
  exact ⟨⟨h0, h1, h2⟩, hfz _, hfz _, hfz _⟩

set_option maxHeartbeats 8000000 in
theorem l03Disk_any (w : World) (p : Nat) (ca : Option Addr) (n cap : Nat) (hc : Cur w p ca n cap) (hcode : CodeAt w ca n p) (hn : n ≤ 1048576) :
    Calls Try.prog 30 #[.pointer (some ⟨p, 0, none⟩)] w fun e w' => ∃ (v : Value) (L : List Fil), e = .returned (.agg #[v]) ∧ L.length ≤ 31 ∧ Sm L ∧ OwnF w' w.heap.size 36 v L ∧ Left w w' p ca n cap := by
  have hp := hc.lt
  have HD : Hid (Dj w w.heap.size (w.heap.size + 1) p ca n cap (.slice none 0 0) [] ((w.alloc (.cells #[.slice none 0 0] 26)).alloc (.cells #[.slice none 0 0] 26))) := by
    have hl0 : Left w (w.alloc (.cells #[.slice none 0 0] 26)) p ca n cap := ⟨hc.alloc hp _, hcode.alloc _, World.grownBy_alloc _ _ _⟩
    refine ⟨OwnF.nil _ _ _, ?_, (DBox.new _ _).on ((Below.refl _ _).alloc (Nat.le_refl _) _), hl0.plus hp _, hp, Nat.le_refl _, Nat.lt_succ_self _⟩
    have := DBox.new (w.alloc (.cells #[.slice none 0 0] 26)) (.slice none 0 0)
    simpa using this
  obtain ⟨V, hV⟩ : ∃ V, w.heap.size + 1 = V := ⟨_, rfl⟩
  rw [hV] at HD
  clear hc hcode
  go_enter Try.func30, Try.ntmps30
  go_wp2
  go_loopw [4] (fun i wr => Box (∃ (k : Nat) (a : Option Addr) (m c : Nat) (L : List Fil), k ≤ 5 ∧ i = .int .i64 k ∧ m ≤ k ∧ Hid (L.length = m) ∧ Hid (Sm L) ∧ Dj w w.heap.size V p ca n cap (.slice a m c) L wr))
    (fun i _ => 5 - (intOf i).toNat)
  case atStart => exact ⟨⟨0, none, 0, 0, [], by omega, rfl, by omega, rfl, by simp [Hid, Sm], HD.out⟩⟩
  case round =>
    obtain ⟨k, a, m, c, L, hk, rfl, hl, HLm, HOK, hd⟩ := hrel.out
    clear hrel HD
    go_wp2_with fail
    refine (hd.below hn 6 (by omega) (by omega)).mono ?_
    rintro e w2 ⟨x, hx, rfl, hd2⟩
    clear hd
    by_cases hlt : (k : Int) < (x : Int)
    · go_wp2_with fail
      refine (hd2.below hn 9 (by omega) (by omega)).mono ?_
      rintro e w3 ⟨y, hy, rfl, hd3⟩
      clear hd2
      go_wp2_with fail
      refine (hd3.text hn y (by omega)).mono ?_
      rintro e w4 ⟨t, ht, rfl, hd4⟩
      clear hd3
      obtain ⟨tz, htz⟩ : ∃ tz, t.size = tz := ⟨_, rfl⟩
      have htz2 : tz ≤ y := by omega
      have HT : Hid (t.size = tz) := htz
      have hwr : IntKind.i64.wrap ((tz : Int) + 1) = (tz : Int) + 1 := by rw [IntKind.wrap_i64]; omega
      have q := hd4.bV.cell
      go_wp2
      replace hd4 := hd4.next (wj := w4.drew) ⟨rfl, rfl, rfl, Nat.le_refl _, fun _ _ => rfl⟩
      go_region_law (go_simp; first
        | (go_at_call 25; refine (hd4.named hn).mono ?_; clear hd4 q; rintro e w5 ⟨nm, hnm, rfl, hd4⟩; have q := hd4.bV.cell)
        | (go_at_call 22; refine (hd4.below hn ((tz : Int) + 1) (by omega) (by omega)).mono ?_; clear hd4 q; rintro e w6 ⟨z, hz, rfl, hd4⟩; have q := hd4.bV.cell)
        | (go_at_call 24; refine (hd4.put (by have := HLm.out; omega) nm t (z : Int)).mono ?_; clear hd4 q; rintro e w7 ⟨u, um, uc, rfl, ho7, hd4⟩; have q := hd4.bV.cell; have qz := hd4.bV.thaw))
      all_goals (
        have HS := hd4.store ho7
        have hpl := putL_len L ⟨nm, t, (z : Int)⟩
        have HS2 : Hid (Sm (putL L ⟨nm, t, (z : Int)⟩)) := Sm.put HOK.out (by show nm.size ≤ 9; omega) (by have := HT.out; show t.size ≤ 20001; omega)
        obtain ⟨_, _, hve, _⟩ := ho7.at
        have hum : Hid ((putL L ⟨nm, t, (z : Int)⟩).length = um) := by show _ = _; simp at hve; omega
        have hum2 : um ≤ k + 1 := by have := HLm.out; have := hum.out; omega
        clear ho7 hd4 hve hpl
        go_wp2
        refine ⟨?_, ?_⟩
        · exact ⟨⟨k + 1, _, um, _, _, by omega, by go_num, hum2, hum, HS2, HS⟩⟩
        · simp [intOf]; omega)
    · have q := hd2.bV.cell
      have r := hd2.bR.cell
      have rz := hd2.bR.thaw
      by_cases hm0 : m = 0
      · subst hm0
        have q5 := cell_set_same (v := .slice a 0 c) r
        go_wp2
        refine bodyPost_ret (v := .agg #[.slice a 0 c]) (by simp [results, Try.results30, go_sem, q5]) rfl ⟨_, L, rfl, by have := HLm.out; omega, HOK.out, ?_, ?_⟩
        · exact (hd2.own.mono (by have := hd2.RV; omega)).setBox hd2.bR
        · exact hd2.left.set hd2.hp (by simp) _
      · have hmi : ((m : Int) == 0) = false := by simp; omega
        go_wp2_with fail
        refine (hd2.below hn (m : Int) (by omega) (by omega)).mono ?_
        rintro e w3 ⟨j, hj, rfl, hd3⟩
        clear hd2 q r rz
        go_wp2_with fail
        refine (hd3.below hn 40 (by omega) (by omega)).mono ?_
        rintro e w4 ⟨y, hy, rfl, hd4⟩
        clear hd3
        obtain ⟨g, rfl, hg⟩ := hd4.own.addr (by have := HLm.out; omega)
        have q := hd4.bV.cell
        have qz := hd4.bV.thaw
        have r := hd4.bR.cell
        have rz := hd4.bR.thaw
        have hjL : j < L.length := by have := HLm.out; omega
        have hj1 : (0 : Int) ≤ (j : Int) := by omega
        rcases (show y = 0 ∨ y = 1 ∨ y = 2 ∨ y = 3 ∨ y = 4 ∨ 5 ≤ y by omega) with hy0 | hy0 | hy0 | hy0 | hy0 | hy0
        · have k0 : ((y : Int) == 0) = true := by simp; omega
          obtain ⟨⟨fn, ft, fk⟩, hf⟩ : ∃ f, L[j] = f := ⟨_, rfl⟩
          obtain ⟨⟨e0, e1, e2⟩, f0, f1, f2⟩ := hd4.own.cellsAt j hjL hf
          obtain ⟨tz, htz⟩ : ∃ tz, ft.size = tz := ⟨_, rfl⟩
          have htb : tz ≤ 20001 := by rw [← htz]; have := (HOK.out _ (List.getElem_mem hjL)).2; rw [hf] at this; exact this
          have hwr : IntKind.i64.wrap ((tz : Int) + 1) = (tz : Int) + 1 := by rw [IntKind.wrap_i64]; omega
          have hlen : L.length ≤ 31 := by have := HLm.out; omega
          have HC : Hid (∀ wi, OwnF wi (V + 1) 36 (.slice (some ⟨g, 0, none⟩) m c) L → (wi.cell? ⟨g, j * 3, none⟩ = some (.string fn) ∧ wi.cell? ⟨g, j * 3 + 1, none⟩ = some (.string ft) ∧ wi.cell? ⟨g, j * 3 + 2, none⟩ = some (.int .i64 fk)) ∧ wi.frozen? ⟨g, j * 3, none⟩ = false ∧ wi.frozen? ⟨g, j * 3 + 1, none⟩ = false ∧ wi.frozen? ⟨g, j * 3 + 2, none⟩ = false) := fun wi h => h.cellsAt j hjL hf
          clear hy0 hjL hf
          go_wp2
          have hd5 := hd4.next ((bdrew w4).alloc (Nat.le_refl _) (.cells #[.int .i64 (-1), .int .i64 ((tz : Int) + 1)] 3))
          have ho5 : OwnV (w4.drew.alloc (.cells #[.int .i64 (-1), .int .i64 ((tz : Int) + 1)] 3)) w4.heap.size 3 (.slice (some ⟨w4.heap.size, 0, none⟩) 2 2) (ints [-1, (tz : Int) + 1]) := World.ownsRow_lit (base := w4.heap.size) (e := 3) (size := 1) w4.drew (ints [-1, (tz : Int) + 1]).toArray 2 (Nat.le_refl _) (by simp [maxLen]) (by rfl)
          have hpb : p < w4.heap.size := hd4.left.1.lt
          have hd6 := hd4.next ((Below.refl _ _).alloc (Nat.le_refl _) (.cells #[.int .i64 (-1), .int .i64 ((tz : Int) + 1)] 3))
          have q1 := hd6.bV.cell
          obtain ⟨⟨e3, e4, e5⟩, f3, f4, f5⟩ := HC.out _ hd6.own
          clear hd6
          go_region_law (go_simp; first
            | (go_at_call 44; refine (hd5.pickInt hn _ _ _ ho5 hpb (by simp) (by simp)).mono ?_; clear hd5 ho5 q1 e3 e4 e5 f3 f4 f5; rintro e w5 ⟨z, rfl, hd5⟩; have q1 := hd5.bV.cell; obtain ⟨⟨e3, e4, e5⟩, f3, f4, f5⟩ := HC.out _ hd5.own))
          all_goals (
            have hst := hd5.own.storedKp HLm.out.symm j z
            have hd9 := hd5.row hst.1 hst.2
            clear hd5 hst q1 e0 e1 e2 f0 f1 f2 e3 e4 e5 f3 f4 f5
            have q9 := hd9.bV.cell
            have r9 := hd9.bR.cell
            have rz9 := hd9.bR.thaw
            have q5 := cell_set_same (v := .slice (some ⟨g, 0, none⟩) m c) r9
            have HR9 : Hid (OwnF _ w.heap.size 36 (.slice (some ⟨g, 0, none⟩) m c) (L.modify j fun f => { f with kp := z })) := hd9.own.mono (by have := hd9.RV; omega)
            have HB9 := hd9.bR
            have HL9 : Hid (Left w _ p ca n cap) := hd9.left
            clear hd9 hd4 q r qz rz
            go_wp2
            refine bodyPost_ret (v := .agg #[.slice (some ⟨g, 0, none⟩) m c]) (by simp [results, Try.results30, go_sem, q5]) rfl ⟨_, (L.modify j fun f => { f with kp := z }), rfl, by rw [List.length_modify]; exact hlen, Sm.modify HOK.out _ _ (fun f h => h), HR9.out.setBox HB9, HL9.out.set hp (by simp) _⟩)
        · have k0 : ((y : Int) == 0) = false := by simp; omega
          have k1 : ((y : Int) == 1) = true := by simp; omega
          obtain ⟨⟨fn, ft, fk⟩, hf⟩ : ∃ f, L[j] = f := ⟨_, rfl⟩
          obtain ⟨⟨e0, e1, e2⟩, f0, f1, f2⟩ := hd4.own.cellsAt j hjL hf
          have HX : Hid (fn.size ≤ 9 ∧ ft.size ≤ 20001) := by have := HOK.out _ (List.getElem_mem hjL); rw [hf] at this; exact this
          have hlen : L.length ≤ 30 := by have := HLm.out; omega
          have HOW : Hid (OwnF w4 (V + 1) 36 (.slice (some ⟨g, 0, none⟩) m c) L) := hd4.own
          have hVl := hd4.bV.lt
          have HD4 : Hid (Dj w w.heap.size V p ca n cap (.slice (some ⟨g, 0, none⟩) m c) L w4) := hd4
          clear hy0 hjL hf hd4 f0 f1 f2 rz r
          go_wp2
          have xV3 := fun n o => kept_x_new (w := w4.drewN n) q o
          go_region_law (refine step_snocF (by rfl) _ _ 24 (by rfl) (V + 1) 36 Try.underlying24 Try.infoFile _ L (by rfl) (by exact HOW.out.alloc _) w4.heap.size ⟨fn, ft, fk⟩ (0, 0) (by rfl) (by exact heap_alloc_new w4 _) (by omega) (by simp; omega) ?_; intro g2 cap2 w2' hown2 hgr2; have hk2 := HD4.out.gather (hW := bdrewN_alloc w4 _ _) hgr2 hown2; have q2 := hk2.1.cell; have z2 := hk2.1.thaw)
          all_goals (
            have hd9 := hk2.2
            clear hk2 hown2 hgr2 q2 z2 q qz e0 e1 e2 xV3
            generalize L.length + 1 = l9 at hd9 ⊢
            have q9 := hd9.bV.cell
            have r9 := hd9.bR.cell
            have rz9 := hd9.bR.thaw
            have q5 := cell_set_same (v := .slice (some ⟨g2, 0, none⟩) l9 cap2) r9
            have HR9 : Hid (OwnF _ w.heap.size 36 (.slice (some ⟨g2, 0, none⟩) l9 cap2) (L ++ [⟨fn, ft, fk⟩])) := hd9.own.mono (by have := hd9.RV; omega)
            have HB9 := hd9.bR
            have HL9 : Hid (Left w _ p ca n cap) := hd9.left
            clear hd9
            go_wp2
            refine bodyPost_ret (v := .agg #[.slice (some ⟨g2, 0, none⟩) l9 cap2]) (by simp [results, Try.results30, go_sem, q5]) rfl ⟨_, L ++ [⟨fn, ft, fk⟩], rfl, by simp; omega, Sm.snoc HOK.out HX.out, HR9.out.setBox HB9, HL9.out.set hp (by simp) _⟩)
        · have k0 : ((y : Int) == 0) = false := by simp; omega
          have k1 : ((y : Int) == 1) = false := by simp; omega
          have k2 : ((y : Int) == 2) = true := by simp; omega
          obtain ⟨⟨fn, ft, fk⟩, hf⟩ : ∃ f, L[j] = f := ⟨_, rfl⟩
          obtain ⟨⟨e0, e1, e2⟩, f0, f1, f2⟩ := hd4.own.cellsAt j hjL hf
          have hlen : L.length ≤ 31 := by have := HLm.out; omega
          have HC : Hid (∀ wi, OwnF wi (V + 1) 36 (.slice (some ⟨g, 0, none⟩) m c) L → (wi.cell? ⟨g, j * 3, none⟩ = some (.string fn) ∧ wi.cell? ⟨g, j * 3 + 1, none⟩ = some (.string ft) ∧ wi.cell? ⟨g, j * 3 + 2, none⟩ = some (.int .i64 fk)) ∧ wi.frozen? ⟨g, j * 3, none⟩ = false ∧ wi.frozen? ⟨g, j * 3 + 1, none⟩ = false ∧ wi.frozen? ⟨g, j * 3 + 2, none⟩ = false) := fun wi h => h.cellsAt j hjL hf
          clear hy0 hjL hf
          go_wp2
          have hd5 := hd4.next ((bdrew w4).alloc (Nat.le_refl _) (.cells (strs spoilL).toArray 9))
          have ho5 : OwnV (w4.drew.alloc (.cells (strs spoilL).toArray 9)) w4.heap.size 9 (.slice (some ⟨w4.heap.size, 0, none⟩) 3 3) (strs spoilL) := World.ownsRow_lit (base := w4.heap.size) (e := 9) (size := 1) w4.drew (strs spoilL).toArray 3 (Nat.le_refl _) (by simp [maxLen]) (by rfl)
          have hpb : p < w4.heap.size := hd4.left.1.lt
          have hd6 := hd4.next ((Below.refl _ _).alloc (Nat.le_refl _) (.cells (strs spoilL).toArray 9))
          have q1 : (w4.alloc (.cells #[.string ⟨#[]⟩, .string ⟨#[49, 50, 51, 52, 53, 54, 55, 56]⟩, .string ⟨#[49, 50, 51, 52, 53, 54, 55, 56, 57]⟩] 9)).cell? ⟨V, 0, none⟩ = some (.slice (some ⟨g, 0, none⟩) m c) := hd6.bV.cell
          clear hd6
          go_region_law (go_simp; first
            | (go_at_call 42; refine (hd5.pick hn _ _ _ ho5 hpb (by decide) (by decide)).mono ?_; clear hd5 ho5 q1; rintro e w5 ⟨z, hz, rfl, hd5⟩; have hz9 := spoilL_ok z hz; clear hz; have q1 := hd5.bV.cell; obtain ⟨⟨e3, e4, e5⟩, f3, f4, f5⟩ := HC.out _ hd5.own))
          all_goals (
            have hst := hd5.own.storedNm HLm.out.symm j z
            have hd9 := hd5.row hst.1 hst.2
            clear hd5 hst q1 e0 e1 e2 f0 f1 f2 e3 e4 e5 f3 f4 f5
            have q9 := hd9.bV.cell
            have r9 := hd9.bR.cell
            have rz9 := hd9.bR.thaw
            have q5 := cell_set_same (v := .slice (some ⟨g, 0, none⟩) m c) r9
            have HR9 : Hid (OwnF _ w.heap.size 36 (.slice (some ⟨g, 0, none⟩) m c) (L.modify j fun f => { f with nm := z })) := hd9.own.mono (by have := hd9.RV; omega)
            have HB9 := hd9.bR
            have HL9 : Hid (Left w _ p ca n cap) := hd9.left
            clear hd9 hd4 q r qz rz
            go_wp2
            refine bodyPost_ret (v := .agg #[.slice (some ⟨g, 0, none⟩) m c]) (by simp [results, Try.results30, go_sem, q5]) rfl ⟨_, (L.modify j fun f => { f with nm := z }), rfl, by rw [List.length_modify]; exact hlen, Sm.modify HOK.out _ _ (fun f h => ⟨hz9, h.2⟩), HR9.out.setBox HB9, HL9.out.set hp (by simp) _⟩)
        · have k0 : ((y : Int) == 0) = false := by simp; omega
          have k1 : ((y : Int) == 1) = false := by simp; omega
          have k2 : ((y : Int) == 2) = false := by simp; omega
          have k3 : ((y : Int) == 3) = true := by simp; omega
          have hemp : OwnF (w4.alloc (.cells #[] 36)) (V + 1) 36 (.slice (some ⟨w4.heap.size, 0, none⟩) 0 0) [] := ⟨rfl, .inr ⟨w4.heap.size, 0, #[], rfl, hd4.bV.lt, heap_alloc_new w4 _, Nat.le_refl _, by simp [maxLen], by simp, rfl⟩⟩
          have hd5 := hd4.next ((Below.refl _ _).alloc (Nat.le_refl _) (.cells #[] 36))
          have q1 := hd5.bV.cell
          have z1 := hd5.bV.thaw
          have HD6 : Hid (Dj w w.heap.size V p ca n cap (.slice (some ⟨w4.heap.size, 0, none⟩) 0 0) [] ((w4.alloc (.cells #[] 36)).setCell ⟨V, 0, none⟩ (.slice (some ⟨w4.heap.size, 0, none⟩) 0 0))) := hd5.store hemp
          clear hy0 hjL hd4 hd5 hemp q qz r rz
          go_wp2
          go_loopw [7] (fun i wr => Box (∃ (k g m c : Nat) (L : List Fil), k ≤ 31 ∧ i = .int .i64 k ∧ m ≤ k ∧ Hid (L.length = m) ∧ Hid (Sm L) ∧ Dj w w.heap.size V p ca n cap (.slice (some ⟨g, 0, none⟩) m c) L wr))
            (fun i _ => 31 - (intOf i).toNat)
          case atStart => exact ⟨⟨0, _, 0, 0, [], by omega, rfl, by omega, rfl, by simp [Hid, Sm], HD6.out⟩⟩
          case round =>
            clear HD6 HOK HLm L
            obtain ⟨b, g, m, c, L, hb, rfl, hmb, HLm, HOK, hd⟩ := hrel.out
            clear hrel
            go_wp2_with fail
            refine (hd.below hn 2 (by omega) (by omega)).mono ?_
            rintro e w5 ⟨s, hs, rfl, hd5⟩
            clear hd
            have q := hd5.bV.cell
            by_cases hlt : (b : Int) < 30 + (s : Int)
            · have hwb : IntKind.i64.wrap (100 + (b : Int)) = 100 + (b : Int) := by rw [IntKind.wrap_i64]; omega
              have HDC : Hid (∀ wi, Calls Try.prog 45 #[.int .i64 (100 + (b : Int))] wi fun e w' => ∃ t : ByteArray, t.size ≤ 8 ∧ e = .returned (.string t) ∧ Below wi.heap.size wi w') := by
                intro wi
                have h := specDecimal_pos (100 + b) wi (by omega) (by omega)
                rw [show (((100 + b : Nat) : Int)) = 100 + (b : Int) by omega] at h
                exact h.mono fun _ _ ⟨h1, h2⟩ => ⟨_, dec_small b (by omega), h1, h2⟩
              have hd6 := hd5.next (bdrew w5)
              have hL31 : L.length ≤ 31 := by have := HLm.out; omega
              clear hd5
              go_wp2
              go_region_law (first
                | (go_simp; go_at_call 45; refine (HDC.out _).mono ?_; rintro e w7 ⟨t, ht, rfl, hb7⟩; have hd7 := hd6.next hb7; have q7 := hd7.bV.cell; have q8 := fun o => kept_x_new (w := w7) q7 o; have hV7 := hd7.bV.lt; have hcat := fun w => run_string_add (P := Try.prog) (w := w) (⟨#[102]⟩ : ByteArray) t (by decide) (by omega); have hfs : ((⟨#[102]⟩ : ByteArray) ++ t).size ≤ 9 := (by rw [ByteArray.size_append]; show 1 + t.size ≤ 9; omega); generalize (⟨#[102]⟩ : ByteArray) ++ t = fs at hcat hfs; clear hb7)
                | (refine step_snocF (by rfl) _ _ 24 (by rfl) (V + 1) 36 Try.underlying24 Try.infoFile _ L (by rfl) (by exact hd7.own.alloc _) w7.heap.size ⟨fs, ⟨#[]⟩, 0⟩ (0, 0) (by rfl) (by exact heap_alloc_new w7 _) (by omega) (by simp; omega) ?_; intro g2 cap2 w8 hown2 hgr2; have hk2 := hd7.gather (hW := (Below.refl _ _).alloc (Nat.le_refl _) _) hgr2 hown2; have q9 := hk2.1.cell; have z9 := hk2.1.thaw))
              all_goals (
                have hd9 := hk2.2
                have HSm : Hid (Sm (L ++ [⟨fs, ⟨#[]⟩, 0⟩])) := Sm.snoc HOK.out ⟨hfs, by show (⟨#[]⟩ : ByteArray).size ≤ 20001; decide⟩
                have hl1 : L.length + 1 ≤ b + 1 := by have := HLm.out; omega
                have HLn : Hid ((L ++ [(⟨fs, ⟨#[]⟩, 0⟩ : Fil)]).length = L.length + 1) := by show _ = _; simp
                clear hk2 hown2 hgr2 q9 z9 q7 q8 hd7 hd6 q
                go_wp2
                refine ⟨?_, ?_⟩
                · exact ⟨⟨b + 1, g2, L.length + 1, cap2, _, by omega, by go_num, hl1, HLn, HSm, hd9⟩⟩
                · simp [intOf]; omega)
            · have r := hd5.bR.cell
              have rz := hd5.bR.thaw
              have q5 := cell_set_same (v := .slice (some ⟨g, 0, none⟩) m c) r
              have hlen : L.length ≤ 31 := by have := HLm.out; omega
              go_wp2
              refine bodyPost_ret (v := .agg #[.slice (some ⟨g, 0, none⟩) m c]) (by simp [results, Try.results30, go_sem, q5]) rfl ⟨_, L, rfl, hlen, HOK.out, ?_, ?_⟩
              · exact (hd5.own.mono (by have := hd5.RV; omega)).setBox hd5.bR
              · exact hd5.left.set hd5.hp (by simp) _
        · have k0 : ((y : Int) == 0) = false := by simp; omega
          have k1 : ((y : Int) == 1) = false := by simp; omega
          have k2 : ((y : Int) == 2) = false := by simp; omega
          have k3 : ((y : Int) == 3) = false := by simp; omega
          have k4 : ((y : Int) == 4) = true := by simp; omega
          obtain ⟨⟨fn, ft, fk⟩, hf⟩ : ∃ f, L[j] = f := ⟨_, rfl⟩
          obtain ⟨⟨e0, e1, e2⟩, f0, f1, f2⟩ := hd4.own.cellsAt j hjL hf
          have hlen : L.length ≤ 31 := by have := HLm.out; omega
          have HC : Hid (∀ wi, OwnF wi (V + 1) 36 (.slice (some ⟨g, 0, none⟩) m c) L → (wi.cell? ⟨g, j * 3, none⟩ = some (.string fn) ∧ wi.cell? ⟨g, j * 3 + 1, none⟩ = some (.string ft) ∧ wi.cell? ⟨g, j * 3 + 2, none⟩ = some (.int .i64 fk)) ∧ wi.frozen? ⟨g, j * 3, none⟩ = false ∧ wi.frozen? ⟨g, j * 3 + 1, none⟩ = false ∧ wi.frozen? ⟨g, j * 3 + 2, none⟩ = false) := fun wi h => h.cellsAt j hjL hf
          clear hy0 hjL hf
          go_wp2
          have hd5 := hd4.next (bdrew w4)
          go_region_law (go_simp; first
            | (go_at_call 22; refine (hd5.below hn 3 (by omega) (by omega)).mono ?_; clear hd5; rintro e w5 ⟨s, hs, rfl, hd5⟩; have hws : IntKind.i64.wrap (19999 + (s : Int)) = 19999 + (s : Int) := (by rw [IntKind.wrap_i64]; omega); have q1 := hd5.bV.cell)
            | (go_at_call 46; refine (long_any w5 (19999 + (s : Int)) 65 (by omega) (by omega) (by omega) (by omega)).mono ?_; rintro e w6 ⟨z, hzs, rfl, hb6⟩; have hz9 : z.size ≤ 20001 := (by omega); clear hzs; have hd7 := hd5.next hb6; clear hd5 q1; have q1 := hd7.bV.cell; obtain ⟨⟨e3, e4, e5⟩, f3, f4, f5⟩ := HC.out _ hd7.own))
          all_goals (
            have hst := hd7.own.storedTx HLm.out.symm j z
            have hd9 := hd7.row hst.1 hst.2
            clear hd7 hst q1 e0 e1 e2 f0 f1 f2 e3 e4 e5 f3 f4 f5
            have q9 := hd9.bV.cell
            have r9 := hd9.bR.cell
            have rz9 := hd9.bR.thaw
            have q5 := cell_set_same (v := .slice (some ⟨g, 0, none⟩) m c) r9
            have HR9 : Hid (OwnF _ w.heap.size 36 (.slice (some ⟨g, 0, none⟩) m c) (L.modify j fun f => { f with tx := z })) := hd9.own.mono (by have := hd9.RV; omega)
            have HB9 := hd9.bR
            have HL9 : Hid (Left w _ p ca n cap) := hd9.left
            clear hd9 hd4 q r qz rz
            go_wp2
            refine bodyPost_ret (v := .agg #[.slice (some ⟨g, 0, none⟩) m c]) (by simp [results, Try.results30, go_sem, q5]) rfl ⟨_, (L.modify j fun f => { f with tx := z }), rfl, by rw [List.length_modify]; exact hlen, Sm.modify HOK.out _ _ (fun f h => ⟨h.1, hz9⟩), HR9.out.setBox HB9, HL9.out.set hp (by simp) _⟩)
        · have k0 : ((y : Int) == 0) = false := by simp; omega
          have k1 : ((y : Int) == 1) = false := by simp; omega
          have k2 : ((y : Int) == 2) = false := by simp; omega
          have k3 : ((y : Int) == 3) = false := by simp; omega
          have k4 : ((y : Int) == 4) = false := by simp; omega
          have q5 := cell_set_same (v := .slice (some ⟨g, 0, none⟩) m c) r
          have hlen : L.length ≤ 31 := by have := HLm.out; omega
          clear hy0 hjL
          go_wp2
          refine bodyPost_ret (v := .agg #[.slice (some ⟨g, 0, none⟩) m c]) (by simp [results, Try.results30, go_sem, q5]) rfl ⟨_, L, rfl, hlen, HOK.out, ?_, ?_⟩
          · exact (hd4.own.mono (by have := hd4.RV; omega)).setBox hd4.bR
          · exact hd4.left.set hd4.hp (by simp) _
end Go.Proofs.Ytiddmmmgmoofnaa
