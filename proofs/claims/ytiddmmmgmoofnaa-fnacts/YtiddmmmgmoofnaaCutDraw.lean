/- A disk, acts, how many of them are whole, and what is left: drawn. -/
import Derived.Test.YtiddmmmgmoofnaaActsDraw
import Derived.Test.YtiddmmmgmoofnaaDiskDraw
import Derived.Deep.RegionLaw
namespace Go.Proofs.Ytiddmmmgmoofnaa
open Go.RowKit Go.Sort

/-- What stands while they are drawn. -/
structure Cj (w0 : World) (R V p : Nat) (ca : Option Addr) (n cap : Nat) (v : Value) (L : List Fil) (u : Value) (As : List Ac) (wi : World) : Prop where
  cur : Cur wi p ca n cap
  code : CodeAt wi ca n p
  own : OwnF wi (p + 1) 36 v L
  acts : OwnA wi (p + 1) 45 u As
  bV : DBox wi V v
  bR : DBox wi R (.slice none 0 0)
  bel : Below w0.heap.size w0 wi
  pV : p < V
  wR : w0.heap.size ≤ R
  Rp : R < p
theorem Cj.go {w0 : World} {R V p : Nat} {ca : Option Addr} {n cap : Nat} {v : Value} {L : List Fil} {u : Value} {As : List Ac} {wi wj : World} (h : Cj w0 R V p ca n cap v L u As wi) (hl : Left wi wj p ca n cap) : Cj w0 R V p ca n cap v L u As wj where
  cur := hl.1
  code := hl.2.1
  own := h.own.grown hl.2.2 fun k hk e => by
    have h1 := (h.own.lt k hk).1
    simp at e
    omega
  acts := h.acts.grown hl.2.2 fun k hk e => by
    have h1 := (h.acts.lt k hk).1
    simp at e
    omega
  bV := h.bV.grown hl.2.2 fun k e => by have := h.pV; simp at e; omega
  bR := h.bR.grown hl.2.2 fun k e => by have := h.Rp; simp at e; omega
  bel := below_of_left h.bel (by have := h.wR; have := h.Rp; omega) hl
  pV := h.pV
  wR := h.wR
  Rp := h.Rp
theorem Cj.place {w0 : World} {R V p : Nat} {ca : Option Addr} {n cap : Nat} {v : Value} {L : List Fil} {u : Value} {As : List Ac} {wi : World} (h : Cj w0 R V p ca n cap v L u As wi) (hn : n ≤ 1048576) (m : Int) (hm0 : 0 < m) (hm1 : m ≤ 1000000) :
    Calls Try.prog 32 #[.pointer (some ⟨p, 0, none⟩), .int .i64 m] wi fun e w' => ∃ z : Int, (-9223372036854775808 ≤ z ∧ z ≤ 9223372036854775807) ∧ e = .returned (.int .i64 z) ∧ Left wi w' p ca n cap ∧ Cj w0 R V p ca n cap v L u As w' :=
  (l01Place_any wi p ca n cap m h.cur h.code hn hm0 hm1).mono fun _ _ ⟨z, h1, h2, h3, h4⟩ => ⟨z, ⟨h1, h2⟩, h3, h4, h.go h4⟩
theorem Cj.lefts {w0 : World} {R V p : Nat} {ca : Option Addr} {n cap : Nat} {v : Value} {L : List Fil} {u : Value} {As : List Ac} {wi : World} (h : Cj w0 R V p ca n cap v L u As wi) (hn : n ≤ 1048576) :
    Calls Try.prog 33 #[.pointer (some ⟨p, 0, none⟩)] wi fun e w' => ∃ (x : Value) (l : List Int), e = .returned x ∧ l.length ≤ 5 ∧ OwnV w' (p + 1) 3 x (ints l) ∧ Cj w0 R V p ca n cap v L u As w' :=
  (l03Left_any wi p ca n cap h.cur h.code hn).mono fun _ _ ⟨x, l, h1, h2, h3, h4⟩ => ⟨x, l, h1, h2, h3.mono h.cur.lt, h.go h4⟩

set_option maxRecDepth 100000 in
set_option maxHeartbeats 4000000 in
theorem drawCutActs_any (w : World) (ca : Option Addr) (n cap : Nat) (hcode : CodeAt w ca n w.heap.size) (hn : n ≤ 1048576) :
    Calls Try.prog 14 #[.slice ca n cap] w fun e w' => ∃ (v : Value) (L : List Fil) (u : Value) (As : List Ac) (z : Int) (x : Value) (l : List Int), e = .returned (.tuple #[.agg #[v], u, .int .i64 z, x]) ∧ L.length ≤ 31 ∧ Sm L ∧ As.length ≤ 8 ∧ (∀ A ∈ As, A.small) ∧ (-9223372036854775808 ≤ z ∧ z ≤ 9223372036854775807) ∧ l.length ≤ 5 ∧
      OwnF w' w.heap.size 36 v L ∧ OwnA w' w.heap.size 45 u As ∧ OwnV w' w.heap.size 3 x (ints l) ∧ Below w.heap.size w w' := by
  obtain ⟨wa, hwa⟩ : ∃ wa, w.alloc (.cells #[.slice none 0 0] 26) = wa := ⟨_, rfl⟩
  have hba : Below w.heap.size w wa := by rw [← hwa]; exact (Below.refl _ _).alloc (Nat.le_refl _) _
  have hsa : wa.heap.size = w.heap.size + 1 := by rw [← hwa]; simp
  have hra : DBox wa w.heap.size (.slice none 0 0) := by rw [← hwa]; exact DBox.new _ _
  have hca : CodeAt wa ca n wa.heap.size := by
    rw [← hwa]
    intro j hj
    obtain ⟨b, off, z, h1, h2, h3, h4⟩ := hcode.alloc (.cells #[.slice none 0 0] 26) j hj
    exact ⟨b, off, z, h1, by simp; omega, h3, h4⟩
  have c1 := new_any wa ca n cap hca hn
  have HW : Hid (w.alloc (.cells #[.slice none 0 0] 26) = wa) := hwa
  clear hcode hwa hca
  go_enter Try.func14, Try.ntmps14
  go_wp2_with fail
  rw [HW.out]
  refine c1.mono ?_
  rintro e w1 ⟨p, rfl, hp1, hp2, hcur, hcd, hb1⟩
  have hr1 := hra.on hb1
  have hB1 := bthen hba hb1
  have c2 := l03Disk_any w1 p ca n cap hcur hcd hn
  clear c1 hcur hcd hra hba hb1
  go_wp2_with fail
  refine c2.mono ?_
  rintro e w2 ⟨v, L, rfl, hL31, hSm, hown2, hl2⟩
  obtain ⟨a, c, rfl, _⟩ := hown2.at
  obtain ⟨m, hm⟩ : ∃ m, L.length = m := ⟨_, rfl⟩
  rw [hm] at hown2 ⊢
  have HL : Hid (L.length ≤ 31 ∧ Sm L) := ⟨hL31, hSm⟩
  have hr2 := hr1.grown hl2.2.2 fun k e => by simp at e; omega
  have hB2 := below_of_left hB1 (by omega) hl2
  have hs2 := hl2.2.2.size
  have hl3 := hl2.plus hp1 (.cells #[.slice a m c] 26)
  have hr3 := hr2.on ((Below.refl _ _).alloc (Nat.le_refl _) (.cells #[.slice a m c] 26))
  have hV3 := DBox.new w2 (.slice a m c)
  have hB3 := hB2.alloc (by have := hB2.size; omega) (.cells #[.slice a m c] 26)
  have ho3 : OwnF (w2.alloc (.cells #[.slice a m c] 26)) (p + 1) 36 (.slice a m c) L := (hown2.mono hp1).alloc _
  have c3 := l03Acts_any (w2.alloc (.cells #[.slice a m c] 26)) p ca n cap (.slice a m c) L hl3.1 hl3.2.1 hn ho3 hL31
  have q3 := hV3.cell
  obtain ⟨V, hVe⟩ : ∃ V, w2.heap.size = V := ⟨_, rfl⟩
  rw [hVe] at hV3 q3
  clear c2 hown2 hl2 hr2 hB2 hr1 hB1 hm hSm hL31
  go_wp2_with fail
  refine c3.mono ?_
  rintro e w4 ⟨u, As, rfl, hA8, hsm, hown4, hl4⟩
  obtain ⟨ua, uc, rfl, _⟩ := hown4.at
  obtain ⟨um, hum⟩ : ∃ um, As.length = um := ⟨_, rfl⟩
  rw [hum] at hown4 hA8 ⊢
  have HA : Hid (As.length ≤ 8 ∧ ∀ A ∈ As, A.small) := ⟨by rw [hum]; exact hA8, hsm⟩
  have hd : Cj w w.heap.size V p ca n cap (.slice a m c) L (.slice ua um uc) As w4 :=
    ⟨hl4.1, hl4.2.1, ho3.grown hl4.2.2 (fun k hk e => by have := (ho3.lt k hk).1; simp at e; omega), hown4.mono (by simp; omega), hV3.grown hl4.2.2 (fun k e => by simp at e; omega), hr3.grown hl4.2.2 (fun k e => by simp at e; omega), below_of_left hB3 (by omega) hl4, by omega, Nat.le_refl _, by omega⟩
  have hwr : IntKind.i64.wrap ((um : Int) + 1) = (um : Int) + 1 := by rw [IntKind.wrap_i64]; omega
  have q := hd.bV.cell
  clear c3 hown4 hl4 hl3 hr3 hV3 hB3 ho3 q3 hum hsm
  go_wp2
  replace hd := hd.go (wj := w4.drew) ⟨hd.cur, hd.code, ⟨rfl, rfl, rfl, Nat.le_refl _, fun _ _ _ => rfl⟩⟩
  have hov : True := trivial
  go_region_law (go_simp; first
    | (go_at_call 32; refine (hd.place hn ((um : Int) + 1) (by omega) (by omega)).mono ?_; clear hd q; rintro e w5 ⟨z, hz, rfl, hl5, hd⟩; have q := hd.bV.cell; have qr := hd.bR.cell; have qz := hd.bR.thaw; first | (replace hov := hov.grown hl5.2.2 (fun k hk e => by have := (hov.lt k hk).1; simp at e; omega)) | skip; clear hl5)
    | (go_at_call 33; refine (hd.lefts hn).mono ?_; clear hd q hov; rintro e w6 ⟨x, l, rfl, hl5, hov, hd⟩; have q := hd.bV.cell; have qr := hd.bR.cell; have qz := hd.bR.thaw))
  all_goals (
    have q5 := cell_set_same (v := .slice a m c) qr
    have hR : w.heap.size < p := hd.Rp
    have HF : Hid (OwnF (w6.setCell ⟨w.heap.size, 0, none⟩ (.slice a m c)) w.heap.size 36 (.slice a m c) L) := (hd.own.mono (by omega)).setBox hd.bR
    have HAc : Hid (OwnA (w6.setCell ⟨w.heap.size, 0, none⟩ (.slice a m c)) w.heap.size 45 (.slice ua um uc) As) := (hd.acts.mono (by omega)).kept fun k hk => heap_setCell_other _ _ _ _ (by have := (hd.acts.lt k hk).1; simp; omega)
    have HV : Hid (OwnV (w6.setCell ⟨w.heap.size, 0, none⟩ (.slice a m c)) w.heap.size 3 x (ints l)) := (hov.mono (by omega)).kept fun k hk => heap_setCell_other _ _ _ _ (by have := (hov.lt k hk).1; simp; omega)
    have HB : Hid (Below w.heap.size w (w6.setCell ⟨w.heap.size, 0, none⟩ (.slice a m c))) := hd.bel.setCell (by simp) _
    clear hd hov
    go_wp2
    refine bodyPost_ret (v := .tuple #[.agg #[.slice a m c], .slice ua um uc, .int .i64 z, x]) (by simp [results, Try.results14, go_sem, q5]) rfl ⟨_, L, _, As, z, x, l, rfl, HL.out.1, HL.out.2, HA.out.1, HA.out.2, hz, hl5, HF.out, HAc.out, HV.out, HB.out⟩)
end Go.Proofs.Ytiddmmmgmoofnaa
