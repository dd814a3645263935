/- A client leaves: the other text's. Written by mkprx6.py. -/
import Derived.Test.YtonaaimefcgcnaaLeaveCliI
import Derived.Test.YtonaaimefcgcnaaL16Copy
namespace Go.Proofs.Ytonaaimefcgcnaa
open Go.RowKit Go.Sort
theorem keepX_len {α : Type} (p : α → Bool) (L : List α) : (keepX p L).length ≤ L.length := List.length_filter_le _ _
set_option maxRecDepth 100000 in
set_option maxHeartbeats 8000000 in
theorem specLeaveClient_any (w : World) (X : Pc) (R : Prx) (id : Int) (hA : PxAt w X R w.heap.size) (hsz : PxSz R) :
    Calls Try.prog 21 #[.agg #[.int .i64 R.now, X.e, X.w, X.m, X.k, .int .i64 R.pol.sk.added, X.f, X.c, .int .i64 R.hits], .int .i64 id] w fun e w' => ∃ Y : Pc, e = .returned (.agg #[.int .i64 (leaveR R id).now, Y.e, Y.w, Y.m, Y.k, .int .i64 (leaveR R id).pol.sk.added, Y.f, Y.c, .int .i64 (leaveR R id).hits]) ∧ PxOwn w' w.heap.size w'.heap.size Y (leaveR R id) ∧ Below w.heap.size w w' := by
  have l4 := hsz.parts.2.2.2
  obtain ⟨xe, xw, xm, xk, xf, xc⟩ := X
  obtain ⟨ac, cc, hxc, hcA⟩ := hA.c
  dsimp only at hxc
  subst hxc
  obtain ⟨A, hAA⟩ : ∃ A, w.heap.size = A := ⟨_, rfl⟩
  obtain ⟨w0, hw0⟩ : ∃ x, w.alloc (.cells #[.int .i64 R.now, xe, xw, xm, xk, .int .i64 R.pol.sk.added, xf, .slice ac R.cls.length cc, .int .i64 R.hits] 51) = x := ⟨_, rfl⟩
  obtain ⟨w1, hw1⟩ : ∃ x, w0.alloc (.cells #[.int .i64 0, .slice none 0 0, .slice none 0 0, .slice none 0 0, .slice none 0 0, .int .i64 0, .slice none 0 0, .slice none 0 0, .int .i64 0] 51) = x := ⟨_, rfl⟩
  have hb0 : Below w.heap.size w w0 := by rw [← hw0]; exact (Below.refl _ _).alloc (Nat.le_refl _) _
  have hb01 : Below w0.heap.size w0 w1 := by rw [← hw1]; exact (Below.refl _ _).alloc (Nat.le_refl _) _
  have s0 : w0.heap.size = A + 1 := by rw [← hw0, ← hAA]; simp
  have s1 : w1.heap.size = A + 2 := by rw [← hw1]; simp; omega
  have hb1 : Below A w w1 := by rw [← hAA]; exact hb0.trans (hb01.mono hb0.size)
  have hB : NB w1 A 51 (.int .i64 R.now) xe xw xm xk (.int .i64 R.pol.sk.added) xf (.slice ac R.cls.length cc) (.int .i64 R.hits) := by
    have h : NB w0 A 51 (.int .i64 R.now) xe xw xm xk (.int .i64 R.pol.sk.added) xf (.slice ac R.cls.length cc) (.int .i64 R.hits) := by rw [← hw0, ← hAA]; exact NB.new _ _ _ _ _ _ _ _ _ _ _
    exact h.on hb01
  have hR : NB w1 (A + 1) 51 (.int .i64 0) (.slice none 0 0) (.slice none 0 0) (.slice none 0 0) (.slice none 0 0) (.int .i64 0) (.slice none 0 0) (.slice none 0 0) (.int .i64 0) := by rw [← hw1, ← s0]; exact NB.new _ _ _ _ _ _ _ _ _ _ _
  have HW : Hid ((w.alloc (.cells #[.int .i64 R.now, xe, xw, xm, xk, .int .i64 R.pol.sk.added, xf, .slice ac R.cls.length cc, .int .i64 R.hits] 51)).alloc (.cells #[.int .i64 0, .slice none 0 0, .slice none 0 0, .slice none 0 0, .slice none 0 0, .int .i64 0, .slice none 0 0, .slice none 0 0, .int .i64 0] 51) = w1) := by rw [hw0]; exact hw1
  have hA1 : PxAt w1 ⟨xe, xw, xm, xk, xf, .slice ac R.cls.length cc⟩ R w1.heap.size := hA.on (by rw [hAA]; exact hb1)
  have c1 := l16Copy_any w1 _ R hA1 hsz
  obtain ⟨b0, b1, b2, b3, b4, b5, b6, b7, b8⟩ := hB.cells
  rw [← hw1, ← hw0] at b0 b1 b2 b3 b4 b5 b6 b7 b8
  have HAA : Hid (w.heap.size = A ∧ w1.heap.size = A + 2) := ⟨hAA, s1⟩
  clear hw0 hw1 hb0 hb01 s0 s1 hA hA1
  go_enter Try.func21, Try.ntmps21
  go_wp2_with fail
  rw [HW.out] at b0 b1 b2 b3 b4 b5 b6 b7 b8 ⊢
  refine c1.mono ?_
  rintro e w2 ⟨Y, he, ho, hb2⟩
  clear c1
  obtain ⟨e0, e1, x0, x1, m0, m1, k0, k1, f0, f1, c0, c1, rfl⟩ := ho.slices
  dsimp only at he
  subst he
  obtain ⟨N, hN⟩ : ∃ N, w2.heap.size = N := ⟨_, rfl⟩
  obtain ⟨wS, hwS⟩ : ∃ x, ((w2.alloc (.cells #[.int .i64 R.now, .slice e0 R.ents.length e1, .slice x0 R.pol.win.length x1, .slice m0 R.pol.main.length m1, .slice k0 R.pol.sk.rows.length k1, .int .i64 R.pol.sk.added, .slice f0 R.fes.length f1, .slice (some ⟨N + 1, 0, none⟩) 0 0, .int .i64 R.hits] 51)).alloc (.cells #[] 68)) = x := ⟨_, rfl⟩
  have hbS0 : Below w2.heap.size w2 (w2.alloc (.cells #[.int .i64 R.now, .slice e0 R.ents.length e1, .slice x0 R.pol.win.length x1, .slice m0 R.pol.main.length m1, .slice k0 R.pol.sk.rows.length k1, .int .i64 R.pol.sk.added, .slice f0 R.fes.length f1, .slice (some ⟨N + 1, 0, none⟩) 0 0, .int .i64 R.hits] 51)) := (Below.refl _ _).alloc (Nat.le_refl _) _
  have hbS : Below w2.heap.size w2 wS := by rw [← hwS]; exact hbS0.alloc hbS0.size _
  have hNS : NB wS N 51 (.int .i64 R.now) (.slice e0 R.ents.length e1) (.slice x0 R.pol.win.length x1) (.slice m0 R.pol.main.length m1) (.slice k0 R.pol.sk.rows.length k1) (.int .i64 R.pol.sk.added) (.slice f0 R.fes.length f1) (.slice (some ⟨N + 1, 0, none⟩) 0 0) (.int .i64 R.hits) := by
    have h := NB.new w2 51 (.int .i64 R.now) (.slice e0 R.ents.length e1) (.slice x0 R.pol.win.length x1) (.slice m0 R.pol.main.length m1) (.slice k0 R.pol.sk.rows.length k1) (.int .i64 R.pol.sk.added) (.slice f0 R.fes.length f1) (.slice (some ⟨N + 1, 0, none⟩) 0 0) (.int .i64 R.hits)
    rw [hN] at h
    rw [← hwS]
    exact h.on ((Below.refl (w2.alloc (.cells #[.int .i64 R.now, .slice e0 R.ents.length e1, .slice x0 R.pol.win.length x1, .slice m0 R.pol.main.length m1, .slice k0 R.pol.sk.rows.length k1, .int .i64 R.pol.sk.added, .slice f0 R.fes.length f1, .slice (some ⟨N + 1, 0, none⟩) 0 0, .int .i64 R.hits] 51)).heap.size _).alloc (Nat.le_refl _) _)
  have hlo2 : w1.heap.size ≤ N := by rw [← hN]; exact hb2.size
  have hES : OwnCli wS w1.heap.size 68 (.slice (some ⟨N + 1, 0, none⟩) 0 0) [] := by
    refine ⟨by simp [cltl], .inr ⟨N + 1, 0, #[], rfl, by omega, ?_, Nat.le_refl _, by simp [maxLen], by simp, by simp [cltl]⟩⟩
    rw [← hwS]
    have := heap_alloc_new (w2.alloc (.cells #[.int .i64 R.now, .slice e0 R.ents.length e1, .slice x0 R.pol.win.length x1, .slice m0 R.pol.main.length m1, .slice k0 R.pol.sk.rows.length k1, .int .i64 R.pol.sk.added, .slice f0 R.fes.length f1, .slice (some ⟨N + 1, 0, none⟩) 0 0, .int .i64 R.hits] 51)) (.cells #[] 68)
    rw [show (w2.alloc (.cells #[.int .i64 R.now, .slice e0 R.ents.length e1, .slice x0 R.pol.win.length x1, .slice m0 R.pol.main.length m1, .slice k0 R.pol.sk.rows.length k1, .int .i64 R.pol.sk.added, .slice f0 R.fes.length f1, .slice (some ⟨N + 1, 0, none⟩) 0 0, .int .i64 R.hits] 51)).heap.size = N + 1 by simp [hN]] at this
    exact this
  have hO0 := ho.below hbS (Nat.le_refl _)
  have hOS : PxOwn wS w1.heap.size wS.heap.size ⟨.slice e0 R.ents.length e1, .slice x0 R.pol.win.length x1, .slice m0 R.pol.main.length m1, .slice k0 R.pol.sk.rows.length k1, .slice f0 R.fes.length f1, .slice (some ⟨N + 1, 0, none⟩) 0 0⟩ (Prx.mk R.now R.ents R.pol R.fes [] R.hits) :=
    ⟨hO0.e, hO0.p.up, hO0.f, hES, fun k hk => (hO0.e.lt k hk).2, fun k hk => (hO0.f.lt k hk).2, fun k hk => (hES.lt k hk).2⟩
  have HBS : Hid (Below w1.heap.size w1 wS) := hb2.trans (hbS.mono hb2.size)
  have HNS : Hid (NB wS N 51 (.int .i64 R.now) (.slice e0 R.ents.length e1) (.slice x0 R.pol.win.length x1) (.slice m0 R.pol.main.length m1) (.slice k0 R.pol.sk.rows.length k1) (.int .i64 R.pol.sk.added) (.slice f0 R.fes.length f1) (.slice (some ⟨N + 1, 0, none⟩) 0 0) (.int .i64 R.hits)) := hNS
  have HOS : Hid (PxOwn wS w1.heap.size wS.heap.size ⟨.slice e0 R.ents.length e1, .slice x0 R.pol.win.length x1, .slice m0 R.pol.main.length m1, .slice k0 R.pol.sk.rows.length k1, .slice f0 R.fes.length f1, .slice (some ⟨N + 1, 0, none⟩) 0 0⟩ (Prx.mk R.now R.ents R.pol R.fes [] R.hits)) := hOS
  have HA1 : Hid (∀ W, Below w1.heap.size w1 W → NB W A 51 (.int .i64 R.now) xe xw xm xk (.int .i64 R.pol.sk.added) xf (.slice ac R.cls.length cc) (.int .i64 R.hits) ∧ NB W (A + 1) 51 (.int .i64 0) (.slice none 0 0) (.slice none 0 0) (.slice none 0 0) (.slice none 0 0) (.int .i64 0) (.slice none 0 0) (.slice none 0 0) (.int .i64 0) ∧ CliAt W ac R.cls w1.heap.size ∧ Below A w W) := fun W h =>
    ⟨hB.on h, hR.on h, (hcA.on (by rw [hAA]; exact hb1)).below h (Nat.le_refl _), hb1.trans (h.mono (by have := HAA.out; omega))⟩
  have HWS : Hid (((w2.alloc (.cells #[.int .i64 R.now, .slice e0 R.ents.length e1, .slice x0 R.pol.win.length x1, .slice m0 R.pol.main.length m1, .slice k0 R.pol.sk.rows.length k1, .int .i64 R.pol.sk.added, .slice f0 R.fes.length f1, .slice (some ⟨N + 1, 0, none⟩) 0 0, .int .i64 R.hits] 51)).alloc (.cells #[] 68)) = wS) := hwS
  have HNL : Hid (A + 2 ≤ N ∧ w1.heap.size ≤ N ∧ w2.heap.size = N) := ⟨by have := HAA.out; omega, hlo2, hN⟩
  clear hwS hbS0 hbS hNS hES hO0 hOS ho hB hR hb1 hb2 hlo2 hcA b0 b1 b2 b3 b4 b5 b6 b7 b8
  go_wp2_with fail
  go_loopw [6] (fun i wr => Box (∃ (k : Nat) (Y : Pc) (M : List Cli), k ≤ R.cls.length ∧ i = .int .i64 k ∧ Hid (M = keepX (fun c : Cli => decide (c.id = id)) (R.cls.take k)) ∧ Hid (NB wr N 51 (.int .i64 R.now) Y.e Y.w Y.m Y.k (.int .i64 R.pol.sk.added) Y.f Y.c (.int .i64 R.hits)) ∧ Hid (PxOwn wr w1.heap.size wr.heap.size Y (Prx.mk R.now R.ents R.pol R.fes M R.hits)) ∧ Hid (Below w1.heap.size w1 wr)))
    (fun i _ => R.cls.length - (intOf i).toNat)
  case atStart =>
    rw [HWS.out]
    exact ⟨⟨0, ⟨.slice e0 R.ents.length e1, .slice x0 R.pol.win.length x1, .slice m0 R.pol.main.length m1, .slice k0 R.pol.sk.rows.length k1, .slice f0 R.fes.length f1, .slice (some ⟨N + 1, 0, none⟩) 0 0⟩, [], by omega, rfl, by show _ = _; simp [keepX], HNS.out, HOS.out, HBS.out⟩⟩
  case round =>
    clear HNS HOS HBS HWS HW
    obtain ⟨k, Y, M, hk, rfl, HM, HN, HO, HB⟩ := hrel.out
    clear hrel
    by_cases hlt : k < R.cls.length
    · obtain ⟨g, off, hga, hgl, q0, q1, q2, q3, q4, q5, q6⟩ := (HA1.out wr HB.out).2.2.1 k hlt
      have hkt := keepX_take (p := fun c : Cli => decide (c.id = id)) hlt
      obtain ⟨z, hz⟩ : ∃ z, R.cls[k] = z := ⟨_, rfl⟩
      rw [hz] at q0 q1 q2 q3 q4 q5 q6 hkt
      have b7 := (HA1.out wr HB.out).1.cells.2.2.2.2.2.2.2.1
      subst hga
      have hi1 : (0 : Int) ≤ (k : Int) := by omega
      have hi2 : (k : Int) < (R.cls.length : Int) := by omega
      have HKL : Hid (k < R.cls.length) := hlt
      by_cases hid : z.id = id
      · have hne : (z.id != id) = false := by simp [hid]
        have HK2 : Hid (M = keepX (fun c : Cli => decide (c.id = id)) (R.cls.take (k + 1))) := by show _ = _; rw [hkt, HM.out]; simp [hid]
        clear hkt hz hlt hk hid
        go_wp2_with fail
        go_roundw
        case rel =>
          try ((repeat apply Exists.intro); refine ⟨?_, rfl⟩)
          exact ⟨⟨k + 1, Y, M, HKL.out, by go_num, HK2.out, HN.out, HO.out, HB.out⟩⟩
        case measure => have := HKL.out; simp [intOf]; omega
      · have hne : (z.id != id) = true := by simp [hid]
        have HK2 : Hid (M ++ [z] = keepX (fun c : Cli => decide (c.id = id)) (R.cls.take (k + 1))) := by show _ = _; rw [hkt, HM.out]; simp [hid]
        clear hkt hz hlt hk hid
        obtain ⟨i0, hi, hz0, hz1, hz2⟩ := info_parts Try.infoCli
        have hAl : A < w1.heap.size := by have := HAA.out; omega
        have hwl : w1.heap.size ≤ wr.heap.size := HB.out.size
        have KS : ∀ W, Below w1.heap.size wr W → W.cell? ⟨A, 7, none⟩ = some (.slice (some ⟨g, off, none⟩) R.cls.length cc) ∧ W.cell? ⟨g, off + k * 7, none⟩ = some (.int .i64 z.id) ∧ W.cell? ⟨g, off + k * 7 + 1, none⟩ = some (.string z.key) ∧ W.cell? ⟨g, off + k * 7 + 2, none⟩ = some (.int .i64 z.fe) ∧ W.cell? ⟨g, off + k * 7 + 3, none⟩ = some (.int .i64 z.fr) ∧ W.cell? ⟨g, off + k * 7 + 4, none⟩ = some (.int .i64 z.st) ∧ W.cell? ⟨g, off + k * 7 + 5, none⟩ = some (.string z.got) ∧ W.cell? ⟨g, off + k * 7 + 6, none⟩ = some (.int .i64 z.ag) := fun W h => ⟨(h.cell hAl).trans b7, (h.cell hgl).trans q0, (h.cell hgl).trans q1, (h.cell hgl).trans q2, (h.cell hgl).trans q3, (h.cell hgl).trans q4, (h.cell hgl).trans q5, (h.cell hgl).trans q6⟩
        have hdr : Below w1.heap.size wr wr.drew := ⟨rfl, rfl, rfl, Nat.le_refl _, fun _ _ => rfl⟩
        have hbx : Below w1.heap.size wr (wr.alloc (.cells #[.int .i64 z.id, .string z.key, .int .i64 z.fe, .int .i64 z.fr, .int .i64 z.st, .string z.got, .int .i64 z.ag] 68)).drew := ((Below.refl _ wr).alloc hwl _).trans ⟨rfl, rfl, rfl, Nat.le_refl _, fun _ _ => rfl⟩
        have hbr : Below wr.heap.size wr (wr.alloc (.cells #[.int .i64 z.id, .string z.key, .int .i64 z.fe, .int .i64 z.fr, .int .i64 z.st, .string z.got, .int .i64 z.ag] 68)).drew := ((Below.refl _ wr).alloc (Nat.le_refl _) _).trans ⟨rfl, rfl, rfl, Nat.le_refl _, fun _ _ => rfl⟩
        have HOX : Hid (PxOwn (wr.alloc (.cells #[.int .i64 z.id, .string z.key, .int .i64 z.fe, .int .i64 z.fr, .int .i64 z.st, .string z.got, .int .i64 z.ag] 68)).drew w1.heap.size wr.heap.size Y (Prx.mk R.now R.ents R.pol R.fes M R.hits)) := HO.out.below hbr (Nat.le_refl _)
        have HNX : Hid (NB (wr.alloc (.cells #[.int .i64 z.id, .string z.key, .int .i64 z.fe, .int .i64 z.fr, .int .i64 z.st, .string z.got, .int .i64 z.ag] 68)).drew N 51 (.int .i64 R.now) Y.e Y.w Y.m Y.k (.int .i64 R.pol.sk.added) Y.f Y.c (.int .i64 R.hits)) := HN.out.on hbr
        have HOC : Hid ((wr.alloc (.cells #[.int .i64 z.id, .string z.key, .int .i64 z.fe, .int .i64 z.fr, .int .i64 z.st, .string z.got, .int .i64 z.ag] 68)).drew.ownsRow w1.heap.size 68 7 Y.c M.length (cltl M)) := HOX.out.c
        have HNW : Hid (∀ j u, (cltl [z])[j]? = some u → (wr.alloc (.cells #[.int .i64 z.id, .string z.key, .int .i64 z.fe, .int .i64 z.fr, .int .i64 z.st, .string z.got, .int .i64 z.ag] 68)).drew.cell? ((⟨wr.heap.size, 0, none⟩ : Addr).add j) = some u) := by
          have hn := OwnCli.new wr 68 [z] #[.int .i64 z.id, .string z.key, .int .i64 z.fe, .int .i64 z.fr, .int .i64 z.st, .string z.got, .int .i64 z.ag] rfl (by simp [maxLen])
          obtain ⟨a', c', hv, hA'⟩ := hn.at
          simp only [Value.slice.injEq, true_and] at hv
          exact fun j u hu => (hA'.src.2 _ hv.1.symm) j u hu
        have HML : Hid (M.length + 1 ≤ 1048576) := by show _ ≤ _; rw [HM.out]; have h1 := keepX_len (fun c : Cli => decide (c.id = id)) (R.cls.take k); rw [List.length_take] at h1; have := HKL.out; omega
        obtain ⟨P8, hP8⟩ : ∃ P8 : World → Value → Prop, P8 = (fun W y => ∃ g2 c2, y = .slice (some ⟨g2, 0, none⟩) (M.length + 1) c2 ∧ W.ownsRow w1.heap.size 68 7 (.slice (some ⟨g2, 0, none⟩) (M.length + 1) c2) (M.length + 1) (cltl (M ++ [z])) ∧ (wr.alloc (.cells #[.int .i64 z.id, .string z.key, .int .i64 z.fe, .int .i64 z.fr, .int .i64 z.st, .string z.got, .int .i64 z.ag] 68)).drew.grownBy W Y.c.ownBlock) := ⟨_, rfl⟩
        obtain ⟨n7⟩ : Nonempty (wr.cell? ⟨N, 7, none⟩ = some Y.c) := ⟨HN.out.cells.2.2.2.2.2.2.2.1⟩
        have HBB : Hid (Below w1.heap.size w1 wr) := HB.out
        clear HM HB HN HO
        go_upto_region 7 with fail
        refine wp_region_held_drew (S := fun W => W.cell? ⟨A, 7, none⟩ = some (.slice (some ⟨g, off, none⟩) R.cls.length cc) ∧ W.cell? ⟨g, off + k * 7, none⟩ = some (.int .i64 z.id) ∧ W.cell? ⟨g, off + k * 7 + 1, none⟩ = some (.string z.key) ∧ W.cell? ⟨g, off + k * 7 + 2, none⟩ = some (.int .i64 z.fe) ∧ W.cell? ⟨g, off + k * 7 + 3, none⟩ = some (.int .i64 z.fr) ∧ W.cell? ⟨g, off + k * 7 + 4, none⟩ = some (.int .i64 z.st) ∧ W.cell? ⟨g, off + k * 7 + 5, none⟩ = some (.string z.got) ∧ W.cell? ⟨g, off + k * 7 + 6, none⟩ = some (.int .i64 z.ag)) (by kernel_rfl) (KS _ hdr) (fun hHeld => ?_)
        refine wpAnyH_take (i := 0) (oi := _) (v := (.pointer (some ⟨N, 7, none⟩))) rfl (by kernel_rfl) (by kernel_rfl) (by kernel_rfl) (fun _ _ _ h => h) (Or.inl ⟨by rfl, ?_⟩) (by assumption) ?_
        · intro W hSw
          obtain ⟨p7, p0, p1, p2, p3, p4, p5, p6⟩ := hSw
          go_simp
        refine wpAnyH_take (i := 2) (oi := _) (v := (.pointer (some ⟨A, 7, none⟩))) rfl (by kernel_rfl) (by kernel_rfl) (by kernel_rfl) (fun _ _ _ h => h) (Or.inl ⟨by rfl, ?_⟩) (by assumption) ?_
        · intro W hSw
          obtain ⟨p7, p0, p1, p2, p3, p4, p5, p6⟩ := hSw
          go_simp
        refine wpAnyH_take (i := 3) (oi := _) (v := (.slice (some ⟨g, off, none⟩) R.cls.length cc)) rfl (by kernel_rfl) (by kernel_rfl) (by kernel_rfl) (fun _ _ _ h => h) (Or.inl ⟨by rfl, ?_⟩) (by assumption) ?_
        · intro W hSw
          obtain ⟨p7, p0, p1, p2, p3, p4, p5, p6⟩ := hSw
          go_simp
        refine wpAnyH_take (i := 4) (oi := _) (v := (.int .i64 k)) rfl (by kernel_rfl) (by kernel_rfl) (by kernel_rfl) (fun _ _ _ h => h) (Or.inl ⟨by rfl, ?_⟩) (by assumption) ?_
        · intro W hSw
          obtain ⟨p7, p0, p1, p2, p3, p4, p5, p6⟩ := hSw
          go_simp
        refine wpAnyH_take (i := 5) (oi := _) (v := (.pointer (some ⟨g, off + k * 7, none⟩))) rfl (by kernel_rfl) (by kernel_rfl) (by kernel_rfl) (fun _ _ _ h => h) (Or.inl ⟨by rfl, ?_⟩) (by assumption) ?_
        · intro W hSw
          obtain ⟨p7, p0, p1, p2, p3, p4, p5, p6⟩ := hSw
          go_simp
        refine wpAnyH_take (i := 6) (oi := _) (v := (.agg #[.int .i64 z.id, .string z.key, .int .i64 z.fe, .int .i64 z.fr, .int .i64 z.st, .string z.got, .int .i64 z.ag])) rfl (by kernel_rfl) (by kernel_rfl) (by kernel_rfl) (fun _ _ _ h => h) (Or.inl ⟨by rfl, ?_⟩) (by assumption) ?_
        · intro W hSw
          obtain ⟨p7, p0, p1, p2, p3, p4, p5, p6⟩ := hSw
          go_simp
        refine wpAnyH_inv (fun s a W => (W.cell? ⟨A, 7, none⟩ = some (.slice (some ⟨g, off, none⟩) R.cls.length cc) ∧ W.cell? ⟨g, off + k * 7, none⟩ = some (.int .i64 z.id) ∧ W.cell? ⟨g, off + k * 7 + 1, none⟩ = some (.string z.key) ∧ W.cell? ⟨g, off + k * 7 + 2, none⟩ = some (.int .i64 z.fe) ∧ W.cell? ⟨g, off + k * 7 + 3, none⟩ = some (.int .i64 z.fr) ∧ W.cell? ⟨g, off + k * 7 + 4, none⟩ = some (.int .i64 z.st) ∧ W.cell? ⟨g, off + k * 7 + 5, none⟩ = some (.string z.got) ∧ W.cell? ⟨g, off + k * 7 + 6, none⟩ = some (.int .i64 z.ag)) ∧ ∃ (bz1 bz7 bz8 bz9 bz0 : Bool) (y27 y33 y34 y35 : Value), s = #[true, bz1, true, true, true, true, true, bz7, bz8, bz9, bz0] ∧ a = ⟨#[.agg #[.int .i64 R.now, xe, xw, xm, xk, .int .i64 R.pol.sk.added, xf, .slice (some ⟨g, off, none⟩) R.cls.length cc, .int .i64 R.hits], .int .i64 id, .pointer (some ⟨A, 0, none⟩), undef, .pointer (some ⟨A + 1, 0, none⟩), .pointer (some ⟨N, 0, none⟩), .int .i64 k, .agg #[.int .i64 R.now, xe, xw, xm, xk, .int .i64 R.pol.sk.added, xf, .slice (some ⟨g, off, none⟩) R.cls.length cc, .int .i64 R.hits], .agg #[.int .i64 R.now, .slice e0 R.ents.length e1, .slice x0 R.pol.win.length x1, .slice m0 R.pol.main.length m1, .slice k0 R.pol.sk.rows.length k1, .int .i64 R.pol.sk.added, .slice f0 R.fes.length f1, .slice c0 R.cls.length c1, .int .i64 R.hits], .slice (some ⟨N + 1, 0, none⟩) 0 0, .pointer (some ⟨N, 7, none⟩), .int .i64 k, .pointer (some ⟨A, 7, none⟩), .slice (some ⟨g, off, none⟩) R.cls.length cc, .int .i64 R.cls.length, .bool true, u16, u17, .pointer (some ⟨A, 7, none⟩), .slice (some ⟨g, off, none⟩) R.cls.length cc, .int .i64 k, .pointer (some ⟨g, off + k * 7, none⟩), .pointer (some ⟨g, off + k * 7, none⟩), .int .i64 z.id, .int .i64 id, .bool true, .pointer (some ⟨N, 7, none⟩), y27, .pointer (some ⟨A, 7, none⟩), .slice (some ⟨g, off, none⟩) R.cls.length cc, .int .i64 k, .pointer (some ⟨g, off + k * 7, none⟩), .agg #[.int .i64 z.id, .string z.key, .int .i64 z.fe, .int .i64 z.fr, .int .i64 z.st, .string z.got, .int .i64 z.ag], y33, y34, y35, undef], []⟩ ∧
          ((bz8 = false ∧ bz9 = false ∧ bz0 = false ∧ (bz1 = true → y27 = Y.c) ∧ (bz7 = false → W = wr.drew) ∧ (bz7 = true → W = (wr.alloc (.cells #[.int .i64 z.id, .string z.key, .int .i64 z.fe, .int .i64 z.fr, .int .i64 z.st, .string z.got, .int .i64 z.ag] 68)).drew ∧ y33 = .slice (some ⟨wr.heap.size, 0, none⟩) 1 1)) ∨
           (bz1 = true ∧ bz7 = true ∧ bz8 = true ∧ bz0 = false ∧ (bz9 = true → y35 = .pointer (some ⟨N, 7, none⟩)) ∧ P8 W y34) ∨
           (bz1 = true ∧ bz7 = true ∧ bz8 = true ∧ bz9 = true ∧ bz0 = true ∧ ∃ W8, P8 W8 y34 ∧ W = W8.setCell ⟨N, 7, none⟩ y34))) (by kernel_rfl) ?_ ?_ ?_ ?_ _ _ _ _ ?_ (by decide)
        · rintro s a W ⟨_, bz1, bz7, bz8, bz9, bz0, y27, y33, y34, y35, rfl, _⟩
          rfl
        · rintro s a W ⟨h, _⟩
          exact h
        · rintro s a W i ⟨hS, bz1, bz7, bz8, bz9, bz0, y27, y33, y34, y35, rfl, rfl, hJ⟩ hi'
          obtain ⟨h1, o, ho, hall⟩ := mem_ready.1 hi'
          have hlt' : i < 11 := by simpa using (Array.getElem?_eq_some_iff.1 ho).1
          clear hi'
          rcases (by omega : i = 0 ∨ i = 1 ∨ i = 2 ∨ i = 3 ∨ i = 4 ∨ i = 5 ∨ i = 6 ∨ i = 7 ∨ i = 8 ∨ i = 9 ∨ i = 10) with rfl | rfl | rfl | rfl | rfl | rfl | rfl | rfl | rfl | rfl | rfl
          · simp at h1
          · have hf : bz1 = false := by simpa using h1
            subst hf
            injection ho with ho'
            subst ho'
            simp [Region.binds] at hall
            rcases hJ with ⟨e8, e9, e0', c1, c7, d7⟩ | ⟨e1', _⟩ | ⟨e1', _⟩
            case inr.inl => cases e1'
            case inr.inr => cases e1'
            have hc : W.cell? ⟨N, 7, none⟩ = some Y.c := by
              cases bz7 with
              | false => rw [c7 rfl]; exact n7
              | true => rw [(d7 rfl).1]; exact HNX.out.cells.2.2.2.2.2.2.2.1
            refine wpOp_value (w' := W) Y.c rfl rfl (by go_simp) ?_
            exact ⟨hS, true, bz7, bz8, bz9, bz0, _, y33, y34, y35, rfl, rfl, .inl ⟨e8, e9, e0', fun _ => rfl, c7, d7⟩⟩
          · simp at h1
          · simp at h1
          · simp at h1
          · simp at h1
          · simp at h1
          · have hf : bz7 = false := by simpa using h1
            subst hf
            injection ho with ho'
            subst ho'
            simp [Region.binds] at hall
            rcases hJ with ⟨e8, e9, e0', c1, c7, d7⟩ | ⟨_, e1', _⟩ | ⟨_, e1', _⟩
            case inr.inl => cases e1'
            case inr.inr => cases e1'
            obtain rfl := c7 rfl
            refine wpOp_value (w' := (wr.alloc (.cells #[.int .i64 z.id, .string z.key, .int .i64 z.fe, .int .i64 z.fr, .int .i64 z.st, .string z.got, .int .i64 z.ag] 68)).drew) (.slice (some ⟨wr.heap.size, 0, none⟩) 1 1) rfl rfl (by go_simp) ?_
            exact ⟨KS _ hbx, bz1, true, bz8, bz9, bz0, y27, _, y34, y35, rfl, rfl, .inl ⟨e8, e9, e0', c1, (fun h => by cases h), fun _ => ⟨rfl, rfl⟩⟩⟩
          · have hf : bz8 = false := by simpa using h1
            subst hf
            injection ho with ho'
            subst ho'
            simp [Region.binds] at hall
            rcases hJ with ⟨e8, e9, e0', c1, c7, d7⟩ | ⟨_, _, e1', _⟩ | ⟨_, _, e1', _⟩
            case inr.inl => cases e1'
            case inr.inr => cases e1'
            obtain ⟨rfl, hy33⟩ := d7 hall.2
            have hy27 := c1 hall.1
            subst hy27 hy33
            refine wpOp_if rfl rfl ?_
            refine step_append_lies _ rfl (.tmp 27) (.tmp 33) 49 rfl w1.heap.size 68 i0 _ 7 72 Try.underlying49 hi hz0 hz1 hz2 rfl (by omega) Y.c M.length (cltl M) rfl HOC.out ⟨wr.heap.size, 0, none⟩ 1 1 (cltl [z]) rfl rfl HNW.out (cltl_one _) (by omega) (by have := HML.out; unfold maxLen; omega) (by have := HML.out; omega) (Nat.le_trans hwl hbr.size) _ rfl ?_
            intro g2 c2 w8 h1 h2 h3 h4
            have hb8 : Below w1.heap.size wr w8 := Below.grown hbx h2 (Nat.le_trans hwl hbr.size) (fun j hj => (HOX.out.c.lt j hj).1)
            have hp : P8 w8 (.slice (some ⟨g2, 0, none⟩) (M.length + 1) c2) := by rw [hP8]; exact ⟨g2, c2, rfl, by rw [cltl_append]; exact h1, h2⟩
            exact ⟨KS _ hb8, bz1, bz7, true, bz9, bz0, _, _, _, y35, rfl, rfl, .inr (.inl ⟨hall.1, hall.2, rfl, e0', fun h => (by rw [e9] at h; cases h), hp⟩)⟩
          · have hf : bz9 = false := by simpa using h1
            subst hf
            injection ho with ho'
            subst ho'
            simp [Region.binds] at hall
            rcases hJ with ⟨e8, _⟩ | ⟨e1', e7', e8', e0', e9', hp⟩ | ⟨_, _, _, e1', _⟩
            case inl => simp_all
            case inr.inr => cases e1'
            refine wpOp_value (w' := W) (.pointer (some ⟨N, 7, none⟩)) rfl rfl (by go_simp) ?_
            exact ⟨hS, bz1, bz7, bz8, true, bz0, y27, y33, y34, _, rfl, rfl, .inr (.inl ⟨e1', e7', e8', e0', fun _ => rfl, hp⟩)⟩
          · have hf : bz0 = false := by simpa using h1
            subst hf
            injection ho with ho'
            subst ho'
            simp [Region.binds] at hall
            rcases hJ with ⟨e8, _⟩ | ⟨e1', e7', e8', e0', e9', hp⟩ | ⟨_, _, _, _, e1', _⟩
            case inl => simp_all
            case inr.inr => cases e1'
            have h9 : bz9 = true := by simp_all
            have hy35 := e9' h9
            subst hy35
            have hp' := hp
            rw [hP8] at hp'
            obtain ⟨g2, c2, rfl, h1', h2'⟩ := hp'
            have hb8 : Below w1.heap.size wr W := Below.grown hbx h2' (Nat.le_trans hwl hbr.size) (fun j hj => (HOX.out.c.lt j hj).1)
            have hN8 := NB.kept HNX.out ((grown_box h2' HNX.out HOX.out.c.type (by decide)).trans (Eq.symm HNX.out))
            have x7 := hN8.cells.2.2.2.2.2.2.2.1
            have xt := hN8.thaw 7
            have hb9 : Below w1.heap.size wr (W.setCell ⟨N, 7, none⟩ (.slice (some ⟨g2, 0, none⟩) (M.length + 1) c2)) := hb8.setCell HNL.out.2.1 _
            refine wpOp_skip (w' := W.setCell ⟨N, 7, none⟩ (.slice (some ⟨g2, 0, none⟩) (M.length + 1) c2)) rfl rfl (by go_simp) ?_
            exact ⟨KS _ hb9, bz1, bz7, bz8, bz9, true, y27, y33, _, _, rfl, rfl, .inr (.inr ⟨e1', e7', e8', h9, rfl, W, hp, rfl⟩)⟩
        · rintro s a W ⟨_, bz1, bz7, bz8, bz9, bz0, y27, y33, y34, y35, rfl, rfl, hJ⟩ hall
          have h0 : bz0 = true := by simpa using hall 10 (by simp)
          rcases hJ with ⟨_, _, e0', _⟩ | ⟨_, _, _, e0', _⟩ | ⟨_, _, _, _, _, W8, hp, rfl⟩
          case inl => rw [e0'] at h0; cases h0
          case inr.inl => rw [e0'] at h0; cases h0
          rw [hP8] at hp
          obtain ⟨g2, c2, rfl, h1', h2'⟩ := hp
          have hown : OwnCli W8 w1.heap.size 68 (.slice (some ⟨g2, 0, none⟩) (M.length + 1) c2) (M ++ [z]) := by unfold OwnCli; rw [List.length_append]; exact h1'
          have hb8 : Below w1.heap.size wr W8 := Below.grown hbx h2' (Nat.le_trans hwl hbr.size) (fun j hj => (HOX.out.c.lt j hj).1)
          have hN8 := NB.kept HNX.out ((grown_box h2' HNX.out HOX.out.c.type (by decide)).trans (Eq.symm HNX.out))
          have HF1 : Hid (NB (W8.setCell ⟨N, 7, none⟩ (.slice (some ⟨g2, 0, none⟩) (M.length + 1) c2)) N 51 (.int .i64 R.now) Y.e Y.w Y.m Y.k (.int .i64 R.pol.sk.added) Y.f (.slice (some ⟨g2, 0, none⟩) (M.length + 1) c2) (.int .i64 R.hits)) := hN8.set7 _
          have HF2 : Hid (PxOwn (W8.setCell ⟨N, 7, none⟩ (.slice (some ⟨g2, 0, none⟩) (M.length + 1) c2)) w1.heap.size (W8.setCell ⟨N, 7, none⟩ (.slice (some ⟨g2, 0, none⟩) (M.length + 1) c2)).heap.size ⟨Y.e, Y.w, Y.m, Y.k, Y.f, .slice (some ⟨g2, 0, none⟩) (M.length + 1) c2⟩ (Prx.mk R.now R.ents R.pol R.fes (M ++ [z]) R.hits)) := ((HOX.out.setC h2' hown).box hN8 (by unfold PxT; decide) (fun j hj => Below.heap_setCell _ _ _ _ (by exact hj))).up
          have HF3 : Hid (Below w1.heap.size w1 (W8.setCell ⟨N, 7, none⟩ (.slice (some ⟨g2, 0, none⟩) (M.length + 1) c2))) := (HBB.out.trans hb8).setCell HNL.out.2.1 _
          clear hown hb8 hN8 h1' h2' hall KS hdr hbx hbr hHeld
          go_wp2_with fail
          go_roundw
          case rel =>
            try ((repeat apply Exists.intro); refine ⟨?_, rfl⟩)
            exact ⟨⟨k + 1, ⟨Y.e, Y.w, Y.m, Y.k, Y.f, .slice (some ⟨g2, 0, none⟩) (M.length + 1) c2⟩, M ++ [z], HKL.out, by go_num, HK2.out, HF1.out, HF2.out, HF3.out⟩⟩
          case measure => have := HKL.out; simp [intOf]; omega
        · exact ⟨KS _ hdr, false, false, false, false, false, u27, u33, u34, u35, by kernel_rfl, by kernel_rfl, .inl ⟨rfl, rfl, rfl, fun h => (by cases h), fun _ => rfl, fun h => (by cases h)⟩⟩
    · have hke : k = R.cls.length := by omega
      have hi2 : ¬ (k : Int) < (R.cls.length : Int) := by omega
      have HLR : Hid (leaveR R id = (Prx.mk R.now R.ents R.pol R.fes M R.hits)) := by
        show _ = _
        have h := HM.out
        rw [hke, List.take_length] at h
        rw [h]
        rfl
      have b7 := (HA1.out wr HB.out).1.cells.2.2.2.2.2.2.2.1
      have hOR : PxOwn wr w1.heap.size wr.heap.size Y (Prx.mk R.now R.ents R.pol R.fes M R.hits) := HO.out
      obtain ⟨s0, s1, s2, s3, s4, s5, s6, s7, s8, s9, sa, sb, rfl⟩ := hOR.slices
      have hNY : NB wr N 51 (.int .i64 R.now) (.slice s0 R.ents.length s1) (.slice s2 R.pol.win.length s3) (.slice s4 R.pol.main.length s5) (.slice s6 R.pol.sk.rows.length s7) (.int .i64 R.pol.sk.added) (.slice s8 R.fes.length s9) (.slice sa M.length sb) (.int .i64 R.hits) := HN.out
      obtain ⟨y0, y1, y2, y3, y4, y5, y6, y7, y8⟩ := hNY.cells
      have hRR := (HA1.out wr HB.out).2.1
      obtain ⟨r0, r1, r2, r3, r4, r5, r6, r7, r8⟩ := hRR.cells
      have t0 := hRR.thaw 0
      have t1 := hRR.thaw 1
      have t2 := hRR.thaw 2
      have t3 := hRR.thaw 3
      have t4 := hRR.thaw 4
      have t5 := hRR.thaw 5
      have t6 := hRR.thaw 6
      have t7 := hRR.thaw 7
      have t8 := hRR.thaw 8
      have HOA : Hid (PxOwn (((((((((wr.setCell ⟨A + 1, 0, none⟩ (.int .i64 R.now)).setCell ⟨A + 1, 1, none⟩ (.slice s0 R.ents.length s1)).setCell ⟨A + 1, 2, none⟩ (.slice s2 R.pol.win.length s3)).setCell ⟨A + 1, 3, none⟩ (.slice s4 R.pol.main.length s5)).setCell ⟨A + 1, 4, none⟩ (.slice s6 R.pol.sk.rows.length s7)).setCell ⟨A + 1, 5, none⟩ (.int .i64 R.pol.sk.added)).setCell ⟨A + 1, 6, none⟩ (.slice s8 R.fes.length s9)).setCell ⟨A + 1, 7, none⟩ (.slice sa M.length sb)).setCell ⟨A + 1, 8, none⟩ (.int .i64 R.hits)) w1.heap.size wr.heap.size ⟨.slice s0 R.ents.length s1, .slice s2 R.pol.win.length s3, .slice s4 R.pol.main.length s5, .slice s6 R.pol.sk.rows.length s7, .slice s8 R.fes.length s9, .slice sa M.length sb⟩ (Prx.mk R.now R.ents R.pol R.fes M R.hits)) := hOR.box hRR (by unfold PxT; decide) (fun k hk => put9_other wr (A + 1) (.int .i64 R.now) (.slice s0 R.ents.length s1) (.slice s2 R.pol.win.length s3) (.slice s4 R.pol.main.length s5) (.slice s6 R.pol.sk.rows.length s7) (.int .i64 R.pol.sk.added) (.slice s8 R.fes.length s9) (.slice sa M.length sb) (.int .i64 R.hits) k hk)
      have HBF : Hid (Below A w (((((((((wr.setCell ⟨A + 1, 0, none⟩ (.int .i64 R.now)).setCell ⟨A + 1, 1, none⟩ (.slice s0 R.ents.length s1)).setCell ⟨A + 1, 2, none⟩ (.slice s2 R.pol.win.length s3)).setCell ⟨A + 1, 3, none⟩ (.slice s4 R.pol.main.length s5)).setCell ⟨A + 1, 4, none⟩ (.slice s6 R.pol.sk.rows.length s7)).setCell ⟨A + 1, 5, none⟩ (.int .i64 R.pol.sk.added)).setCell ⟨A + 1, 6, none⟩ (.slice s8 R.fes.length s9)).setCell ⟨A + 1, 7, none⟩ (.slice sa M.length sb)).setCell ⟨A + 1, 8, none⟩ (.int .i64 R.hits))) := Below.put9 (HA1.out wr HB.out).2.2.2 (T := A + 1) (by omega) (.int .i64 R.now) (.slice s0 R.ents.length s1) (.slice s2 R.pol.win.length s3) (.slice s4 R.pol.main.length s5) (.slice s6 R.pol.sk.rows.length s7) (.int .i64 R.pol.sk.added) (.slice s8 R.fes.length s9) (.slice sa M.length sb) (.int .i64 R.hits)
      have HPQ : Hid (NB wr (A + 1) 51 (.int .i64 0) (.slice none 0 0) (.slice none 0 0) (.slice none 0 0) (.slice none 0 0) (.int .i64 0) (.slice none 0 0) (.slice none 0 0) (.int .i64 0)) := hRR
      have HSZ : Hid (wr.heap.size ≤ (((((((((wr.setCell ⟨A + 1, 0, none⟩ (.int .i64 R.now)).setCell ⟨A + 1, 1, none⟩ (.slice s0 R.ents.length s1)).setCell ⟨A + 1, 2, none⟩ (.slice s2 R.pol.win.length s3)).setCell ⟨A + 1, 3, none⟩ (.slice s4 R.pol.main.length s5)).setCell ⟨A + 1, 4, none⟩ (.slice s6 R.pol.sk.rows.length s7)).setCell ⟨A + 1, 5, none⟩ (.int .i64 R.pol.sk.added)).setCell ⟨A + 1, 6, none⟩ (.slice s8 R.fes.length s9)).setCell ⟨A + 1, 7, none⟩ (.slice sa M.length sb)).setCell ⟨A + 1, 8, none⟩ (.int .i64 R.hits)).heap.size) := by show _ ≤ _; rw [put9_size]; exact Nat.le_refl _
      have HALL : Hid _ := (fun (_ : Unit) => And.intro HOA.out (And.intro HBF.out (And.intro HPQ.out HSZ.out)))
      clear hOR hNY hRR HN HO HB HM hke hlt hk HOA HBF HPQ HSZ
      go_wp2_with fail
      obtain ⟨hOX, hBX, hPX, hSX⟩ := HALL.out ()
      obtain ⟨q0, q1, q2, q3, q4, q5, q6, q7, q8⟩ := (NB.put hPX (.int .i64 R.now) (.slice s0 R.ents.length s1) (.slice s2 R.pol.win.length s3) (.slice s4 R.pol.main.length s5) (.slice s6 R.pol.sk.rows.length s7) (.int .i64 R.pol.sk.added) (.slice s8 R.fes.length s9) (.slice sa M.length sb) (.int .i64 R.hits)).cells
      refine bodyPost_ret (v := .agg #[.int .i64 R.now, .slice s0 R.ents.length s1, .slice s2 R.pol.win.length s3, .slice s4 R.pol.main.length s5, .slice s6 R.pol.sk.rows.length s7, .int .i64 R.pol.sk.added, .slice s8 R.fes.length s9, .slice sa M.length sb, .int .i64 R.hits]) (by simp [results, Try.results21, go_sem, q0, q1, q2, q3, q4, q5, q6, q7, q8]) rfl ⟨⟨.slice s0 R.ents.length s1, .slice s2 R.pol.win.length s3, .slice s4 R.pol.main.length s5, .slice s6 R.pol.sk.rows.length s7, .slice s8 R.fes.length s9, .slice sa M.length sb⟩, by rw [HLR.out], ?_, hBX⟩
      rw [HLR.out]
      exact hOX.mono (by have := HAA.out; omega) hSX
end Go.Proofs.Ytonaaimefcgcnaa
