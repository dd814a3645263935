/- Any policy is drawn. Written by mkpany.py. -/
import Derived.Test.YtbcjkinalghokafDoorPolDrawJ
import Derived.Test.YtbcjkinalghokafDoorSketchAny
import Derived.Test.YtbcjkinalghokafDoorSkCopySpecJ
import Derived.Deep.RegionLaw
import Derived.Deep.AppendLies
namespace Go.Proofs.YtbcjkinalghokafDoor
open Go.RowKit Go.Sort

/-- A policy that lies, wherever what stands from lo on stays. -/
def PolS (w : World) (lo : Nat) (a1 a2 a3 : Option Addr) (P : Pol) : Prop := ∀ w', (∀ k, lo ≤ k → w'.heap[k]? = w.heap[k]?) → w.heap.size ≤ w'.heap.size → PolAt w' a1 a2 a3 P w'.heap.size
theorem ownV_stable {w w' : World} {lo n : Nat} {a : Option Addr} {c : Nat} {L : List ByteArray} (h : OwnV w lo 9 (.slice a n c) (strs L)) (hk : ∀ k, lo ≤ k → w'.heap[k]? = w.heap[k]?) : LAt w' a L w'.heap.size := by
  obtain ⟨x, y, e, hA⟩ := (h.kept (w' := w') fun k hk' => hk k (h.lt k hk').1).strsAt
  simp only [Value.slice.injEq] at e
  rw [e.1]
  exact hA
theorem PHold.stable {w : World} {lo V n1 n2 n3 : Nat} {ty : TypeId} {ext : List Value} {a1 a2 a3 : Option Addr} {c1 c2 c3 : Nat} {P : Pol} (h : PHold w V ty ext lo (.slice a1 n1 c1) (.slice a2 n2 c2) (.slice a3 n3 c3) P) : PolS w lo a1 a2 a3 P := fun w' hk hs => by
  obtain ⟨_, h1, h2, _, h3⟩ := h
  refine ⟨ownV_stable h1 hk, ownV_stable h2 hk, ?_⟩
  obtain ⟨x, y, e, hA⟩ := (h3.kept (w' := w') fun k k1 _ _ _ => hk k k1).at
  simp only [Value.slice.injEq] at e
  rw [e.1]
  exact hA
theorem PolV.stable {w : World} {lo T : Nat} {a1 a2 a3 : Option Addr} {c1 c2 c3 : Nat} {P : Pol} (h : PolV w lo T a1 a2 a3 c1 c2 c3 P) : PolS w lo a1 a2 a3 P := h.hold.stable
theorem PolS.mono {w : World} {lo lo' : Nat} {a1 a2 a3 : Option Addr} {P : Pol} (h : PolS w lo a1 a2 a3 P) (hl : lo' ≤ lo) : PolS w lo' a1 a2 a3 P := fun w' hk hs => h w' (fun k hk' => hk k (by omega)) hs
theorem PolS.put4 {w : World} {lo R : Nat} {a1 a2 a3 : Option Addr} {P : Pol} (h : PolS w lo a1 a2 a3 P) (hR : R < lo) (x y z u : Value) : PolS ((((w.setCell ⟨R, 0, none⟩ x).setCell ⟨R, 1, none⟩ y).setCell ⟨R, 2, none⟩ z).setCell ⟨R, 3, none⟩ u) lo a1 a2 a3 P := fun w' hk hs => h w' (fun k hk' => (hk k hk').trans (put4_other w R x y z u k (by omega))) (by simpa [World.setCell] using hs)
theorem step_snocT {P : Program} {ops : Array Oper} {o : Oper} {a : Act} {K : Act → World → Prop} {Q : Exit → Act → World → Prop} {E : Prop} {w : World} (hgd : o.guard = none) (s x : Operand) (t : TypeId)
    (ho : o.op = .call { callee := .builtin .append, args := #[s, x], argTypes := #[t, t] }) (base : Nat) (ht : P.underlying t = some (.slice 9))
    (hinfo : (P.info? 9).map (fun i => (i.zero, i.size, i.bytes)) = some (some (.string ⟨#[]⟩), 1, 16)) (v : Value) (L : List ByteArray) (hs : a.eval s = v) (hown : OwnV w base 9 v (strs L))
    (B : Nat) (y : ByteArray) (hx : a.eval x = .slice (some ⟨B, 0, none⟩) 1 1) (hB : w.heap[B]? = some (.cells #[.string y] 9 (0, 0))) (hlen : L.length ≤ 2000000) (hbase : base ≤ w.heap.size)
    (h : ∀ g cap w', OwnV w' base 9 (.slice (some ⟨g, 0, none⟩) (L.length + 1) cap) (strs (L ++ [y])) → w.grownBy w' v.ownBlock → (v.ownBlock = some g ∨ w.heap.size ≤ g) → K (a.put o.dst (.slice (some ⟨g, 0, none⟩) (L.length + 1) cap)) w') :
    if Region.wanted o (yielded ops a.tmps) = true then Oper.wp P o a w K Q else E := by
  obtain ⟨i0, hi, hz0, hz1, hz2⟩ := info_parts hinfo
  have hO : w.ownsRow base 9 1 v L.length (strs L) := by
    have h1 := hown
    unfold OwnV at h1
    rw [strs_length] at h1
    exact h1
  refine step_append_lies _ hgd s x t ho base 9 i0 _ 1 16 ht hi hz0 hz1 hz2 rfl (by decide) v L.length (strs L) hs hO ⟨B, 0, none⟩ 1 1 [.string y] hx rfl (fun j u hu => World.news_of_block hB j u (by simpa using hu)) (fun u hu => ?_) (by decide) (by unfold maxLen; omega) (by omega) hbase w.heap.size rfl ?_
  · simp at hu; subst hu; rfl
  · intro g cap w' h1 h2 h3 _
    refine h g cap w' ?_ h2 ?_
    · unfold OwnV
      rw [strs_append, List.length_append, strs_length]
      exact h1
    · rcases h3 with h3 | h3
      · exact .inl h3
      · exact .inr (by omega)
theorem grown_drew {w w' : World} {row : Option Nat} (h : w.drew.grownBy w' row) : w.grownBy w' row := ⟨h.os, h.tape, h.output, h.size, h.block⟩
theorem okP_more {P : Pol} (h : okP P = true) {z : ByteArray} (hz : z.size ≤ 4) : PolSz ⟨P.win ++ [z], P.main, P.sk⟩ ∧ PolSz ⟨P.win, P.main ++ [z], P.sk⟩ := by
  have hw := okP_wgt h
  unfold PolSz
  unfold wgtP at hw ⊢
  simp only [List.length_append, List.length_singleton, wgtL, List.map_append, List.map_cons, List.map_nil, List.sum_append, List.sum_cons, List.sum_nil] at hw ⊢
  omega
theorem okP_sk {P : Pol} (h : okP P = true) {S : Sk} (hS : Few S) : PolSz ⟨P.win, P.main, S⟩ := by
  have hw := okP_wgt h
  have hs : S.rows.length + tot S.rows S.rows.length ≤ 60 := by
    have h2 : ∀ (l : List (List Int)), (∀ r ∈ l, r.length ≤ 16) → (l.map List.length).sum ≤ 16 * l.length := by
      intro l
      induction l with
      | nil => simp
      | cons r rs ih =>
        intro h
        have a := ih (fun x hx => h x (by simp [hx]))
        have b := h r (by simp)
        simp only [List.map_cons, List.sum_cons, List.length_cons]
        omega
    have h3 := h2 S.rows hS.2
    have h4 := hS.1
    unfold tot
    rw [List.take_length]
    omega
  unfold PolSz
  unfold wgtP at hw ⊢
  dsimp only
  omega
set_option maxRecDepth 100000 in
set_option maxHeartbeats 8000000 in
theorem l13Any_any (w : World) (p : Nat) (ca : Option Addr) (n cap : Nat) (hc : Cur w p ca n cap) (hcode : CodeAt w ca n p) (hn : n ≤ 1048576) (hp : p < w.heap.size) :
    Calls Tryd.prog 45 #[.pointer (some ⟨p, 0, none⟩)] w fun e w' => ∃ (a1 a2 a3 : Option Addr) (c1 c2 c3 : Nat) (P : Pol), e = .returned (.agg #[.slice a1 P.win.length c1, .slice a2 P.main.length c2, .slice a3 P.sk.rows.length c3, .int .i64 P.sk.added]) ∧ PolSz P ∧ PolS w' w.heap.size a1 a2 a3 P ∧ Left w w' p ca n cap := by
  obtain ⟨w0, hw0⟩ : ∃ x, w.alloc (.cells #[.slice none 0 0, .slice none 0 0, .slice none 0 0, .int .i64 0] 29) = x := ⟨_, rfl⟩
  have hb0 : Below w.heap.size w w0 := by rw [← hw0]; exact (Below.refl _ _).alloc (Nat.le_refl _) _
  have s0 : w0.heap.size = w.heap.size + 1 := by rw [← hw0]; simp
  obtain ⟨R, hR⟩ : ∃ R, w.heap.size = R := ⟨_, rfl⟩
  have hR0 : PBox w0 R (.slice none 0 0) (.slice none 0 0) (.slice none 0 0) (.int .i64 0) := by rw [← hw0, ← hR]; exact PBox.new _ _ _ _ _
  have hL0 : Left w w0 p ca n cap := (Left.refl hc hcode).below hb0 hp
  have HW0 : Hid (w.alloc (.cells #[.slice none 0 0, .slice none 0 0, .slice none 0 0, .int .i64 0] 29) = w0) := hw0
  have c0 := below_any w0 p ca n cap 12 hL0.1 hL0.2.1 hn (by omega) (by omega)
  have hpR : p < R := by omega
  have hs0 : R < w0.heap.size := by omega
  have HRW : Hid (w.heap.size = R) := hR
  clear hw0 hc hcode hb0 s0 hR
  go_enter Tryd.func45, Tryd.ntmps45
  go_wp2_with fail
  rw [HW0.out]
  refine c0.mono ?_
  rintro e w1 ⟨kk, hkk, _, rfl, hl1⟩
  have hk12 := hkk (by omega)
  have hR1 := hR0.left hl1 (by omega)
  have hL1 := hL0.trans hl1
  have hs1 : R < w1.heap.size := Nat.lt_of_lt_of_le hs0 hl1.2.2.size
  clear c0 hkk hR0 hL0 hl1 HW0 hs0
  have c1 := below_any w1 p ca n cap 60 hL1.1 hL1.2.1 hn (by omega) (by omega)
  go_wp2_with fail
  refine c1.mono ?_
  rintro e w2 ⟨x, hx, _, rfl, hl2⟩
  have hx60 := hx (by omega)
  have hR2 := hR1.left hl2 (by omega)
  have hL2 := hL1.trans hl2
  have hs2 : R < w2.heap.size := Nat.lt_of_lt_of_le hs1 hl2.2.2.size
  clear c1 hx hR1 hL1 hl2 hs1
  have c2 := l13Policy_any w2 p ca n cap hL2.1 hL2.2.1 hn (by omega)
  go_wp2_with fail
  refine c2.mono ?_
  rintro e w3 ⟨v3, P, rfl, hok, ho3, hl3⟩
  obtain ⟨p1, q1, p2, q2, p3, q3, rfl, hA3⟩ := ho3.at
  have hR3 := hR2.left hl3 (by omega)
  have hL3 := hL2.trans hl3
  have hs3 : R < w3.heap.size := Nat.lt_of_lt_of_le hs2 hl3.2.2.size
  clear c2 ho3 hR2 hL2 hl3 hs2
  have c3 := l13Copy_any w3 p1 p2 p3 q1 q2 q3 P hA3 (okP_sz hok)
  go_wp2_with fail
  refine c3.mono ?_
  rintro e w4 ⟨v4, rfl, ho4, hb4⟩
  obtain ⟨a1, c1, a2, c2, a3, c3', rfl, _⟩ := ho4.at
  have S5 := PolV.new ho4 hb4.size
  obtain ⟨T, hT⟩ : ∃ T, w4.heap.size = T := ⟨_, rfl⟩
  obtain ⟨w5, hw5⟩ : ∃ x, w4.alloc (.cells #[.slice a1 P.win.length c1, .slice a2 P.main.length c2, .slice a3 P.sk.rows.length c3', .int .i64 P.sk.added] 29) = x := ⟨_, rfl⟩
  have hbw5 : Below w3.heap.size w3 w5 := by rw [← hw5]; exact hb4.alloc hb4.size _
  rw [hw5, hT] at S5
  have hR5 := hR3.on hbw5
  have hL5 : Left w w5 p ca n cap := hL3.below (hbw5.mono hL3.2.2.size) hp
  have HW5 : Hid (w4.alloc (.cells #[.slice a1 P.win.length c1, .slice a2 P.main.length c2, .slice a3 P.sk.rows.length c3', .int .i64 P.sk.added] 29) = w5) := hw5
  have HTT : Hid (w4.heap.size = T) := hT
  clear c3 hw5 ho4 hb4 hR3 hL3 hbw5 hA3 hT
  go_upto_region 5 with fail
  rw [HW5.out, HTT.out]
  clear HW5 HTT
  rw [HRW.out]
  have hsz := okP_sz hok
  obtain ⟨z0, z1, z2, z3⟩ := S5.cells
  by_cases h3 : 3 ≤ kk
  · have n0 : ¬ (kk : Int) = 0 := by omega
    have n1 : ¬ (kk : Int) = 1 := by omega
    have n2 : ¬ (kk : Int) = 2 := by omega
    have hSS := S5.stable
    have HF : Hid (PolSz (P) ∧ PolS w5 w3.heap.size a1 a2 a3 (P)) := ⟨hsz, hSS⟩
    obtain ⟨r0, r1, r2, r3⟩ := hR5.cells
    have f0 := hR5.thaw 0
    have f1 := hR5.thaw 1
    have f2 := hR5.thaw 2
    have f3 := hR5.thaw 3
    clear hsz hSS
    go_wp2
    obtain ⟨q0, q1, q2, q3⟩ := (hR5.put (.slice a1 P.win.length c1) (.slice a2 P.main.length c2) (.slice a3 P.sk.rows.length c3') (.int .i64 P.sk.added)).cells
    have hSS' := PolS.mono (HF.out.2.put4 (R := R) hs3 (.slice a1 P.win.length c1) (.slice a2 P.main.length c2) (.slice a3 P.sk.rows.length c3') (.int .i64 P.sk.added)) (show w.heap.size ≤ w3.heap.size by have := HRW.out; omega)
    refine bodyPost_ret (v := .agg #[(.slice a1 P.win.length c1), (.slice a2 P.main.length c2), (.slice a3 P.sk.rows.length c3'), .int .i64 P.sk.added]) (by simp [results, Tryd.results45, go_sem, q0, q1, q2, q3]) rfl ⟨a1, a2, a3, c1, c2, c3', P, rfl, HF.out.1, hSS', hL5.below (Below.put4 (T := R) (Below.refl _ _) (by have := HRW.out; omega) _ _ _ _) hp⟩
  rcases (by omega : kk = 0 ∨ kk = 1 ∨ kk = 2) with rfl | rfl | rfl
  · obtain ⟨m, hm⟩ : ∃ m, x % 4 = m := ⟨_, rfl⟩
    have hm3 : m < 4 := by omega
    have tm : (x : Int).tmod 4 = (m : Int) := by rw [Int.tmod_eq_emod_of_nonneg (by omega)]; omega
    have em : (x : Int) % 4 = (m : Int) := by omega
    have hm0 : (0 : Int) ≤ (m : Int) := by omega
    have hm1 : (m : Int) < 4 := by omega
    obtain ⟨z, hz⟩ : ∃ z, ([⟨#[]⟩, ⟨#[47, 97]⟩, ⟨#[47, 110, 101, 119]⟩, ⟨#[47, 120]⟩] : List ByteArray).getD m noKey = z := ⟨_, rfl⟩
    have hzs : z.size ≤ 4 := by
      rw [← hz]
      rcases (by omega : m = 0 ∨ m = 1 ∨ m = 2 ∨ m = 3) with rfl | rfl | rfl | rfl <;> decide
    have hcz : (w5.alloc (.cells #[.string ⟨#[]⟩, .string ⟨#[47, 97]⟩, .string ⟨#[47, 110, 101, 119]⟩, .string ⟨#[47, 120]⟩] 9)).cell? ⟨w5.heap.size, m, none⟩ = some (.string z) := by
      rw [cell_of_row _ _ m _ _ (0, 0) (heap_alloc_new w5 _), ← hz]
      rcases (by omega : m = 0 ∨ m = 1 ∨ m = 2 ∨ m = 3) with rfl | rfl | rfl | rfl <;> rfl
    obtain ⟨X, hX⟩ : ∃ x, w5.alloc (.cells #[.string ⟨#[]⟩, .string ⟨#[47, 97]⟩, .string ⟨#[47, 110, 101, 119]⟩, .string ⟨#[47, 120]⟩] 9) = x := ⟨_, rfl⟩
    have hbX : Below w5.heap.size w5 X := by rw [← hX]; exact (Below.refl _ _).alloc (Nat.le_refl _) _
    have hsX : X.heap.size = w5.heap.size + 1 := by rw [← hX]; simp
    obtain ⟨Y, hY⟩ : ∃ y, X.alloc (.cells #[.string z] 9) = y := ⟨_, rfl⟩
    have hbY : Below w5.heap.size w5 Y := by rw [← hY]; exact hbX.alloc hbX.size _
    have hYB : Y.heap[w5.heap.size + 1]? = some (.cells #[.string z] 9 (0, 0)) := by rw [← hY, ← hsX]; exact heap_alloc_new _ _
    have zX := (S5.on hbX).cells
    have zY := (S5.on hbY).cells
    obtain ⟨zx0, zx1, zx2, zx3⟩ := zX
    obtain ⟨zy0, zy1, zy2, zy3⟩ := zY
    have HYO : Hid (PolV Y w3.heap.size T a1 a2 a3 c1 c2 c3' P ∧ PBox Y R (.slice none 0 0) (.slice none 0 0) (.slice none 0 0) (.int .i64 0) ∧ Left w Y p ca n cap) := ⟨S5.on hbY, hR5.on hbY, hL5.below (hbY.mono hL5.2.2.size) hp⟩
    have hYw : Y.heap[w5.heap.size + 1]? = some (.cells #[.string z] 9 (0, 0)) := hYB
    have hlen : P.win.length ≤ 2000000 := by
      obtain ⟨_, _, _, _, _, h6, h7, _⟩ := okP_iff.1 hok
      omega
    have hszN := (okP_more hok hzs).1
    have hOY : OwnV Y w3.heap.size 9 (.slice a1 P.win.length c1) (strs P.win) := (S5.on hbY).hold.2.1
    have hsY : w3.heap.size ≤ Y.heap.size := (S5.on hbY).low
    have HYV : Hid (∀ w', Y.grownBy w' (Value.slice a1 P.win.length c1).ownBlock → w'.cell? ⟨T, 0, none⟩ = some (.slice a1 P.win.length c1) ∧ w'.frozen? ⟨T, 0, none⟩ = false) := fun w' hg => ⟨((S5.on hbY).hold.var1 pol_ty hg).1, ((S5.on hbY).hold.var1 pol_ty hg).2 0⟩
    rw [hX] at hcz
    rw [← hX] at hcz zx0 zx1 zx2 zx3 hY
    rw [← hY] at zy0 zy1 zy2 zy3 hYB hOY hsY HYV HYO
    have HOK : Hid (okP P = true) := hok
    clear hX hbX hbY hY hz hzs hsz hm hok hsX S5 hR5 hL5
    go_wp2_with fail
    go_region_law (refine step_snocT rfl (.tmp 17) (.tmp 23) 24 rfl w3.heap.size Tryd.underlying24 Tryd.infoSK _ P.win rfl (by exact hOY) (w5.heap.size + 1) z rfl (by exact hYB) hlen (by exact hsY) ?_; intro g cp w6 ho6 hg6 hn6; obtain ⟨t0, t1⟩ := HYV.out w6 (grown_drew hg6))
    all_goals (
      obtain ⟨hVY, hRY, hLY⟩ := HYO.out
      have hgY : ((w5.alloc (.cells #[.string ⟨#[]⟩, .string ⟨#[47, 97]⟩, .string ⟨#[47, 110, 101, 119]⟩, .string ⟨#[47, 120]⟩] 9)).alloc (.cells #[.string z] 9)).grownBy w6 (Value.slice a1 P.win.length c1).ownBlock := grown_drew hg6
      have hH7 := PHold.setWin hVY.hold pol_ty hgY ho6 (fun k e => by simp only [Value.ownBlock, Option.some.injEq] at e; subst e; exact hn6)
      have hlT := PolV.lo hVY
      have hOO : OwnV ((w5.alloc (.cells #[.string ⟨#[]⟩, .string ⟨#[47, 97]⟩, .string ⟨#[47, 110, 101, 119]⟩, .string ⟨#[47, 120]⟩] 9)).alloc (.cells #[.string z] 9)) w3.heap.size 9 (.slice a1 P.win.length c1) (strs P.win) := hOY
      have hRX : PBox (w6.setCell ⟨T, 0, none⟩ (.slice (some ⟨g, 0, none⟩) (P.win.length + 1) cp)) R (.slice none 0 0) (.slice none 0 0) (.slice none 0 0) (.int .i64 0) := PBox.kept (PBox.kept hRY (hgY.block R (PBox.lt hRY) (fun e => by have := (hOO.lt R e.symm).1; omega))) (Below.heap_setCell _ _ _ _ (by show R ≠ T; omega))
      have hLX : Left w (w6.setCell ⟨T, 0, none⟩ (.slice (some ⟨g, 0, none⟩) (P.win.length + 1) cp)) p ca n cap := Left.below hLY (((Below.refl _ _).grown hgY hLY.2.2.size (fun k e => by have := (hOO.lt k e).1; have := HRW.out; omega)).setCell (show w.heap.size ≤ T by have := HRW.out; omega) _) hp
      have hSX := PHold.stable hH7
      obtain ⟨u0, u1, u2, u3, _⟩ := hH7.cells
      obtain ⟨w7, hw7⟩ : ∃ x, w6.setCell ⟨T, 0, none⟩ (.slice (some ⟨g, 0, none⟩) (P.win.length + 1) cp) = x := ⟨_, rfl⟩
      rw [hw7] at hRX hLX hSX u0 u1 u2 u3 ⊢
      clear hw7 hH7 hOO hgY hVY hRY hLY HYO HYV hOY hYB hsY hYw t0 t1 zx0 zx1 zx2 zx3 zy0 zy1 zy2 zy3 hcz z0 z1 z2 z3 ho6 hg6 hn6
      have hszM := hszN
      have HF : Hid (PolSz (⟨P.win ++ [z], P.main, P.sk⟩) ∧ PolS w7 w3.heap.size (some ⟨g, 0, none⟩) a2 a3 (⟨P.win ++ [z], P.main, P.sk⟩)) := ⟨hszM, hSX⟩
      obtain ⟨r0, r1, r2, r3⟩ := hRX.cells
      have f0 := hRX.thaw 0
      have f1 := hRX.thaw 1
      have f2 := hRX.thaw 2
      have f3 := hRX.thaw 3
      clear hszM hSX
      go_wp2
      obtain ⟨q0, q1, q2, q3⟩ := (hRX.put (.slice (some ⟨g, 0, none⟩) (P.win.length + 1) cp) (.slice a2 P.main.length c2) (.slice a3 P.sk.rows.length c3') (.int .i64 P.sk.added)).cells
      have hSS' := PolS.mono (HF.out.2.put4 (R := R) hs3 (.slice (some ⟨g, 0, none⟩) (P.win.length + 1) cp) (.slice a2 P.main.length c2) (.slice a3 P.sk.rows.length c3') (.int .i64 P.sk.added)) (show w.heap.size ≤ w3.heap.size by have := HRW.out; omega)
      refine bodyPost_ret (v := .agg #[(.slice (some ⟨g, 0, none⟩) (P.win.length + 1) cp), (.slice a2 P.main.length c2), (.slice a3 P.sk.rows.length c3'), .int .i64 P.sk.added]) (by simp [results, Tryd.results45, go_sem, q0, q1, q2, q3]) rfl ⟨(some ⟨g, 0, none⟩), a2, a3, cp, c2, c3', ⟨P.win ++ [z], P.main, P.sk⟩, by simp, HF.out.1, hSS', hLX.below (Below.put4 (T := R) (Below.refl _ _) (by have := HRW.out; omega) _ _ _ _) hp⟩)
  · obtain ⟨m, hm⟩ : ∃ m, x % 2 = m := ⟨_, rfl⟩
    have hm3 : m < 2 := by omega
    have tm : (x : Int).tmod 2 = (m : Int) := by rw [Int.tmod_eq_emod_of_nonneg (by omega)]; omega
    have em : (x : Int) % 2 = (m : Int) := by omega
    have hm0 : (0 : Int) ≤ (m : Int) := by omega
    have hm1 : (m : Int) < 2 := by omega
    obtain ⟨z, hz⟩ : ∃ z, ([⟨#[47, 98]⟩, ⟨#[47, 110, 101, 119]⟩] : List ByteArray).getD m noKey = z := ⟨_, rfl⟩
    have hzs : z.size ≤ 4 := by
      rw [← hz]
      rcases (by omega : m = 0 ∨ m = 1) with rfl | rfl <;> decide
    have hcz : (w5.alloc (.cells #[.string ⟨#[47, 98]⟩, .string ⟨#[47, 110, 101, 119]⟩] 9)).cell? ⟨w5.heap.size, m, none⟩ = some (.string z) := by
      rw [cell_of_row _ _ m _ _ (0, 0) (heap_alloc_new w5 _), ← hz]
      rcases (by omega : m = 0 ∨ m = 1) with rfl | rfl <;> rfl
    obtain ⟨X, hX⟩ : ∃ x, w5.alloc (.cells #[.string ⟨#[47, 98]⟩, .string ⟨#[47, 110, 101, 119]⟩] 9) = x := ⟨_, rfl⟩
    have hbX : Below w5.heap.size w5 X := by rw [← hX]; exact (Below.refl _ _).alloc (Nat.le_refl _) _
    have hsX : X.heap.size = w5.heap.size + 1 := by rw [← hX]; simp
    obtain ⟨Y, hY⟩ : ∃ y, X.alloc (.cells #[.string z] 9) = y := ⟨_, rfl⟩
    have hbY : Below w5.heap.size w5 Y := by rw [← hY]; exact hbX.alloc hbX.size _
    have hYB : Y.heap[w5.heap.size + 1]? = some (.cells #[.string z] 9 (0, 0)) := by rw [← hY, ← hsX]; exact heap_alloc_new _ _
    have zX := (S5.on hbX).cells
    have zY := (S5.on hbY).cells
    obtain ⟨zx0, zx1, zx2, zx3⟩ := zX
    obtain ⟨zy0, zy1, zy2, zy3⟩ := zY
    have HYO : Hid (PolV Y w3.heap.size T a1 a2 a3 c1 c2 c3' P ∧ PBox Y R (.slice none 0 0) (.slice none 0 0) (.slice none 0 0) (.int .i64 0) ∧ Left w Y p ca n cap) := ⟨S5.on hbY, hR5.on hbY, hL5.below (hbY.mono hL5.2.2.size) hp⟩
    have hYw : Y.heap[w5.heap.size + 1]? = some (.cells #[.string z] 9 (0, 0)) := hYB
    have hlen : P.main.length ≤ 2000000 := by
      obtain ⟨_, _, _, _, _, h6, h7, _⟩ := okP_iff.1 hok
      omega
    have hszN := (okP_more hok hzs).2
    have hOY : OwnV Y w3.heap.size 9 (.slice a2 P.main.length c2) (strs P.main) := (S5.on hbY).hold.2.2.1
    have hsY : w3.heap.size ≤ Y.heap.size := (S5.on hbY).low
    have HYV : Hid (∀ w', Y.grownBy w' (Value.slice a2 P.main.length c2).ownBlock → w'.cell? ⟨T, 1, none⟩ = some (.slice a2 P.main.length c2) ∧ w'.frozen? ⟨T, 1, none⟩ = false) := fun w' hg => ⟨((S5.on hbY).hold.var2 pol_ty hg).1, ((S5.on hbY).hold.var2 pol_ty hg).2 1⟩
    rw [hX] at hcz
    rw [← hX] at hcz zx0 zx1 zx2 zx3 hY
    rw [← hY] at zy0 zy1 zy2 zy3 hYB hOY hsY HYV HYO
    have HOK : Hid (okP P = true) := hok
    clear hX hbX hbY hY hz hzs hsz hm hok hsX S5 hR5 hL5
    go_wp2_with fail
    go_region_law (refine step_snocT rfl (.tmp 29) (.tmp 35) 24 rfl w3.heap.size Tryd.underlying24 Tryd.infoSK _ P.main rfl (by exact hOY) (w5.heap.size + 1) z rfl (by exact hYB) hlen (by exact hsY) ?_; intro g cp w6 ho6 hg6 hn6; obtain ⟨t0, t1⟩ := HYV.out w6 (grown_drew hg6))
    all_goals (
      obtain ⟨hVY, hRY, hLY⟩ := HYO.out
      have hgY : ((w5.alloc (.cells #[.string ⟨#[47, 98]⟩, .string ⟨#[47, 110, 101, 119]⟩] 9)).alloc (.cells #[.string z] 9)).grownBy w6 (Value.slice a2 P.main.length c2).ownBlock := grown_drew hg6
      have hH7 := PHold.setMain hVY.hold pol_ty hgY ho6 (fun k e => by simp only [Value.ownBlock, Option.some.injEq] at e; subst e; exact hn6)
      have hlT := PolV.lo hVY
      have hOO : OwnV ((w5.alloc (.cells #[.string ⟨#[47, 98]⟩, .string ⟨#[47, 110, 101, 119]⟩] 9)).alloc (.cells #[.string z] 9)) w3.heap.size 9 (.slice a2 P.main.length c2) (strs P.main) := hOY
      have hRX : PBox (w6.setCell ⟨T, 1, none⟩ (.slice (some ⟨g, 0, none⟩) (P.main.length + 1) cp)) R (.slice none 0 0) (.slice none 0 0) (.slice none 0 0) (.int .i64 0) := PBox.kept (PBox.kept hRY (hgY.block R (PBox.lt hRY) (fun e => by have := (hOO.lt R e.symm).1; omega))) (Below.heap_setCell _ _ _ _ (by show R ≠ T; omega))
      have hLX : Left w (w6.setCell ⟨T, 1, none⟩ (.slice (some ⟨g, 0, none⟩) (P.main.length + 1) cp)) p ca n cap := Left.below hLY (((Below.refl _ _).grown hgY hLY.2.2.size (fun k e => by have := (hOO.lt k e).1; have := HRW.out; omega)).setCell (show w.heap.size ≤ T by have := HRW.out; omega) _) hp
      have hSX := PHold.stable hH7
      obtain ⟨u0, u1, u2, u3, _⟩ := hH7.cells
      obtain ⟨w7, hw7⟩ : ∃ x, w6.setCell ⟨T, 1, none⟩ (.slice (some ⟨g, 0, none⟩) (P.main.length + 1) cp) = x := ⟨_, rfl⟩
      rw [hw7] at hRX hLX hSX u0 u1 u2 u3 ⊢
      clear hw7 hH7 hOO hgY hVY hRY hLY HYO HYV hOY hYB hsY hYw t0 t1 zx0 zx1 zx2 zx3 zy0 zy1 zy2 zy3 hcz z0 z1 z2 z3 ho6 hg6 hn6
      have hszM := hszN
      have HF : Hid (PolSz (⟨P.win, P.main ++ [z], P.sk⟩) ∧ PolS w7 w3.heap.size a1 (some ⟨g, 0, none⟩) a3 (⟨P.win, P.main ++ [z], P.sk⟩)) := ⟨hszM, hSX⟩
      obtain ⟨r0, r1, r2, r3⟩ := hRX.cells
      have f0 := hRX.thaw 0
      have f1 := hRX.thaw 1
      have f2 := hRX.thaw 2
      have f3 := hRX.thaw 3
      clear hszM hSX
      go_wp2
      obtain ⟨q0, q1, q2, q3⟩ := (hRX.put (.slice a1 P.win.length c1) (.slice (some ⟨g, 0, none⟩) (P.main.length + 1) cp) (.slice a3 P.sk.rows.length c3') (.int .i64 P.sk.added)).cells
      have hSS' := PolS.mono (HF.out.2.put4 (R := R) hs3 (.slice a1 P.win.length c1) (.slice (some ⟨g, 0, none⟩) (P.main.length + 1) cp) (.slice a3 P.sk.rows.length c3') (.int .i64 P.sk.added)) (show w.heap.size ≤ w3.heap.size by have := HRW.out; omega)
      refine bodyPost_ret (v := .agg #[(.slice a1 P.win.length c1), (.slice (some ⟨g, 0, none⟩) (P.main.length + 1) cp), (.slice a3 P.sk.rows.length c3'), .int .i64 P.sk.added]) (by simp [results, Tryd.results45, go_sem, q0, q1, q2, q3]) rfl ⟨a1, (some ⟨g, 0, none⟩), a3, c1, cp, c3', ⟨P.win, P.main ++ [z], P.sk⟩, by simp, HF.out.1, hSS', hLX.below (Below.put4 (T := R) (Below.refl _ _) (by have := HRW.out; omega) _ _ _ _) hp⟩)
  · have hp5 : p < w5.heap.size := by have := hL5.2.2.size; have := HRW.out; omega
    have cS := l12Any_any w5 p ca n cap hL5.1 hL5.2.1 hn hp5
    have HOK : Hid (okP P = true) := hok
    have hlo : p < w3.heap.size := by omega
    clear hsz hok
    go_wp2_with fail
    refine cS.mono ?_
    rintro e w6 ⟨b, d, S, rfl, hfew, hss, hl6⟩
    have S6 := S5.left hl6 hlo
    have hR6 := hR5.left hl6 (by omega)
    have hL6 := hL5.trans hl6
    have hT5 : T < w5.heap.size := S5.hold.lt
    have hlT := S5.lo
    have hB6 : PBox w6 T (.slice a1 P.win.length c1) (.slice a2 P.main.length c2) (.slice a3 P.sk.rows.length c3') (.int .i64 P.sk.added) := S6.hold.1
    obtain ⟨y0, y1, y2, y3⟩ := hB6.cells
    have tf2 := hB6.thaw 2
    have tf3 := hB6.thaw 3
    obtain ⟨w7, hw7⟩ : ∃ x, (w6.setCell ⟨T, 2, none⟩ (.slice b S.rows.length d)).setCell ⟨T, 3, none⟩ (.int .i64 S.added) = x := ⟨_, rfl⟩
    have hB7 : PBox w7 T (.slice a1 P.win.length c1) (.slice a2 P.main.length c2) (.slice b S.rows.length d) (.int .i64 S.added) := by rw [← hw7]; exact (hB6.set2 _).set3 _
    have far : ∀ k, k ≠ T → w7.heap[k]? = w6.heap[k]? := fun k hk => by rw [← hw7, Below.heap_setCell _ _ _ _ (by exact hk), Below.heap_setCell _ _ _ _ (by exact hk)]
    have hR7 : PBox w7 R (.slice none 0 0) (.slice none 0 0) (.slice none 0 0) (.int .i64 0) := hR6.kept (far R (by omega))
    have hL7 : Left w w7 p ca n cap := by rw [← hw7]; exact hL6.below (((Below.refl _ _).setCell (show w.heap.size ≤ T by have := HRW.out; omega) _).setCell (show w.heap.size ≤ T by have := HRW.out; omega) _) hp
    have hszN := okP_sk HOK.out hfew
    have hSN : PolS w7 w3.heap.size a1 a2 b ⟨P.win, P.main, S⟩ := fun w' hk hs => by
      have hkT : ∀ k, w3.heap.size ≤ k → k ≠ T → w'.heap[k]? = w6.heap[k]? := fun k h1 h2 => (hk k h1).trans (far k h2)
      obtain ⟨hVc, o1, o2, _, _⟩ := S6.hold
      refine ⟨?_, ?_, ?_⟩
      · obtain ⟨x, y, e, hA⟩ := (o1.kept (w' := w') fun k hk' => hkT k (o1.lt k hk').1 (by obtain ⟨cs, hc⟩ := ownV_type o1 k hk'; exact ty_ne hc hVc pol_ty.1)).strsAt
        simp only [Value.slice.injEq, true_and] at e
        rw [e.1]
        exact hA
      · obtain ⟨x, y, e, hA⟩ := (o2.kept (w' := w') fun k hk' => hkT k (o2.lt k hk').1 (by obtain ⟨cs, hc⟩ := ownV_type o2 k hk'; exact ty_ne hc hVc pol_ty.1)).strsAt
        simp only [Value.slice.injEq, true_and] at e
        rw [e.1]
        exact hA
      · exact hss w' (fun k hk' => hkT k (by have := S5.low; omega) (by omega)) (by rw [← hw7] at hs; simpa [World.setCell] using hs)
    obtain ⟨u0, u1, u2, u3⟩ := hB7.cells
    rw [← hw7] at u0 u1 u2 u3
    have HW7 : Hid ((w6.setCell ⟨T, 2, none⟩ (.slice b S.rows.length d)).setCell ⟨T, 3, none⟩ (.int .i64 S.added) = w7) := hw7
    have hRX : PBox ((w6.setCell ⟨T, 2, none⟩ (.slice b S.rows.length d)).setCell ⟨T, 3, none⟩ (.int .i64 S.added)) R (.slice none 0 0) (.slice none 0 0) (.slice none 0 0) (.int .i64 0) := by rw [hw7]; exact hR7
    have hLX : Left w ((w6.setCell ⟨T, 2, none⟩ (.slice b S.rows.length d)).setCell ⟨T, 3, none⟩ (.int .i64 S.added)) p ca n cap := by rw [hw7]; exact hL7
    have hSX : PolS ((w6.setCell ⟨T, 2, none⟩ (.slice b S.rows.length d)).setCell ⟨T, 3, none⟩ (.int .i64 S.added)) w3.heap.size a1 a2 b ⟨P.win, P.main, S⟩ := by rw [hw7]; exact hSN
    clear hw7 hB7 far hR7 hL7 hSN HW7 S6 hR6 hL6 S5 hR5 hL5 hss hfew cS hl6 hB6 z0 z1 z2 z3
    have HF : Hid (PolSz (⟨P.win, P.main, S⟩) ∧ PolS ((w6.setCell ⟨T, 2, none⟩ (.slice b S.rows.length d)).setCell ⟨T, 3, none⟩ (.int .i64 S.added)) w3.heap.size a1 a2 b (⟨P.win, P.main, S⟩)) := ⟨hszN, hSX⟩
    obtain ⟨r0, r1, r2, r3⟩ := hRX.cells
    have f0 := hRX.thaw 0
    have f1 := hRX.thaw 1
    have f2 := hRX.thaw 2
    have f3 := hRX.thaw 3
    clear hszN hSX
    go_wp2
    obtain ⟨q0, q1, q2, q3⟩ := (hRX.put (.slice a1 P.win.length c1) (.slice a2 P.main.length c2) (.slice b S.rows.length d) (.int .i64 S.added)).cells
    have hSS' := PolS.mono (HF.out.2.put4 (R := R) hs3 (.slice a1 P.win.length c1) (.slice a2 P.main.length c2) (.slice b S.rows.length d) (.int .i64 S.added)) (show w.heap.size ≤ w3.heap.size by have := HRW.out; omega)
    refine bodyPost_ret (v := .agg #[(.slice a1 P.win.length c1), (.slice a2 P.main.length c2), (.slice b S.rows.length d), .int .i64 S.added]) (by simp [results, Tryd.results45, go_sem, q0, q1, q2, q3]) rfl ⟨a1, a2, b, c1, c2, d, ⟨P.win, P.main, S⟩, rfl, HF.out.1, hSS', hLX.below (Below.put4 (T := R) (Below.refl _ _) (by have := HRW.out; omega) _ _ _ _) hp⟩
end Go.Proofs.YtbcjkinalghokafDoor
