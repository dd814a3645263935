/- Texts that stand in one: PolTouchImpl, PolHasImpl, PolSizes2. -/
import Derived.Test.YthfjfccdelbkhaaGreatDoorTouchImplJ
import Derived.Test.YthfjfccdelbkhaaGreatDoorPolSzTextJ
import Derived.StillTailTactics
import Derived.Test.YthfjfccdelbkhaaGreatDoorSettleJ
import Derived.Test.YthfjfccdelbkhaaGreatDoorSkLaw3J
import Derived.Test.YthfjfccdelbkhaaGreatDoorSkNewImplJ
import Derived.Test.YthfjfccdelbkhaaGreatDoorPxPlainJ
namespace Go.Proofs.YthfjfccdelbkhaaGreatDoor
open Go.RowKit Go.Sort
theorem PHold.ext4 {w : World} {V lo : Nat} {ty : TypeId} {x y v1 v2 v3 : Value} {P : Pol} (h : PHold w V ty [x] lo v1 v2 v3 P) (ht : tyOk ty) : PHold (w.setCell ⟨V, 4,none⟩ y) V ty [y] lo v1 v2 v3 P := by
 obtain ⟨hV,h1,h2,h3,h4⟩ := h
 have far : ∀ k,k ≠ V → (w.setCell ⟨V, 4,none⟩ y).heap[k]? = w.heap[k]? := fun k hk => Below.heap_setCell _ _ _ _ (by exact hk)
 refine ⟨?_,h1.kept fun k hk => ?_,h2.kept fun k hk => ?_,h3, ?_⟩
 ·rw [heap_put hV]; simp
 ·obtain ⟨cs,hc⟩ := ownV_type h1 k hk
  exact far k (ty_ne hc hV ht.1)
 ·obtain ⟨cs,hc⟩ := ownV_type h2 k hk
  exact far k (ty_ne hc hV ht.1)
 ·rw [show (w.setCell ⟨V, 4,none⟩ y).heap.size = w.heap.size by simp [World.setCell]]
  refine OwnSS.apart h4 fun k cs t hc htt => ?_
  exact far k (ty_ne hc hV (by rcases htt with rfl | rfl; exact ht.2.1; exact ht.2.2))
set_option maxRecDepth 100000 in
set_option maxHeartbeats 8000000 in
theorem implPolicyTouch_any (w : World) (aw am ak : Option Addr) (cw cm ck : Nat) (P : Pol) (key : ByteArray) (hA : PolAt w aw am ak P w.heap.size) (hsz : PolSz P) (hk : key.size ≤ 1048576) (ht : Tab w) :
  Calls Tryz.prog 44 #[.agg #[.slice aw P.win.length cw,.slice am P.main.length cm,.slice ak P.sk.rows.length ck,.int .i64 P.sk.added],.string key] w fun e w' => ∃ v,e = .returned (.tuple #[v,.string (touchP P key).2]) ∧ POwn w' w.heap.size w'.heap.size v (touchP P key).1 ∧ Below w.heap.size w w' := by
 obtain ⟨w1,hw1⟩ : ∃ x,((w.alloc (.cells #[.slice aw P.win.length cw,.slice am P.main.length cm,.slice ak P.sk.rows.length ck,.int .i64 P.sk.added] 30)).alloc (.cells #[.slice none 0 0,.slice none 0 0,.slice none 0 0,.int .i64 0] 30)).alloc (.cells #[.string ⟨#[]⟩] 9) = x := ⟨_,rfl⟩
 have hb1 : Below w.heap.size w w1 := by rw [← hw1]; exact (((Below.refl _ _).alloc (Nat.le_refl _) _).alloc (by simp) _).alloc (by simp; omega) _
 have s1 : w1.heap.size = w.heap.size + 3 := by rw [← hw1]; simp
 have hG : w1.heap[w.heap.size + 2]? = some (.cells #[.string noKey] 9 (0, 0)) := by
  have h := heap_alloc_new ((w.alloc (.cells #[.slice aw P.win.length cw,.slice am P.main.length cm,.slice ak P.sk.rows.length ck,.int .i64 P.sk.added] 30)).alloc (.cells #[.slice none 0 0,.slice none 0 0,.slice none 0 0,.int .i64 0] 30)) (.cells #[.string noKey] 9)
  rw [show ((w.alloc (.cells #[.slice aw P.win.length cw,.slice am P.main.length cm,.slice ak P.sk.rows.length ck,.int .i64 P.sk.added] 30)).alloc (.cells #[.slice none 0 0,.slice none 0 0,.slice none 0 0,.int .i64 0] 30)).heap.size = w.heap.size + 2 by simp] at h
  rw [← hw1]
  exact h
 have hR : PBox w1 (w.heap.size + 1) (.slice none 0 0) (.slice none 0 0) (.slice none 0 0) (.int .i64 0) := by
  have h := PBox.new (w.alloc (.cells #[.slice aw P.win.length cw,.slice am P.main.length cm,.slice ak P.sk.rows.length ck,.int .i64 P.sk.added] 30)) (.slice none 0 0) (.slice none 0 0) (.slice none 0 0) (.int .i64 0)
  have h2 := h.on ((Below.refl _ _).alloc (Nat.le_refl _) (.cells #[.string ⟨#[]⟩] 9))
  rw [hw1] at h2
  simpa using h2
 have hB : PBox w1 w.heap.size (.slice aw P.win.length cw) (.slice am P.main.length cm) (.slice ak P.sk.rows.length ck) (.int .i64 P.sk.added) := by
  have h := PBox.new w (.slice aw P.win.length cw) (.slice am P.main.length cm) (.slice ak P.sk.rows.length ck) (.int .i64 P.sk.added)
  have h2 := h.on (((Below.refl _ _).alloc (Nat.le_refl _) (.cells #[.slice none 0 0,.slice none 0 0,.slice none 0 0,.int .i64 0] 30)).alloc (by simp) (.cells #[.string ⟨#[]⟩] 9))
  rw [hw1] at h2
  exact h2
 have c1 := policyCopy_any w1 aw am ak cw cm ck P (hA.on hb1) hsz
 have HW : Hid (((w.alloc (.cells #[.slice aw P.win.length cw,.slice am P.main.length cm,.slice ak P.sk.rows.length ck,.int .i64 P.sk.added] 30)).alloc (.cells #[.slice none 0 0,.slice none 0 0,.slice none 0 0,.int .i64 0] 30)).alloc (.cells #[.string ⟨#[]⟩] 9) = w1) := hw1
 have HB1 : Hid (Below w.heap.size w w1 ∧ w1.heap.size = w.heap.size + 3) := ⟨hb1,s1⟩
 have HA1 : Hid (PolAt w1 aw am ak P w1.heap.size ∧ PolSz P) := ⟨hA.on hb1,hsz⟩
 have HTB : Hid (∀ W,Below (w.heap.size + 2) w1 W → Tab W) := fun W h => ht.below (hb1.trans (h.mono (by omega))) (Nat.le_refl _)
 obtain ⟨b0,b1,b2,b3⟩ := hB.cells
 rw [← hw1] at b0 b1 b2 b3
 clear hw1 hb1 s1 hA hsz ht
 go_enter Tryz.func44,Tryz.ntmps44
 go_wp2_with fail
 rw [HW.out] at b0 b1 b2 b3 ⊢
 refine c1.mono ?_
 rintro e w2 ⟨v,rfl,hO,hb2⟩
 have hO0 := hO
 obtain ⟨v1,v2,v3,rfl,o1,o2,d1,d2,o3⟩ := hO
 obtain ⟨a2,k2,rfl,_⟩ := o1.strsAt
 obtain ⟨a3,k3,rfl,_⟩ := o2.strsAt
 obtain ⟨a4,k4,rfl,_⟩ := o3.at
 obtain ⟨hb1,s1⟩ := HB1.out
 have H3 := (hO0.hold 99 [.nilFunc]).ext4 (y := outF (w.heap.size + 2)) seats_ty
 obtain ⟨X,hX⟩ : ∃ x,w2.alloc (.cells #[.slice a2 P.win.length k2,.slice a3 P.main.length k3,.slice a4 P.sk.rows.length k4,.int .i64 P.sk.added,.nilFunc] 99) = x := ⟨_,rfl⟩
 have hbX : Below w1.heap.size w1 X := by
  rw [← hX]
  exact hb2.alloc hb2.size _
 have hXV : X.heap[w2.heap.size]? = some (.cells #[.slice a2 P.win.length k2,.slice a3 P.main.length k3,.slice a4 P.sk.rows.length k4,.int .i64 P.sk.added,.nilFunc] 99 (0, 0)) := by rw [← hX]; exact heap_alloc_new _ _
 obtain ⟨w3,hw3⟩ : ∃ x,X.setCell ⟨w2.heap.size, 4,none⟩ (.func (.func 69) #[] #[.pointer (some ⟨w.heap.size + 1 + 1, 0,none⟩)]) = x := ⟨_,rfl⟩
 have hst : (store ⟨w2.heap.size, 4,none⟩ (.func (.func 69) #[] #[.pointer (some ⟨w.heap.size + 1 + 1, 0,none⟩)])).run Tryz.prog X = .ok () w3 := by
  have hc0 : X.cell? ⟨w2.heap.size, 4,none⟩ = some .nilFunc := by rw [cell_of_row X _ 4 _ _ (0, 0) hXV]; rfl
  have hfz : X.frozen? ⟨w2.heap.size, 4,none⟩ = false := by simp [World.frozen?,hXV]
  rw [run_store Tryz.prog _ _ _ _ rfl,hc0]
  simp [hfz,hw3]
 have hb3 : Below w1.heap.size w1 w3 := by
  rw [← hw3]
  exact hbX.setCell hb2.size _
 obtain ⟨V,hV⟩ : ∃ V,w2.heap.size = V := ⟨_,rfl⟩
 obtain ⟨G,hGe⟩ : ∃ G,w.heap.size + 2 = G := ⟨_,rfl⟩
 have S3 : Seats w3 V G w1.heap.size (.slice a2 P.win.length k2) (.slice a3 P.main.length k3) (.slice a4 P.sk.rows.length k4) P noKey := by
  rw [← hV, ← hGe]
  refine ⟨by rw [← hw3, ← hX]; exact H3,(hb3.block _ (by omega)).trans hG,by omega,hb2.size⟩
 rw [← hX] at hst
 have cO := implPolicyOk_sz w3 aw am ak cw cm ck P (HA1.out.1.on hb3) HA1.out.2
 obtain ⟨x0,x1,x2,x3⟩ := (hB.on hb3).cells
 have HV : Hid (w2.heap.size = V) := hV
 have HS3 : Hid (Seats w3 V G w1.heap.size (.slice a2 P.win.length k2) (.slice a3 P.main.length k3) (.slice a4 P.sk.rows.length k4) P noKey) := S3
 have HQ3 : Hid (Below w1.heap.size w1 w3 ∧ Below w.heap.size w w1 ∧ w1.heap.size = w.heap.size + 3 ∧ PBox w1 (w.heap.size + 1) (.slice none 0 0) (.slice none 0 0) (.slice none 0 0) (.int .i64 0) ∧ ∀ W,Below G w1 W → Tab W) := ⟨hb3,hb1,s1,hR,by rw [← hGe]; exact HTB.out⟩
 have HGE : Hid (w.heap.size + 1 + 1 = G) := hGe
 have cKK := fun W => implKeyOk_any W key (by omega)
 have HKK : Hid _ := cKK
 clear c1 hO0 o1 o2 d1 d2 o3 hw3 hX hXV hbX hV hb2 hb3 hb1 s1 H3 S3 hR hG hB HB1 HTB HA1 cKK b0 b1 b2 b3 hGe
 go_wp2_with fail
 refine cO.mono ?_
 rintro e w4 ⟨rfl,hb4⟩
 obtain ⟨hb3,hb1,s1,hR,hTB⟩ := HQ3.out
 have S3 : Seats w3 V G w1.heap.size (.slice a2 P.win.length k2) (.slice a3 P.main.length k3) (.slice a4 P.sk.rows.length k4) P noKey := HS3.out
 have S4 := S3.on hb4
 have hs3 := hb3.size
 have hbw4 : Below w1.heap.size w1 w4 := hb3.trans (hb4.mono hs3)
 have hTB4 : Hid (∀ W,Below G w4 W → Tab W) := fun W h => hTB W ((hbw4.mono (by have := S3.2.2.1; omega)).trans h)
 have hGle : G < w1.heap.size := S3.2.2.1
 have HGW : Hid (w.heap.size + 2 ≤ G ∧ G < w1.heap.size) := ⟨by have := HGE.out; omega,hGle⟩
 rw [HV.out,HGE.out]
 clear cO S3 x0 x1 x2 x3 hb4 HS3 HQ3 hs3 hTB hb3 HW
 cases hok : okP P with
 | false =>
  have HQ : Hid (touchP P key = (P,noKey)) := by show _ = _; unfold touchP; rw [hok]; rfl
  obtain ⟨Q,hQ⟩ : ∃ Q,P = Q := ⟨_,rfl⟩
  have S5 : Seats w4 V G w1.heap.size (.slice a2 P.win.length k2) (.slice a3 P.main.length k3) (.slice a4 P.sk.rows.length k4) Q noKey := hQ ▸ S4
  rw [show (P,noKey) = (Q,noKey) by rw [hQ]] at HQ
  obtain ⟨o,ho⟩ : ∃ o,noKey = o := ⟨_,rfl⟩
  rw [ho] at HQ S5
  obtain ⟨w5,hw5⟩ : ∃ x,w4 = x := ⟨_,rfl⟩
  have hbw5 : Below w.heap.size w w5 := by rw [← hw5]; exact hb1.trans (hbw4.mono (by omega))
  have hR5 : PBox w5 (w.heap.size + 1) (.slice none 0 0) (.slice none 0 0) (.slice none 0 0) (.int .i64 0) := by rw [← hw5]; exact hR.on hbw4
  rw [hw5] at S5 ⊢
  obtain ⟨u1,hu1⟩ : ∃ u : Value,.slice a2 P.win.length k2 = u := ⟨_,rfl⟩
  obtain ⟨u2,hu2⟩ : ∃ u : Value,.slice a3 P.main.length k3 = u := ⟨_,rfl⟩
  obtain ⟨u3,hu3⟩ : ∃ u : Value,.slice a4 P.sk.rows.length k4 = u := ⟨_,rfl⟩
  rw [hu1,hu2,hu3] at S5
  clear S4 hw5 hbw4 hTB4 hok hR hb1 ho hQ hu1 hu2 hu3 HKK
  obtain ⟨e1,j1,rfl,_⟩ := S5.1.2.1.strsAt
  obtain ⟨e2,j2,rfl,_⟩ := S5.1.2.2.1.strsAt
  obtain ⟨e3,j3,rfl,_⟩ := S5.1.2.2.2.2.at
  have HF : Hid (∀ X,((((w5.setCell ⟨w.heap.size + 1, 0,none⟩ (.slice e1 Q.win.length j1)).setCell ⟨w.heap.size + 1, 1,none⟩ (.slice e2 Q.main.length j2)).setCell ⟨w.heap.size + 1, 2,none⟩ (.slice e3 Q.sk.rows.length j3)).setCell ⟨w.heap.size + 1, 3,none⟩ (.int .i64 Q.sk.added)) = X → POwn X.drew w.heap.size X.drew.heap.size (.agg #[.slice e1 Q.win.length j1,.slice e2 Q.main.length j2,.slice e3 Q.sk.rows.length j3,.int .i64 Q.sk.added]) Q ∧ Below w.heap.size w X.drew ∧ (X.cell? ⟨w.heap.size + 1, 0,none⟩ = some (.slice e1 Q.win.length j1) ∧ X.cell? ⟨w.heap.size + 1, 1,none⟩ = some (.slice e2 Q.main.length j2) ∧ X.cell? ⟨w.heap.size + 1, 2,none⟩ = some (.slice e3 Q.sk.rows.length j3) ∧ X.cell? ⟨w.heap.size + 1, 3,none⟩ = some (.int .i64 Q.sk.added))) := fun X hX => by
   have p1 := POwn.mono (POwn.put4 (w := w5) S5.1.own hR5 (.slice e1 Q.win.length j1) (.slice e2 Q.main.length j2) (.slice e3 Q.sk.rows.length j3) (.int .i64 Q.sk.added)) (show w.heap.size ≤ w1.heap.size by omega) (Nat.le_refl _)
   have p2 := Below.put4 (T := w.heap.size + 1) hbw5 (by omega) (.slice e1 Q.win.length j1) (.slice e2 Q.main.length j2) (.slice e3 Q.sk.rows.length j3) (.int .i64 Q.sk.added)
   have p3 := (hR5.put (.slice e1 Q.win.length j1) (.slice e2 Q.main.length j2) (.slice e3 Q.sk.rows.length j3) (.int .i64 Q.sk.added)).cells
   rw [hX] at p1 p2 p3
   have p4 : Below X.heap.size X X.drew := ⟨rfl,rfl,rfl,Nat.le_refl _,fun _ _ => rfl⟩
   exact ⟨(p1.below p4 (Nat.le_refl _)).up,p2.trans (p4.mono p2.size),p3⟩
  obtain ⟨y0,y1,y2,y3,_⟩ := S5.1.cells
  obtain ⟨y4,_⟩ := one_cell S5.2.1
  have y4' : (w5.setCell ⟨w.heap.size + 1, 0,none⟩ (.slice e1 Q.win.length j1)).cell? ⟨G, 0,none⟩ = some (.string o) := (one_cell (t := 9) (by rw [Below.heap_setCell _ _ _ _ (by show G ≠ w.heap.size + 1; have := HGW.out; omega)]; exact S5.2.1)).1
  obtain ⟨r0,r1,r2,r3⟩ := hR5.cells
  have f0 := hR5.thaw 0
  have f1 := hR5.thaw 1
  have f2 := hR5.thaw 2
  have f3 := hR5.thaw 3
  clear S5 hR5 hbw5
  go_wp2_with fail
  go_region_law (fail)
  all_goals (
   go_wp2_with fail
   obtain ⟨X,hX⟩ : ∃ X,((((w5.setCell ⟨w.heap.size + 1, 0,none⟩ (.slice e1 Q.win.length j1)).setCell ⟨w.heap.size + 1, 1,none⟩ (.slice e2 Q.main.length j2)).setCell ⟨w.heap.size + 1, 2,none⟩ (.slice e3 Q.sk.rows.length j3)).setCell ⟨w.heap.size + 1, 3,none⟩ (.int .i64 Q.sk.added)) = X := ⟨_,rfl⟩
   obtain ⟨hPO,hBF,q0,q1,q2,q3⟩ := HF.out X hX
   rw [hX]
   clear hX
   refine bodyPost_ret (v := .tuple #[.agg #[.slice e1 Q.win.length j1,.slice e2 Q.main.length j2,.slice e3 Q.sk.rows.length j3,.int .i64 Q.sk.added],.string o]) (by simp [results,Tryz.results44,go_sem,q0,q1,q2,q3]) rfl ⟨.agg #[.slice e1 Q.win.length j1,.slice e2 Q.main.length j2,.slice e3 Q.sk.rows.length j3,.int .i64 Q.sk.added], ?_, ?_,hBF⟩
   ·rw [HQ.out]
   ·rw [HQ.out]
    exact hPO)
 | true =>
  have cK := HKK.out w4
  obtain ⟨kk,hkk⟩ : ∃ kk,keyOk key = kk := ⟨_,rfl⟩
  rw [hkk] at cK
  cases kk with
  | false =>
   have HQ : Hid (touchP P key = (P,noKey)) := by show _ = _; unfold touchP; rw [hok,hkk]; rfl
   obtain ⟨Q,hQ⟩ : ∃ Q,P = Q := ⟨_,rfl⟩
   have S5 : Seats w4 V G w1.heap.size (.slice a2 P.win.length k2) (.slice a3 P.main.length k3) (.slice a4 P.sk.rows.length k4) Q noKey := hQ ▸ S4
   rw [show (P,noKey) = (Q,noKey) by rw [hQ]] at HQ
   obtain ⟨o,ho⟩ : ∃ o,noKey = o := ⟨_,rfl⟩
   rw [ho] at HQ S5
   clear hok hkk
   go_wp2_with fail
   refine cK.mono ?_
   rintro e w5 ⟨rfl,hw5⟩
   rw [hw5]
   obtain ⟨w5',hw5'⟩ : ∃ x,w4 = x := ⟨_,rfl⟩
   have hbw5 : Below w.heap.size w w4 := hb1.trans (hbw4.mono (by omega))
   have hR5 : PBox w4 (w.heap.size + 1) (.slice none 0 0) (.slice none 0 0) (.slice none 0 0) (.int .i64 0) := hR.on hbw4
   obtain ⟨u1,hu1⟩ : ∃ u : Value,.slice a2 P.win.length k2 = u := ⟨_,rfl⟩
   obtain ⟨u2,hu2⟩ : ∃ u : Value,.slice a3 P.main.length k3 = u := ⟨_,rfl⟩
   obtain ⟨u3,hu3⟩ : ∃ u : Value,.slice a4 P.sk.rows.length k4 = u := ⟨_,rfl⟩
   rw [hu1,hu2,hu3] at S5
   clear S4 hw5 hw5' hbw4 hTB4 hR hb1 ho hQ hu1 hu2 hu3 HKK cK
   obtain ⟨e1,j1,rfl,_⟩ := S5.1.2.1.strsAt
   obtain ⟨e2,j2,rfl,_⟩ := S5.1.2.2.1.strsAt
   obtain ⟨e3,j3,rfl,_⟩ := S5.1.2.2.2.2.at
   have HF : Hid (∀ X,((((w4.setCell ⟨w.heap.size + 1, 0,none⟩ (.slice e1 Q.win.length j1)).setCell ⟨w.heap.size + 1, 1,none⟩ (.slice e2 Q.main.length j2)).setCell ⟨w.heap.size + 1, 2,none⟩ (.slice e3 Q.sk.rows.length j3)).setCell ⟨w.heap.size + 1, 3,none⟩ (.int .i64 Q.sk.added)) = X → POwn X.drew w.heap.size X.drew.heap.size (.agg #[.slice e1 Q.win.length j1,.slice e2 Q.main.length j2,.slice e3 Q.sk.rows.length j3,.int .i64 Q.sk.added]) Q ∧ Below w.heap.size w X.drew ∧ (X.cell? ⟨w.heap.size + 1, 0,none⟩ = some (.slice e1 Q.win.length j1) ∧ X.cell? ⟨w.heap.size + 1, 1,none⟩ = some (.slice e2 Q.main.length j2) ∧ X.cell? ⟨w.heap.size + 1, 2,none⟩ = some (.slice e3 Q.sk.rows.length j3) ∧ X.cell? ⟨w.heap.size + 1, 3,none⟩ = some (.int .i64 Q.sk.added))) := fun X hX => by
    have p1 := POwn.mono (POwn.put4 (w := w4) S5.1.own hR5 (.slice e1 Q.win.length j1) (.slice e2 Q.main.length j2) (.slice e3 Q.sk.rows.length j3) (.int .i64 Q.sk.added)) (show w.heap.size ≤ w1.heap.size by omega) (Nat.le_refl _)
    have p2 := Below.put4 (T := w.heap.size + 1) hbw5 (by omega) (.slice e1 Q.win.length j1) (.slice e2 Q.main.length j2) (.slice e3 Q.sk.rows.length j3) (.int .i64 Q.sk.added)
    have p3 := (hR5.put (.slice e1 Q.win.length j1) (.slice e2 Q.main.length j2) (.slice e3 Q.sk.rows.length j3) (.int .i64 Q.sk.added)).cells
    rw [hX] at p1 p2 p3
    have p4 : Below X.heap.size X X.drew := ⟨rfl,rfl,rfl,Nat.le_refl _,fun _ _ => rfl⟩
    exact ⟨(p1.below p4 (Nat.le_refl _)).up,p2.trans (p4.mono p2.size),p3⟩
   obtain ⟨y0,y1,y2,y3,_⟩ := S5.1.cells
   obtain ⟨y4,_⟩ := one_cell S5.2.1
   have y4' : (w4.setCell ⟨w.heap.size + 1, 0,none⟩ (.slice e1 Q.win.length j1)).cell? ⟨G, 0,none⟩ = some (.string o) := (one_cell (t := 9) (by rw [Below.heap_setCell _ _ _ _ (by show G ≠ w.heap.size + 1; have := HGW.out; omega)]; exact S5.2.1)).1
   obtain ⟨r0,r1,r2,r3⟩ := hR5.cells
   have f0 := hR5.thaw 0
   have f1 := hR5.thaw 1
   have f2 := hR5.thaw 2
   have f3 := hR5.thaw 3
   clear S5 hR5 hbw5
   go_wp2_with fail
   go_region_law (fail)
   all_goals (
    go_wp2_with fail
    obtain ⟨X,hX⟩ : ∃ X,((((w4.setCell ⟨w.heap.size + 1, 0,none⟩ (.slice e1 Q.win.length j1)).setCell ⟨w.heap.size + 1, 1,none⟩ (.slice e2 Q.main.length j2)).setCell ⟨w.heap.size + 1, 2,none⟩ (.slice e3 Q.sk.rows.length j3)).setCell ⟨w.heap.size + 1, 3,none⟩ (.int .i64 Q.sk.added)) = X := ⟨_,rfl⟩
    obtain ⟨hPO,hBF,q0,q1,q2,q3⟩ := HF.out X hX
    rw [hX]
    clear hX
    refine bodyPost_ret (v := .tuple #[.agg #[.slice e1 Q.win.length j1,.slice e2 Q.main.length j2,.slice e3 Q.sk.rows.length j3,.int .i64 Q.sk.added],.string o]) (by simp [results,Tryz.results44,go_sem,q0,q1,q2,q3]) rfl ⟨.agg #[.slice e1 Q.win.length j1,.slice e2 Q.main.length j2,.slice e3 Q.sk.rows.length j3,.int .i64 Q.sk.added], ?_, ?_,hBF⟩
    ·rw [HQ.out]
    ·rw [HQ.out]
     exact hPO)
  | true =>
   have cT := touch_any w4 V G w1.heap.size (.slice a2 P.win.length k2) (.slice a3 P.main.length k3) (.slice a4 P.sk.rows.length k4) P key S4 hok hkk hTB4.out
   obtain ⟨QQ,hQQ⟩ : ∃ Q,touchP P key = Q := ⟨_,rfl⟩
   obtain ⟨Q,o⟩ := QQ
   rw [hQQ] at cT
   have HQ : Hid (touchP P key = (Q,o)) := hQQ
   clear hok hkk hQQ
   go_wp2_with fail
   refine cK.mono ?_
   rintro e w5 ⟨rfl,hw5⟩
   rw [hw5]
   clear hw5 cK
   go_wp2_with fail
   refine cT.mono ?_
   rintro e w5 ⟨rfl,hb5,u1,u2,u3,S5⟩
   have hbw4' : Below (w.heap.size + 2) w1 w5 := (hbw4.mono (by omega)).trans (hb5.mono HGW.out.1)
   have hbw5 : Below w.heap.size w w5 := hb1.trans (hbw4'.mono (by omega))
   have hR5 : PBox w5 (w.heap.size + 1) (.slice none 0 0) (.slice none 0 0) (.slice none 0 0) (.int .i64 0) := hR.kept (hbw4'.block _ (by omega))
   clear S4 hb5 hbw4 hbw4' hTB4 hR hb1 HKK cT
   obtain ⟨e1,j1,rfl,_⟩ := S5.1.2.1.strsAt
   obtain ⟨e2,j2,rfl,_⟩ := S5.1.2.2.1.strsAt
   obtain ⟨e3,j3,rfl,_⟩ := S5.1.2.2.2.2.at
   have HF : Hid (∀ X,((((w5.setCell ⟨w.heap.size + 1, 0,none⟩ (.slice e1 Q.win.length j1)).setCell ⟨w.heap.size + 1, 1,none⟩ (.slice e2 Q.main.length j2)).setCell ⟨w.heap.size + 1, 2,none⟩ (.slice e3 Q.sk.rows.length j3)).setCell ⟨w.heap.size + 1, 3,none⟩ (.int .i64 Q.sk.added)) = X → POwn X.drew w.heap.size X.drew.heap.size (.agg #[.slice e1 Q.win.length j1,.slice e2 Q.main.length j2,.slice e3 Q.sk.rows.length j3,.int .i64 Q.sk.added]) Q ∧ Below w.heap.size w X.drew ∧ (X.cell? ⟨w.heap.size + 1, 0,none⟩ = some (.slice e1 Q.win.length j1) ∧ X.cell? ⟨w.heap.size + 1, 1,none⟩ = some (.slice e2 Q.main.length j2) ∧ X.cell? ⟨w.heap.size + 1, 2,none⟩ = some (.slice e3 Q.sk.rows.length j3) ∧ X.cell? ⟨w.heap.size + 1, 3,none⟩ = some (.int .i64 Q.sk.added))) := fun X hX => by
    have p1 := POwn.mono (POwn.put4 (w := w5) S5.1.own hR5 (.slice e1 Q.win.length j1) (.slice e2 Q.main.length j2) (.slice e3 Q.sk.rows.length j3) (.int .i64 Q.sk.added)) (show w.heap.size ≤ w1.heap.size by omega) (Nat.le_refl _)
    have p2 := Below.put4 (T := w.heap.size + 1) hbw5 (by omega) (.slice e1 Q.win.length j1) (.slice e2 Q.main.length j2) (.slice e3 Q.sk.rows.length j3) (.int .i64 Q.sk.added)
    have p3 := (hR5.put (.slice e1 Q.win.length j1) (.slice e2 Q.main.length j2) (.slice e3 Q.sk.rows.length j3) (.int .i64 Q.sk.added)).cells
    rw [hX] at p1 p2 p3
    have p4 : Below X.heap.size X X.drew := ⟨rfl,rfl,rfl,Nat.le_refl _,fun _ _ => rfl⟩
    exact ⟨(p1.below p4 (Nat.le_refl _)).up,p2.trans (p4.mono p2.size),p3⟩
   obtain ⟨y0,y1,y2,y3,_⟩ := S5.1.cells
   obtain ⟨y4,_⟩ := one_cell S5.2.1
   have y4' : (w5.setCell ⟨w.heap.size + 1, 0,none⟩ (.slice e1 Q.win.length j1)).cell? ⟨G, 0,none⟩ = some (.string o) := (one_cell (t := 9) (by rw [Below.heap_setCell _ _ _ _ (by show G ≠ w.heap.size + 1; have := HGW.out; omega)]; exact S5.2.1)).1
   obtain ⟨r0,r1,r2,r3⟩ := hR5.cells
   have f0 := hR5.thaw 0
   have f1 := hR5.thaw 1
   have f2 := hR5.thaw 2
   have f3 := hR5.thaw 3
   clear S5 hR5 hbw5
   go_wp2_with fail
   go_region_law (fail)
   all_goals (
    go_wp2_with fail
    obtain ⟨X,hX⟩ : ∃ X,((((w5.setCell ⟨w.heap.size + 1, 0,none⟩ (.slice e1 Q.win.length j1)).setCell ⟨w.heap.size + 1, 1,none⟩ (.slice e2 Q.main.length j2)).setCell ⟨w.heap.size + 1, 2,none⟩ (.slice e3 Q.sk.rows.length j3)).setCell ⟨w.heap.size + 1, 3,none⟩ (.int .i64 Q.sk.added)) = X := ⟨_,rfl⟩
    obtain ⟨hPO,hBF,q0,q1,q2,q3⟩ := HF.out X hX
    rw [hX]
    clear hX
    refine bodyPost_ret (v := .tuple #[.agg #[.slice e1 Q.win.length j1,.slice e2 Q.main.length j2,.slice e3 Q.sk.rows.length j3,.int .i64 Q.sk.added],.string o]) (by simp [results,Tryz.results44,go_sem,q0,q1,q2,q3]) rfl ⟨.agg #[.slice e1 Q.win.length j1,.slice e2 Q.main.length j2,.slice e3 Q.sk.rows.length j3,.int .i64 Q.sk.added], ?_, ?_,hBF⟩
    ·rw [HQ.out]
    ·rw [HQ.out]
     exact hPO)
set_option maxHeartbeats 2000000 in
theorem implPolicyHas_any (w : World) (aw am ak : Option Addr) (cw cm ck : Nat) (P : Pol) (key : ByteArray) (hA : PolAt w aw am ak P w.heap.size) (hm : P.win.length ≤ 10000000) (hm' : P.main.length ≤ 10000000) :
  Calls Tryz.prog 46 #[.agg #[.slice aw P.win.length cw,.slice am P.main.length cm,.slice ak P.sk.rows.length ck,.int .i64 P.sk.added],.string key] w fun e w' => e = .returned (.bool (hasP P key)) ∧ Below w.heap.size w w' := by
 obtain ⟨w1,hw1⟩ : ∃ x,w.alloc (.cells #[.slice aw P.win.length cw,.slice am P.main.length cm,.slice ak P.sk.rows.length ck,.int .i64 P.sk.added] 30) = x := ⟨_,rfl⟩
 have hb1 : Below w.heap.size w w1 := by rw [← hw1]; exact (Below.refl _ _).alloc (Nat.le_refl _) _
 have hB : PBox w1 w.heap.size (.slice aw P.win.length cw) (.slice am P.main.length cm) (.slice ak P.sk.rows.length ck) (.int .i64 P.sk.added) := by rw [← hw1]; exact PBox.new _ _ _ _ _
 have hA1 := hA.on hb1
 obtain ⟨b0,b1,b2,b3⟩ := hB.cells
 have c1 := containsS_any w1 aw cw P.win key hA1.1 hm
 have c2 := containsS_any w1 am cm P.main key hA1.2.1 hm'
 have HW : Hid (w.alloc (.cells #[.slice aw P.win.length cw,.slice am P.main.length cm,.slice ak P.sk.rows.length ck,.int .i64 P.sk.added] 30) = w1) := hw1
 rw [← hw1] at b0 b1 b2 b3
 clear hw1 hB hA1 hA
 go_enter Tryz.func46,Tryz.ntmps46
 cases h : inL P.win key with
 | true =>
  rw [h] at c1
  have HH : Hid (hasP P key = true) := by show _ = _; simp [hasP,h]
  clear h
  go_wp2_with fail
  rw [HW.out] at b0 b1 b2 b3 ⊢
  refine c1.mono ?_
  rintro e w' ⟨rfl,rfl⟩
  go_wp2_with fail
  go_ret
  exact ⟨by rw [HH.out]; rfl,hb1⟩
 | false =>
  rw [h] at c1
  have HH : Hid (hasP P key = inL P.main key) := by show _ = _; simp [hasP,h]
  clear h
  go_wp2_with fail
  rw [HW.out] at b0 b1 b2 b3 ⊢
  refine c1.mono ?_
  rintro e w' ⟨rfl,rfl⟩
  generalize inL P.main key = q at c2 HH
  go_wp2_with fail
  refine c2.mono ?_
  rintro e w' ⟨rfl,rfl⟩
  go_wp2_with fail
  go_ret
  exact ⟨by rw [HH.out]; rfl,hb1⟩
end Go.Proofs.YthfjfccdelbkhaaGreatDoor
namespace Go.Proofs.YthfjfccdelbkhaaGreatDoor
open Go.RowKit
theorem touchP_sz {P : Pol} (key : ByteArray) (h : PolSz P) : PolSz (touchP P key).1 := by
 by_cases h1 : okP P = true
 ·by_cases h2 : keyOk key = true
  ·exact okP_sz (touchP_right h1 h2).1
  ·unfold touchP
   rw [if_neg (by simp [h2])]
   exact h
 ·unfold touchP
  rw [if_neg (by simp [h1])]
  exact h
end Go.Proofs.YthfjfccdelbkhaaGreatDoor
