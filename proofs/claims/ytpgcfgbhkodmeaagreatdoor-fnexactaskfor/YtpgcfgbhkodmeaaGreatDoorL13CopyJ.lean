/- Texts that stand in one: L13Copy, RowAll. -/
import Derived.Test.YtpgcfgbhkodmeaaGreatDoorPrxMarkJ
import Derived.Test.YtpgcfgbhkodmeaaGreatDoorSkStepJ
import Derived.Test.YtpgcfgbhkodmeaaGreatDoorPvMoreJ
import Derived.Test.YtpgcfgbhkodmeaaGreatDoorPolSzTextJ
import Derived.Deep.RegionHeld3
import Derived.Deep.AppendLies
import Derived.Deep.RegionLaw
namespace Go.Proofs.YtpgcfgbhkodmeaaGreatDoor
open Go.RowKit Go.Sort
theorem bplusS {a b : World} (h : Below a.heap.size a b) (o : Obj) : Below a.heap.size a (b.alloc o) := h.alloc h.size o
theorem heap_atS {w : World} {k : Nat} (h : w.heap.size = k) (o : Obj) : (w.alloc o).heap[k]? = some o := by subst h; exact heap_alloc_new _ _
theorem heap_oldS {w : World} {k : Nat} {o x : Obj} (h : w.heap[k]? = some x) : (w.alloc o).heap[k]? = some x := by
 rw [Below.heap_alloc w o k (Array.getElem?_eq_some_iff.1 h).1]; exact h
theorem heap_twoS {w : World} {k : Nat} {o : Obj} (h : w.heap.size = k ∨ w.heap.size + 1 = k) : ((w.alloc o).alloc o).heap[k]? = some o := by
 rcases h with rfl | rfl
 ·exact heap_oldS (heap_alloc_new _ _)
 ·exact heap_atS (by simp) _
theorem ballocS {n : Nat} {a b : World} (h : Below n a b) (hn : n ≤ a.heap.size) (o : Obj) : Below n a (b.alloc o) := h.alloc (Nat.le_trans hn h.size) o
set_option maxRecDepth 100000 in
set_option maxHeartbeats 8000000 in
theorem l13Copy_any (w : World) (aw am ak : Option Addr) (cw cm ck : Nat) (P : Pol) (hA : PolAt w aw am ak P w.heap.size) (hsz : PolSz P) :
  Calls Tryz.prog 106 #[.agg #[.slice aw P.win.length cw,.slice am P.main.length cm,.slice ak P.sk.rows.length ck,.int .i64 P.sk.added]] w fun e w' => ∃ v,e = .returned v ∧ POwn w' w.heap.size w'.heap.size v P ∧ Below w.heap.size w w' := by
 obtain ⟨l1,l2,l3⟩ := hsz.parts
 obtain ⟨w0,hw0⟩ : ∃ x,w.alloc (.cells #[.slice aw P.win.length cw,.slice am P.main.length cm,.slice ak P.sk.rows.length ck,.int .i64 P.sk.added] 44) = x := ⟨_,rfl⟩
 obtain ⟨w1,hw1⟩ : ∃ x,w0.alloc (.cells #[.slice none 0 0,.slice none 0 0,.slice none 0 0,.int .i64 0] 44) = x := ⟨_,rfl⟩
 have hb0 : Below w.heap.size w w0 := by rw [← hw0]; exact (Below.refl _ _).alloc (Nat.le_refl _) _
 have hb01 : Below w0.heap.size w0 w1 := by rw [← hw1]; exact (Below.refl _ _).alloc (Nat.le_refl _) _
 have s0 : w0.heap.size = w.heap.size + 1 := by rw [← hw0]; simp
 have s1 : w1.heap.size = w.heap.size + 2 := by rw [← hw1]; simp; omega
 have hb1 : Below w.heap.size w w1 := hb0.trans (hb01.mono hb0.size)
 have hB : PBox w1 w.heap.size (.slice aw P.win.length cw) (.slice am P.main.length cm) (.slice ak P.sk.rows.length ck) (.int .i64 P.sk.added) := by
  have h : PBox w0 w.heap.size (.slice aw P.win.length cw) (.slice am P.main.length cm) (.slice ak P.sk.rows.length ck) (.int .i64 P.sk.added) := by rw [← hw0]; exact PBox.new _ _ _ _ _
  exact h.on hb01
 have hR : PBox w1 (w.heap.size + 1) (.slice none 0 0) (.slice none 0 0) (.slice none 0 0) (.int .i64 0) := by rw [← hw1, ← s0]; exact PBox.new _ _ _ _ _
 have hA1 := hA.on hb1
 have HW : Hid ((w.alloc (.cells #[.slice aw P.win.length cw,.slice am P.main.length cm,.slice ak P.sk.rows.length ck,.int .i64 P.sk.added] 44)).alloc (.cells #[.slice none 0 0,.slice none 0 0,.slice none 0 0,.int .i64 0] 44) = w1) := by rw [hw0]; exact hw1
 have KS : ∀ W,Below (w.heap.size + 1) w1 W → W.cell? ⟨w.heap.size, 0,none⟩ = some (.slice aw P.win.length cw) ∧ W.cell? ⟨w.heap.size, 1,none⟩ = some (.slice am P.main.length cm) ∧ W.cell? ⟨w.heap.size, 2,none⟩ = some (.slice ak P.sk.rows.length ck) ∧ W.cell? ⟨w.heap.size, 3,none⟩ = some (.int .i64 P.sk.added) := fun W h => by
  obtain ⟨x0,x1,x2,x3⟩ := hB.cells
  exact ⟨(h.cell (by simp)).trans x0,(h.cell (by simp)).trans x1,(h.cell (by simp)).trans x2,(h.cell (by simp)).trans x3⟩
 have HSW : Hid ((aw = none → P.win.length = 0) ∧ ∀ W,Below w1.heap.size w1 W → ∀ ad,aw = some ad → ∀ j u,(strs P.win)[j]? = some u → W.cell? (ad.add j) = some u) := ⟨hA1.1.srcS.1,fun W hW => (hA1.1.on hW).srcS.2⟩
 have HSM : Hid ((am = none → P.main.length = 0) ∧ ∀ W,Below w1.heap.size w1 W → ∀ ad,am = some ad → ∀ j u,(strs P.main)[j]? = some u → W.cell? (ad.add j) = some u) := ⟨hA1.2.1.srcS.1,fun W hW => (hA1.2.1.on hW).srcS.2⟩
 have HC3 : Hid (∀ W,Below w1.heap.size w1 W → Calls Tryz.prog 111 #[.agg #[.slice ak P.sk.rows.length ck,.int .i64 P.sk.added]] W fun e w' => ∃ a2 k2,e = .returned (.agg #[.slice a2 P.sk.rows.length k2,.int .i64 P.sk.added]) ∧ OwnSS w' W.heap.size w'.heap.size (.slice a2 P.sk.rows.length k2) P.sk.rows ∧ Below W.heap.size W w') := fun W h => by
  refine (l12Copy_any W ak ck P.sk (hA1.on h).2.2 l3).mono ?_
  rintro e w' ⟨v,rfl,⟨u,rfl,ho⟩,hb⟩
  obtain ⟨a2,k2,rfl,_⟩ := ho.at
  exact ⟨a2,k2,rfl,ho,hb⟩
 have hdf : Below w1.heap.size w1 w1.drew := ⟨rfl,rfl,rfl,Nat.le_refl _,fun _ _ => rfl⟩
 have hdr : Below (w.heap.size + 1) w1 w1.drew := hdf.mono (by omega)
 have hn1 : w.heap.size + 1 ≤ w1.heap.size := by omega
 have HRB : Hid (∀ W,Below w1.heap.size w1 W → PBox W (w.heap.size + 1) (.slice none 0 0) (.slice none 0 0) (.slice none 0 0) (.int .i64 0)) := fun W h => hR.on h
 have HB1 : Hid (Below w.heap.size w w1 ∧ w1.heap.size = w.heap.size + 2) := ⟨hb1,s1⟩
 clear hw0 hw1 hb0 hb01 s0 hA hA1 hB hR hb1 s1 hsz l3
 go_enter Tryz.func106,Tryz.ntmps106
 go_wp2_with fail
 rw [HW.out]
 clear HW
 go_region_held3 (fun W => W.cell? ⟨w.heap.size, 0,none⟩ = some (.slice aw P.win.length cw) ∧ W.cell? ⟨w.heap.size, 1,none⟩ = some (.slice am P.main.length cm) ∧ W.cell? ⟨w.heap.size, 2,none⟩ = some (.slice ak P.sk.rows.length ck) ∧ W.cell? ⟨w.heap.size, 3,none⟩ = some (.int .i64 P.sk.added)) (first | exact KS _ (by first | exact hdr | exact fC.mono hn1 | exact fB.mono hn1 | exact fA.mono hn1 | exact ballocS hdr hn1 _ | exact ballocS (fA.mono hn1) hn1 _ | exact ballocS (ballocS hdr hn1 _) hn1 _ | exact ((((fC.mono hn1).setCell (Nat.le_refl _) _).setCell (Nat.le_refl _) _).setCell (Nat.le_refl _) _).setCell (Nat.le_refl _) _))
  (first
   | (refine step_allI rfl (.tmp 3) (.tmp 5) 23 rfl 9 Tryz.underlying23 (.string ⟨#[]⟩) 1 16 Tryz.infoSK rfl (by omega) (by omega) _ rfl (by first | exact heap_twoS (by first | exact .inl rfl | exact .inr rfl) | exact heap_alloc_new _ _) aw P.win.length cw (strs P.win) rfl (by rw [strs_length]; omega) HSW.out.1 (HSW.out.2 _ (by first | exact hdf | assumption | exact fA | exact fB | exact bplusS hdf _ | exact bplusS fA _ | exact bplusS fB _ | exact bplusS (bplusS hdf _) _)) (strs_one _) l1 ?_; rintro gA cA wA oA bA nA kA; have fA : Below w1.heap.size w1 wA := Below.trans (by first | exact hdf | assumption | exact fA | exact fB | exact bplusS hdf _ | exact bplusS fA _ | exact bplusS fB _ | exact bplusS (bplusS hdf _) _) (bA.mono (by first | exact fA.size | exact Nat.le_refl _ | omega)))
   | (refine step_allI rfl (.tmp 7) (.tmp 9) 23 rfl 9 Tryz.underlying23 (.string ⟨#[]⟩) 1 16 Tryz.infoSK rfl (by omega) (by omega) _ rfl (by first | exact heap_alloc_new _ _ | exact (kA _ (by first | omega | (simp; done) | (simp; omega)) (by first | omega | (simp; done))).trans (heap_twoS (by first | exact .inl rfl | exact .inr rfl))) am P.main.length cm (strs P.main) rfl (by rw [strs_length]; omega) HSM.out.1 (HSM.out.2 _ (by first | exact hdf | assumption | exact fA | exact fB | exact bplusS hdf _ | exact bplusS fA _ | exact bplusS fB _ | exact bplusS (bplusS hdf _) _)) (strs_one _) l2 ?_; rintro gB cB wB oB bB nB kB; have fB : Below w1.heap.size w1 wB := Below.trans (by first | exact hdf | assumption | exact fA | exact fB | exact bplusS hdf _ | exact bplusS fA _ | exact bplusS fB _ | exact bplusS (bplusS hdf _) _) (bB.mono (by first | exact fA.size | exact Nat.le_refl _ | omega)))
   | (go_at_call 111; with_reducible refine (HC3.out _ fB).mono ?_; rintro e wC ⟨a4,k4,rfl,oC,bC⟩; have fC : Below w1.heap.size w1 wC := fB.trans (bC.mono fB.size); have hR4 := HRB.out _ fC; obtain ⟨r0,r1,r2,r3⟩ := hR4.cells; have t0 := hR4.thaw 0; have t1 := hR4.thaw 1; have t2 := hR4.thaw 2; have t3 := hR4.thaw 3))
 all_goals (
  have lA := (World.ownsRow.lt oA gA rfl)
  have lB := (World.ownsRow.lt oB gB rfl)
  have hgg : gA ≠ gB ∧ wB.heap[gA]? = wA.heap[gA]? := by
   simp at nA nB kB
   refine ⟨by omega, ?_⟩
   first
    | exact kB gA (by omega) (by omega)
    | exact (kB gA (by omega) (by omega)).trans (Below.heap_alloc _ _ _ (by omega))
  have gA1 : w1.heap.size ≤ gA := by
   have := fA.size
   omega
  have gB1 : w1.heap.size ≤ gB := by
   have := fA.size
   omega
  have hOA : OwnV wB w1.heap.size 9 (.slice (some ⟨gA, 0,none⟩) P.win.length cA) (strs P.win) := by
   have h : OwnV wA w1.heap.size 9 (.slice (some ⟨gA, 0,none⟩) P.win.length cA) (strs P.win) := OwnV.mono (ownV_of_rowS oA) (by simp; try omega)
   exact h.kept fun k hk => by simp [Value.ownBlock] at hk; subst hk; exact hgg.2
  have hOB : OwnV wB w1.heap.size 9 (.slice (some ⟨gB, 0,none⟩) P.main.length cB) (strs P.main) := OwnV.mono (ownV_of_rowS oB) (by have := fA.size; simp at this ⊢; try omega)
  obtain ⟨hb1,s1⟩ := HB1.out
  have hPO : POwn wC w.heap.size wC.heap.size (.agg #[.slice (some ⟨gA, 0,none⟩) P.win.length cA,.slice (some ⟨gB, 0,none⟩) P.main.length cB,.slice a4 P.sk.rows.length k4,.int .i64 P.sk.added]) P :=
   POwn.mk3 (hOA.below bC (Nat.le_refl _)) (hOB.below bC (Nat.le_refl _)) oC (by omega) (by omega) (by have := fB.size; omega) (fun k hk => by simp [Value.ownBlock] at hk ⊢; subst hk; exact fun e => hgg.1 e.symm)
  have hR4 := HRB.out _ fC
  have HOA : Hid _ := hPO.put4 hR4 (.slice (some ⟨gA, 0,none⟩) P.win.length cA) (.slice (some ⟨gB, 0,none⟩) P.main.length cB) (.slice a4 P.sk.rows.length k4) (.int .i64 P.sk.added)
  have HBF : Hid _ := Below.put4 (hb1.trans (fC.mono (by omega))) (T := w.heap.size + 1) (by omega) (.slice (some ⟨gA, 0,none⟩) P.win.length cA) (.slice (some ⟨gB, 0,none⟩) P.main.length cB) (.slice a4 P.sk.rows.length k4) (.int .i64 P.sk.added)
  obtain ⟨q0,q1,q2,q3⟩ := (hR4.put (.slice (some ⟨gA, 0,none⟩) P.win.length cA) (.slice (some ⟨gB, 0,none⟩) P.main.length cB) (.slice a4 P.sk.rows.length k4) (.int .i64 P.sk.added)).cells
  clear oA oB bA bB nA nB kA kB fA fB lA lB hgg gA1 gB1 hPO hOA hOB
  try go_wp2_with fail
  refine bodyPost_ret (v := .agg #[.slice (some ⟨gA, 0,none⟩) P.win.length cA,.slice (some ⟨gB, 0,none⟩) P.main.length cB,.slice a4 P.sk.rows.length k4,.int .i64 P.sk.added]) (by simp [results,Tryz.results106,go_sem,q0,q1,q2,q3]) rfl ⟨_,rfl, ?_,HBF.out⟩
  refine POwn.mono HOA.out (Nat.le_refl _) ?_
  simp)
theorem step_allX {P : Program} {ops : Array Oper} {o : Oper} {a : Act} {K : Act → World → Prop} {Q : Exit → Act → World → Prop} {E' : Prop} {w : World} (hgd : o.guard = none) (s x : Operand) (t : TypeId)
  (ho : o.op = .call { callee := .builtin .append,args := #[s,x],argTypes := #[t,t] }) (e : TypeId) (ht : P.underlying t = some (.slice e)) (z : Value) (size bytes : Nat)
  (hinfo : (P.info? e).map (fun i => (i.zero,i.size,i.bytes)) = some (some z,size,bytes)) (hzs : z.cells.size = size) (hsz : 0 < size) (hby : bytes ≤ 1000)
  (G : Nat) (hs : a.eval s = .slice (some ⟨G, 0,none⟩) 0 0) (hG : w.heap[G]? = some (.cells #[] e (0, 0)))
  (a0 : Option Addr) (n cap : Nat) (news : List Value) (hx : a.eval x = .slice a0 n cap) (hl : news.length = n * size) (hnone : a0 = none → n = 0) (hnews : ∀ ad,a0 = some ad → ∀ j u,news[j]? = some u → w.cell? (ad.add j) = some u) (h1 : ∀ u ∈ news,u.oneCell' = true) (hn : n ≤ 1048576)
  (h : ∀ g c w',w'.ownsRow G e size (.slice (some ⟨g, 0,none⟩) n c) n news → Below G w w' → (g = G ∨ w.heap.size ≤ g) → (∀ k,k < w.heap.size → k ≠ G → w'.heap[k]? = w.heap[k]?) → K (a.put o.dst (.slice (some ⟨g, 0,none⟩) n c)) w') :
  if Region.wanted o (yielded ops a.tmps) = true then Oper.wp P o a w K Q else E' := by
 obtain ⟨i0,hi,hz0,hz1,hz2⟩ := info_parts hinfo
 have hGs : G < w.heap.size := (Array.getElem?_eq_some_iff.1 hG).1
 by_cases h0 : n = 0
 ·subst h0
  have hnil : news = [] := List.length_eq_zero_iff.1 (by simpa using hl)
  subst hnil
  have hw : Region.wanted o (yielded ops a.tmps) = true := by simp [Region.wanted,hgd]
  rw [if_pos hw]
  have hrun : (Builtin.append_ #[t,t] o.type #[.slice (some ⟨G, 0,none⟩) 0 0,.slice a0 0 cap]).run P w = .ok (.slice (some ⟨G, 0,none⟩) 0 0) w := by
   cases a0 with
   | none => simp [Builtin.append_,run_underlying ht,sizeOf,typeInfo,hi,Builtin.lenOf,Builtin.firstCells,storeCells]
   | some ad =>
    have hld := run_loadCells_list (P := P) w ad [] (fun j u hu => by simp at hu)
    simp at hld
    simp [Builtin.append_,run_underlying ht,sizeOf,typeInfo,hi,Builtin.lenOf,Builtin.firstCells,storeCells,hld]
  unfold Oper.wp
  simp [execOp,ho,resolve,invoke,builtin,hs,hx,hrun,Result.andThen]
  exact h G 0 w ⟨by simp,.inr ⟨G, 0,#[],rfl,Nat.le_refl _,hG,Nat.le_refl _,by simp [maxLen],by simp,by simp⟩⟩ (Below.refl _ _) (.inl rfl) (fun _ _ _ => rfl)
 ·obtain ⟨ad,rfl⟩ : ∃ ad,a0 = some ad := by
   cases a0 with
   | none => exact absurd (hnone rfl) h0
   | some ad => exact ⟨ad,rfl⟩
  have hown : w.ownsRow G e size (.slice (some ⟨G, 0,none⟩) 0 0) 0 [] := ⟨by simp,.inr ⟨G, 0,#[],rfl,Nat.le_refl _,hG,Nat.le_refl _,by simp [maxLen],by simp,by simp⟩⟩
  have hbs : (0 + n) * bytes ≤ 140737488355328 := by
   have : (0 + n) * bytes ≤ 1048576 * 1000 := by rw [Nat.zero_add]; exact Nat.mul_le_mul hn hby
   omega
  refine step_append_lies w hgd s x t ho G e i0 z size bytes ht hi hz0 hz1 hz2 hzs hsz _ 0 [] hs hown ad n cap news hx hl (hnews ad rfl) h1 (by omega) (by unfold maxLen; omega) hbs (by omega) w.heap.size rfl ?_
  intro g c w' ho' hgr hg hgl
  rw [Nat.zero_add,List.nil_append] at ho'
  rw [Nat.zero_add]
  refine h g c w' ho' ((Below.refl _ w).grown hgr (by omega) (fun k e => by cases e; exact Nat.le_refl _)) ?_ (fun k hk hne => hgr.block k hk (fun e => hne (by cases e; rfl)))
  rcases hg with hg | hg
  ·left; cases hg; rfl
  ·right; omega
end Go.Proofs.YtpgcfgbhkodmeaaGreatDoor
