/- A hall's fetch is done. Written by mkclose.py. -/
import Derived.Test.YtaahjcljanckaaaGreatDoorTellPlainJ
import Derived.Test.YtaahjcljanckaaaGreatDoorHallKitJ
import Derived.Test.YtaahjcljanckaaaGreatDoorStmPut1J
import Derived.Test.YtaahjcljanckaaaGreatDoorPolSzTextJ
import Derived.Test.YtaahjcljanckaaaGreatDoorReachedCJ
import Derived.Test.YtaahjcljanckaaaGreatDoorHallKeep
import Derived.Deep.RegionHeld3
namespace Go.Proofs.YtaahjcljanckaaaGreatDoor
open Go.RowKit Go.Sort
theorem turn2_eg : ∀ args w,(callFunc 79 args).run Tryz.prog w = .ok (.enter 79 args) w := enters_of Tryz.func79 (by kernel_rfl) rfl
set_option maxHeartbeats 2000000 in
theorem turn2_any (W : World) (lo G c : Nat) (L : List Cli) (j : Nat) (hj : j < L.length) (ho : OwnCli W lo 45 (.slice (some ⟨G, 0,none⟩) L.length c) L) :
  Calls Tryz.prog 79 (#[.pointer (some ⟨G,j * 7,none⟩)] ++ #[]) W fun e w' => e = .returned (.tuple #[]) ∧ Tch (fun b => b = G) W w' ∧ OwnCli w' lo 45 (.slice (some ⟨G, 0,none⟩) L.length c) (L.set j (L[j].w_st 2)) := by
 show Calls _ _ #[.pointer (some ⟨G,j * 7,none⟩)] _ _
 obtain ⟨q0,q1,q2,q3,q4,q5,q6⟩ := ho.cellP j hj
 have t4 := ho.thaw (j * 7 + 4)
 have HF : Hid (OwnCli (W.setCell ⟨G,j * 7 + 4,none⟩ (.int .i64 2)) lo 45 (.slice (some ⟨G, 0,none⟩) L.length c) (L.set j (L[j].w_st 2))) := ho.set_st j hj 2
 have HT : Hid (Tch (fun b => b = G) W (W.setCell ⟨G,j * 7 + 4,none⟩ (.int .i64 2))) := by
  have h := tch_setV (v := .slice (some ⟨G, 0,none⟩) 0 0) (G := G) (i := j * 7 + 4) (u := .int .i64 2) rfl (Tch.of_below (Below.refl _ W))
  exact h.weak (fun b hb => (Option.some.inj hb).symm)
 clear ho
 go_enter Tryz.func79,Tryz.ntmps79
 go_wp2_with fail
 exact bodyPost_end (results_none rfl _ _ _) rfl ⟨rfl,HT.out,HF.out⟩
set_option maxRecDepth 100000 in
set_option maxHeartbeats 8000000 in
theorem turnC_any (w : World) (lo T : Nat) (X : Pc) (R : Prx) (k : Nat) (hk : k < R.fes.length) (tx : ByteArray) (st life : Int) (rdv : Value) (g : Fet) (hgg : g = (R.fes[k].turn tx st).done life R.now) (H : HallAt w lo T X R) (hl : R.fes.length ≤ 1048576) (hm : R.cls.length ≤ 1048576) (hs : tx.size ≤ 1048576) (hks : g.key.size ≤ 1048576) (hU : UpK R.ents) (hz : PxSz ⟨R.now,R.ents,R.pol,R.fes.set k g,tellX R.cls k (fun c => c.w_st 2),R.hits⟩) (htab : ∀ W,Below lo w W → Tab W) :
  Calls Tryz.prog 50 #[.pointer (some ⟨T, 0,none⟩),.int .i64 (k : Int),.agg #[.int .i64 st,.string tx,rdv],.iface 73 (.agg #[.int .i64 life])] w fun e w' => e = .returned (.tuple #[]) ∧ ∃ Y : Pc,HallAt w' lo T Y (if 0 < life then keepR ⟨R.now,R.ents,R.pol,R.fes.set k g,tellX R.cls k (fun c => c.w_st 2),R.hits⟩ (entOfF g) else ⟨R.now,R.ents,R.pol,R.fes.set k g,tellX R.cls k (fun c => c.w_st 2),R.hits⟩) ∧ Below lo w w' := by
 have HGK : Hid (g.key.size ≤ 1048576 ∧ UpK R.ents ∧ PxSz ⟨R.now,R.ents,R.pol,R.fes.set k g,tellX R.cls k (fun c => c.w_st 2),R.hits⟩ ∧ (∀ W,Below lo w W → Tab W)) := ⟨hks,hU,hz,htab⟩
 have HTXG : Hid (g.tx = tx) := by show _ = _; rw [hgg]; rfl
 have HGG : Hid (g = (R.fes[k].turn tx st).done life R.now) := hgg
 obtain ⟨RR,hRR⟩ : ∃ RR,(if 0 < life then keepR ⟨R.now,R.ents,R.pol,R.fes.set k g,tellX R.cls k (fun c => c.w_st 2),R.hits⟩ (entOfF g) else ⟨R.now,R.ents,R.pol,R.fes.set k g,tellX R.cls k (fun c => c.w_st 2),R.hits⟩) = RR := ⟨_,rfl⟩
 rw [hRR]
 have HRR : Hid ((if 0 < life then keepR ⟨R.now,R.ents,R.pol,R.fes.set k g,tellX R.cls k (fun c => c.w_st 2),R.hits⟩ (entOfF g) else ⟨R.now,R.ents,R.pol,R.fes.set k g,tellX R.cls k (fun c => c.w_st 2),R.hits⟩) = RR) := hRR
 clear hRR hks hU hz htab hgg
 obtain ⟨GF,hGF⟩ : ∃ G,X.f = .slice (some ⟨G, 0,none⟩) R.fes.length (match X.f with | .slice _ _ c => c | _ => 0) ∧ G < w.heap.size ∧ lo ≤ G := by
  obtain ⟨a,c,e1,_⟩ := H.own.f.at
  have h := H.own.f
  rw [e1] at h ⊢
  obtain ⟨G,hG,h1,h2⟩ := row5_addr h (by omega)
  subst hG
  exact ⟨G,rfl,h1,h2⟩
 obtain ⟨cf,hcf⟩ : ∃ c,(match X.f with | .slice _ _ c => c | _ => 0) = c := ⟨_,rfl⟩
 rw [hcf] at hGF
 clear hcf
 obtain ⟨hXf,hGs,hGl⟩ := hGF
 obtain ⟨S,hS⟩ : ∃ S,w.heap.size = S := ⟨_,rfl⟩
 obtain ⟨w1,hw1⟩ : ∃ x,w.alloc (.cells #[.int .i64 st,.string tx,rdv] 105) = x := ⟨_,rfl⟩
 obtain ⟨w2,hw2⟩ : ∃ x,w1.alloc (.cells #[.pointer (some ⟨GF,k * 5,none⟩)] 131) = x := ⟨_,rfl⟩
 have hb1 : Below w.heap.size w w1 := by rw [← hw1]; exact (Below.refl _ _).alloc (Nat.le_refl _) _
 have hb2 : Below w1.heap.size w1 w2 := by rw [← hw2]; exact (Below.refl _ _).alloc (Nat.le_refl _) _
 have s1 : w1.heap.size = S + 1 := by rw [← hw1]; simp [hS]
 have hbw : Below w.heap.size w w2 := hb1.trans (hb2.mono hb1.size)
 have hSB : w2.heap[S]? = some (.cells #[.int .i64 st,.string tx,rdv] 105 (0, 0)) := (hb2.block S (by omega)).trans (by rw [← hw1, ← hS]; exact heap_alloc_new _ _)
 have hVB : w2.heap[S + 1]? = some (.cells #[.pointer (some ⟨GF,k * 5,none⟩)] 131 (0, 0)) := by rw [← hw2, ← s1]; exact heap_alloc_new _ _
 have H2 : HallAt w2 lo T X R := H.on hbw
 have hGX : X.f.ownBlock = some GF := by rw [hXf]; rfl
 have hOF : OwnFet w2 lo 84 (.slice (some ⟨GF, 0,none⟩) R.fes.length cf) R.fes := by have h := H2.own.f; rw [hXf] at h; exact h
 obtain ⟨q0,q1,q2,q3,q4⟩ := hOF.cellP k hk
 have t1 := hOF.thaw (k * 5 + 1)
 have t2 := hOF.thaw (k * 5 + 2)
 have HW : Hid ((w.alloc (.cells #[.int .i64 st,.string tx,rdv] 105)).alloc (.cells #[.pointer (some ⟨GF,k * 5,none⟩)] 131) = w2) := by show _ = _; rw [hw1]; exact hw2
 have hi1 : (0 : Int) ≤ (k : Int) := by omega
 have hi3 : (k : Int) < (R.fes.length : Int) := by omega
 obtain ⟨wd,hwd⟩ : ∃ x,w2.drew = x := ⟨_,rfl⟩
 obtain ⟨w3,hw3⟩ : ∃ x,((w2.setCell ⟨GF,k * 5 + 1,none⟩ (.string tx)).setCell ⟨GF,k * 5 + 2,none⟩ (.int .i64 st)).drew = x := ⟨_,rfl⟩
 have hd : Below w2.heap.size w2 w2.drew := ⟨rfl,rfl,rfl,Nat.le_refl _,fun _ _ => rfl⟩
 have ht3 : Tch (fun b => X.f.ownBlock = some b) w2 w3 := by rw [← hw3]; exact (tch_setV hGX (tch_setV hGX (Tch.of_below (Below.refl _ _)))).trans (Tch.of_below ⟨rfl,rfl,rfl,Nat.le_refl _,fun _ _ => rfl⟩)
 have ho3 : OwnFet w3 lo 84 X.f (R.fes.set k (R.fes[k].turn tx st)) := by
  have h1 := hOF.set_tx k hk tx
  have h2 := OwnFet.set_st (by rw [List.length_set]; exact h1) k (by rw [List.length_set]; exact hk) st
  rw [set_twoF R.fes k hk tx st,List.length_set] at h2
  rw [hXf, ← hw3]
  exact h2.below (B := _) ⟨rfl,rfl,rfl,Nat.le_refl _,fun _ _ => rfl⟩ (Nat.le_refl _)
 obtain ⟨H3,hB3⟩ := H2.setFes ht3 ho3
 have hnf : ∀ b,X.f.ownBlock = some b → b = GF := fun b hb => by rw [hGX] at hb; exact (Option.some.inj hb).symm
 have hV3 : w3.heap[S + 1]? = some (.cells #[.pointer (some ⟨GF,k * 5,none⟩)] 131 (0, 0)) := (ht3.2 (S + 1) (Array.getElem?_eq_some_iff.1 hVB).1 (fun e => by have := hnf _ e; omega)).trans hVB
 have HB3 : Hid (Below lo w w3) := (hbw.mono (by have := H.lt; omega)).trans hB3
 have HW3 : Hid (((w2.setCell ⟨GF,k * 5 + 1,none⟩ (.string tx)).setCell ⟨GF,k * 5 + 2,none⟩ (.int .i64 st)).drew = w3) := hw3
 have KX : ∀ W : World,W.heap[S]? = w2.heap[S]? → W.heap[S + 1]? = w2.heap[S + 1]? → W.cell? ⟨S, 0,none⟩ = some (.int .i64 st) ∧ W.cell? ⟨S, 1,none⟩ = some (.string tx) ∧ W.cell? ⟨S + 1, 0,none⟩ = some (.pointer (some ⟨GF,k * 5,none⟩)) := fun W h1 h2 =>
  ⟨by rw [cell_of_row W S 0 _ _ (0, 0) (h1.trans hSB)]; rfl,by rw [cell_of_row W S 1 _ _ (0, 0) (h1.trans hSB)]; rfl,by rw [cell_of_row W (S + 1) 0 _ _ (0, 0) (h2.trans hVB)]; rfl⟩
 have kx0 := KX w2.drew rfl rfl
 have kx1 := KX (w2.setCell ⟨GF,k * 5 + 1,none⟩ (.string tx)).drew (Below.heap_setCell _ _ _ _ (by show S ≠ GF; omega)) (Below.heap_setCell _ _ _ _ (by show S + 1 ≠ GF; omega))
 have kx2 := KX ((w2.setCell ⟨GF,k * 5 + 1,none⟩ (.string tx)).setCell ⟨GF,k * 5 + 2,none⟩ (.int .i64 st)).drew ((Below.heap_setCell _ _ _ _ (by show S ≠ GF; omega)).trans (Below.heap_setCell _ _ _ _ (by show S ≠ GF; omega))) ((Below.heap_setCell _ _ _ _ (by show S + 1 ≠ GF; omega)).trans (Below.heap_setCell _ _ _ _ (by show S + 1 ≠ GF; omega)))
 have HTR : Hid (w.cell? ⟨T, 6,none⟩ = some (.slice (some ⟨GF, 0,none⟩) R.fes.length cf)) := by have h := H.box.cells.2.2.2.2.2.2.1; rw [hXf] at h; exact h
 have b6 := (hb1.cell (block_lt_of_cell HTR.out)).trans HTR.out
 rw [← hw1] at b6
 have HH3 : Hid (HallAt w3 lo T X ⟨R.now,R.ents,R.pol,R.fes.set k (R.fes[k].turn tx st),R.cls,R.hits⟩) := H3
 have HV3 : Hid (w3.heap[S + 1]? = some (.cells #[.pointer (some ⟨GF,k * 5,none⟩)] 131 (0, 0))) := hV3
 have HGN : Hid (GF < w3.heap.size ∧ S + 1 < w3.heap.size) := ⟨by have := ht3.size; have := hbw.size; omega,(Array.getElem?_eq_some_iff.1 hV3).1⟩
 have HOF3 : Hid (OwnFet w3 lo 84 (.slice (some ⟨GF, 0,none⟩) R.fes.length cf) (R.fes.set k (R.fes[k].turn tx st))) := by have h := ho3; rw [hXf] at h; exact h
 obtain ⟨f',hf'⟩ : ∃ f,(R.fes[k].turn tx st) = f := ⟨_,rfl⟩
 have HTX : Hid (f'.tx = tx) := by show _ = _; rw [← hf']; rfl
 have HF' : Hid ((R.fes[k].turn tx st) = f') := hf'
 rw [hf'] at HH3 HOF3
 have HKL : Hid (k < R.fes.length) := hk
 have HSS : Hid (w.heap.size = S) := hS
 have HXF : Hid (X.f = .slice (some ⟨GF, 0,none⟩) R.fes.length cf) := hXf
 have HGS : Hid (GF < S ∧ GF ≠ T ∧ T < S ∧ w.heap.size ≤ w3.heap.size) := ⟨by omega,fun e => H.far (v := X.f) H.own.f.type (by decide) (by rw [hGX,e]),by have := H.box.lt; omega,Nat.le_trans hbw.size ht3.size⟩
 clear hw1 hw2 hb1 hb2 hbw hSB hVB H2 hOF hwd hw3 hd ht3 ho3 KX H3 hB3 hnf hV3 hGX hGs hGl H hXf s1 hf' HTR
 have HGG2 : Hid (g = f'.done life R.now) := by show _ = _; rw [HGG.out,HF'.out]
 go_enter Tryz.func50,Tryz.ntmps50
 go_upto_region 2 with fail
 rw [HW.out]
 go_region_held3 (fun W => W.cell? ⟨S, 0,none⟩ = some (.int .i64 st) ∧ W.cell? ⟨S, 1,none⟩ = some (.string tx) ∧ W.cell? ⟨S + 1, 0,none⟩ = some (.pointer (some ⟨GF,k * 5,none⟩))) (first | with_reducible exact kx0 | with_reducible exact kx1 | with_reducible exact kx2)
  (fail)
 rw [HW3.out]
 clear q0 q1 q2 q3 q4 t1 t2 kx0 kx1 kx2 b6
 obtain ⟨D,hD⟩ : ∃ D,w3.heap.size = D := ⟨_,rfl⟩
 obtain ⟨w4,hw4⟩ : ∃ x,w3.alloc (.cells #[.int .i64 life] 73) = x := ⟨_,rfl⟩
 have hb4 : Below w3.heap.size w3 w4 := by rw [← hw4]; exact (Below.refl _ _).alloc (Nat.le_refl _) _
 have HW4 : Hid (w3.alloc (.cells #[.int .i64 life] 73) = w4) := hw4
 have H4 : HallAt w4 lo T X ⟨R.now,R.ents,R.pol,R.fes.set k f',R.cls,R.hits⟩ := HH3.out.on hb4
 have hV4 : w4.heap[S + 1]? = some (.cells #[.pointer (some ⟨GF,k * 5,none⟩)] 131 (0, 0)) := (hb4.block _ HGN.out.2).trans HV3.out
 have hD4 : w4.heap[D]? = some (.cells #[.int .i64 life] 73 (0, 0)) := by rw [← hw4, ← hD]; exact heap_alloc_new _ _
 have hkl : k < (R.fes.set k f').length := by rw [List.length_set]; exact HKL.out
 have hOF4 : OwnFet w4 lo 84 (.slice (some ⟨GF, 0,none⟩) (R.fes.set k f').length cf) (R.fes.set k f') := by rw [List.length_set]; exact HOF3.out.below hb4 (Nat.le_refl _)
 have hXF : X.f = .slice (some ⟨GF, 0,none⟩) (R.fes.set k f').length cf := by
  rw [List.length_set]
  exact HXF.out
 have hGX : X.f.ownBlock = some GF := by rw [hXF]; rfl
 obtain ⟨u0,u1,u2,q3,q4⟩ := hOF4.cellP k hkl
 have t3 := hOF4.thaw (k * 5 + 3)
 have t4 := hOF4.thaw (k * 5 + 4)
 have hdist : GF ≠ S + 1 ∧ GF ≠ D ∧ GF ≠ T := by have := HGS.out; have := HGN.out; exact ⟨by omega,by omega,HGS.out.2.1⟩
 have KX : ∀ W : World,W.heap[S + 1]? = w4.heap[S + 1]? → W.heap[D]? = w4.heap[D]? → W.heap[T]? = w4.heap[T]? → W.cell? ⟨S + 1, 0,none⟩ = some (.pointer (some ⟨GF,k * 5,none⟩)) ∧ W.cell? ⟨D, 0,none⟩ = some (.int .i64 life) ∧ W.cell? ⟨T, 0,none⟩ = some (.int .i64 R.now) := fun W h1 h2 h3 =>
  ⟨by rw [cell_of_row W (S + 1) 0 _ _ (0, 0) (h1.trans hV4)]; rfl,by rw [cell_of_row W D 0 _ _ (0, 0) (h2.trans hD4)]; rfl,(H4.box.kept h3).cells.1⟩
 have hs1 : ∀ (W : World) (i b : Nat) (v : Value),b ≠ GF → (W.setCell ⟨GF,i,none⟩ v).heap[b]? = W.heap[b]? := fun W i b v hb => Below.heap_setCell _ _ _ _ (by exact hb)
 have kx0 := KX w4.drew rfl rfl rfl
 have kx1 := KX (w4.setCell ⟨GF,k * 5 + 3,none⟩ (.int .i64 life)).drew (hs1 _ _ _ _ (Ne.symm hdist.1)) (hs1 _ _ _ _ (Ne.symm hdist.2.1)) (hs1 _ _ _ _ (Ne.symm hdist.2.2))
 have kx2 := KX ((w4.setCell ⟨GF,k * 5 + 3,none⟩ (.int .i64 life)).setCell ⟨GF,k * 5 + 4,none⟩ (.int .i64 R.now)).drew ((hs1 _ _ _ _ (Ne.symm hdist.1)).trans (hs1 _ _ _ _ (Ne.symm hdist.1))) ((hs1 _ _ _ _ (Ne.symm hdist.2.1)).trans (hs1 _ _ _ _ (Ne.symm hdist.2.1))) ((hs1 _ _ _ _ (Ne.symm hdist.2.2)).trans (hs1 _ _ _ _ (Ne.symm hdist.2.2)))
 obtain ⟨w5,hw5⟩ : ∃ x,((w4.setCell ⟨GF,k * 5 + 3,none⟩ (.int .i64 life)).setCell ⟨GF,k * 5 + 4,none⟩ (.int .i64 R.now)).drew = x := ⟨_,rfl⟩
 have ht5 : Tch (fun b => X.f.ownBlock = some b) w4 w5 := by rw [← hw5]; exact (tch_setV hGX (tch_setV hGX (Tch.of_below (Below.refl _ _)))).trans (Tch.of_below ⟨rfl,rfl,rfl,Nat.le_refl _,fun _ _ => rfl⟩)
 have ho5 : OwnFet w5 lo 84 X.f (R.fes.set k g) := by
  have h1 := hOF4.set_lf k hkl life
  have h2 := OwnFet.set_sto (by rw [List.length_set]; exact h1) k (by rw [List.length_set]; exact hkl) R.now
  rw [set_twoD (R.fes.set k f') k hkl life R.now,List.length_set] at h2
  rw [hXF, ← hw5]
  have h3 := h2.below (B := _) (w' := ((w4.setCell ⟨GF,k * 5 + 3,none⟩ (.int .i64 life)).setCell ⟨GF,k * 5 + 4,none⟩ (.int .i64 R.now)).drew) ⟨rfl,rfl,rfl,Nat.le_refl _,fun _ _ => rfl⟩ (Nat.le_refl _)
  rw [List.getElem_set_self,List.set_set, ← HGG2.out] at h3
  exact h3
 obtain ⟨H5,hB5⟩ := H4.setFes ht5 ho5
 have HB5 : Hid (Below lo w w5) := (HB3.out.trans (hb4.mono (Nat.le_trans HH3.out.le (Nat.le_of_lt HH3.out.box.lt)))).trans hB5
 have HH5 : Hid (HallAt w5 lo T X ⟨R.now,R.ents,R.pol,R.fes.set k g,R.cls,R.hits⟩) := H5
 have HW5 : Hid (((w4.setCell ⟨GF,k * 5 + 3,none⟩ (.int .i64 life)).setCell ⟨GF,k * 5 + 4,none⟩ (.int .i64 R.now)).drew = w5) := hw5
 have hnf : ∀ b,X.f.ownBlock = some b → b = GF := fun b hb => by rw [hGX] at hb; exact (Option.some.inj hb).symm
 have HVD5 : Hid (w5.heap[S + 1]? = some (.cells #[.pointer (some ⟨GF,k * 5,none⟩)] 131 (0, 0)) ∧ w5.heap[D]? = some (.cells #[.int .i64 life] 73 (0, 0))) := ⟨(ht5.2 (S + 1) (Array.getElem?_eq_some_iff.1 hV4).1 (fun e => by have := hnf _ e; omega)).trans hV4,(ht5.2 D (Array.getElem?_eq_some_iff.1 hD4).1 (fun e => by have := hnf _ e; omega)).trans hD4⟩
 have HOF5 : Hid (OwnFet w5 lo 84 (.slice (some ⟨GF, 0,none⟩) R.fes.length cf) (R.fes.set k g)) := by have h := ho5; rw [hXF,List.length_set] at h; exact h
 have hCP := asCP (.agg #[.int .i64 life])
 have hCC := asCC (.agg #[.int .i64 life])
 clear hb4 H4 hw4 hV4 hD4 hOF4 hXF hGX KX hs1 hdist hw5 ht5 ho5 H5 hB5 hnf HV3 HOF3 HH3 HB3 HW3 HF' u0 u1 u2
 go_upto_region 9 with fail
 try rw [HW4.out]
 try rw [hD]
 go_region_held3 (fun W => W.cell? ⟨S + 1, 0,none⟩ = some (.pointer (some ⟨GF,k * 5,none⟩)) ∧ W.cell? ⟨D, 0,none⟩ = some (.int .i64 life) ∧ W.cell? ⟨T, 0,none⟩ = some (.int .i64 R.now)) (first | with_reducible exact kx0 | with_reducible exact kx1 | with_reducible exact kx2)
  (fail)
 rw [HW5.out]
 clear q3 q4 t3 t4 kx0 kx1 kx2 hCP hCC HW5
 have cT := tellWaiting_any 79 #[] (fun c => c.w_st 2) turn2_eg w5 lo T X ⟨R.now,R.ents,R.pol,R.fes.set k g,R.cls,R.hits⟩ k HH5.out (by have := HKL.out; omega) hm (fun W G c L' j hj hX ht ho => by
  rw [hX] at ho ⊢
  exact turn2_any W lo G c L' j hj ho)
 go_wp2_with fail
 refine cT.mono ?_
 rintro e w6 ⟨rfl,ht6,ho6⟩
 obtain ⟨H6,hB6⟩ := HH5.out.setCls ht6 ho6
 have HH6 : Hid (HallAt w6 lo T X ⟨R.now,R.ents,R.pol,R.fes.set k g,tellX R.cls k (fun c => c.w_st 2),R.hits⟩ ∧ Below lo w w6) := ⟨H6,HB5.out.trans hB6⟩
 have hne : ∀ b,(∃ e,w5.heap[b]? = some (.cells e 131 (0, 0)) ∨ w5.heap[b]? = some (.cells e 84 (0, 0)) ∨ w5.heap[b]? = some (.cells e 73 (0, 0))) → ¬ X.c.ownBlock = some b := fun b hb e => by
  obtain ⟨cs,h1⟩ := HH5.out.own.c.type b e
  obtain ⟨e',h2⟩ := hb
  rcases h2 with h2 | h2 | h2
  ·rw [h2] at h1
   simp only [Option.some.injEq,Obj.cells.injEq] at h1
   exact absurd h1.2.1 (by decide)
  ·rw [h2] at h1
   simp only [Option.some.injEq,Obj.cells.injEq] at h1
   exact absurd h1.2.1 (by decide)
  ·rw [h2] at h1
   simp only [Option.some.injEq,Obj.cells.injEq] at h1
   exact absurd h1.2.1 (by decide)
 obtain ⟨hV5,hD5⟩ := HVD5.out
 have hV6 := ht6.keep hV5 (hne _ ⟨_,.inl hV5⟩)
 have hD6 := ht6.keep hD5 (hne _ ⟨_,.inr (.inr hD5)⟩)
 obtain ⟨csF,hGF5⟩ := HOF5.out.type GF rfl
 have hOF6 : OwnFet w6 lo 84 (.slice (some ⟨GF, 0,none⟩) R.fes.length cf) (R.fes.set k g) := HOF5.out.kept fun b hb => ht6.2 b (HOF5.out.lt b hb).2 (by have e : b = GF := (Option.some.inj hb).symm; rw [e]; exact hne _ ⟨_,.inr (.inl hGF5)⟩)
 have hfc := hOF6.cellP k (by rw [List.length_set]; exact HKL.out)
 rw [List.getElem_set_self] at hfc
 have d0 : w6.cell? ⟨D, 0,none⟩ = some (.int .i64 life) := by rw [cell_of_row w6 D 0 _ _ (0, 0) hD6]; rfl
 have v0 : w6.cell? ⟨S + 1, 0,none⟩ = some (.pointer (some ⟨GF,k * 5,none⟩)) := by rw [cell_of_row w6 (S + 1) 0 _ _ (0, 0) hV6]; rfl
 clear cT ht6 ho6 H6 hB6 hne hV5 hD5 hV6 hD6 hGF5 hOF6 HOF5 HVD5 HH5 HB5
 by_cases hlf : 0 < life
 ·obtain ⟨f0,f1,f2,f3,f4⟩ := hfc
  have cE := entryOf_any w6 g HGK.out.1 (by rw [HTXG.out]; exact hs)
  go_wp2_with fail
  refine cE.mono ?_
  rintro e w7 ⟨rfl,hb7⟩
  clear cE f0 f1 f2 f3 f4 d0 v0
  have H7 := HH6.out.1.on hb7
  have HB7 : Hid (Below lo w w7) := HH6.out.2.trans (hb7.mono HH6.out.1.lt)
  have cK := hallKeep_any w7 lo T lo X ⟨R.now,R.ents,R.pol,R.fes.set k g,tellX R.cls k (fun c => c.w_st 2),R.hits⟩ (entOfF g) H7 (Nat.le_refl _) (Nat.le_trans HH6.out.1.lt hb7.size) (fun j hj => (H7.own.e.lt j hj).1) HGK.out.2.1 HGK.out.2.2.1 HGK.out.1 (HGK.out.2.2.2 _ HB7.out)
  dsimp only [entOfF] at cK
  clear H7 hb7 HH6
  go_wp2_with fail
  refine cK.mono ?_
  rintro e w8 ⟨rfl,Y,H8,hb8,_,_⟩
  have HF8 : Hid (HallAt w8 lo T Y RR ∧ Below lo w w8) := by rw [← HRR.out,if_pos hlf]; exact ⟨H8,HB7.out.trans hb8⟩
  clear cK H8 hb8 HB7
  go_wp2_with fail
  exact bodyPost_end (results_none rfl _ _ _) rfl ⟨rfl,Y,HF8.out⟩
 ·have HF8 : Hid (HallAt w6 lo T X RR ∧ Below lo w w6) := by rw [← HRR.out,if_neg hlf]; exact HH6.out
  clear hfc HH6
  go_wp2_with fail
  exact bodyPost_end (results_none rfl _ _ _) rfl ⟨rfl,X,HF8.out⟩
end Go.Proofs.YtaahjcljanckaaaGreatDoor
