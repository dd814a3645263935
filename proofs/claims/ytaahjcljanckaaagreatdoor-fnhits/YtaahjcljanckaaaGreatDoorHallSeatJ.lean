/- Texts that stand in one: HallSeat, InvMode, OwnCut, PolHold. -/
import Derived.Test.YtaahjcljanckaaaGreatDoorHallKitJ
import Derived.Test.YtaahjcljanckaaaGreatDoorHitsPlainJ
import Derived.Test.YtaahjcljanckaaaGreatDoorPolOkSzJ
import Derived.Test.YtaahjcljanckaaaGreatDoorSkCopySpecJ
import Derived.Test.YtaahjcljanckaaaGreatDoorPolSzTextJ
import Derived.Deep.RegionHeld3
import Derived.Test.YtaahjcljanckaaaGreatDoorSumTabJ
import Derived.Test.YtaahjcljanckaaaGreatDoorSkStepJ
namespace Go.Proofs.YtaahjcljanckaaaGreatDoor
open Go.RowKit Go.Sort
theorem cell_far7 {w : World} {g g' i i' : Nat} {u v : Value} (hne : g ≠ g') (h : w.cell? ⟨g',i',none⟩ = some u) : (w.setCell ⟨g,i,none⟩ v).cell? ⟨g',i',none⟩ = some u := by
 rw [World.cell?_setCell_other _ _ _ _ (by simp)]; exact h
set_option maxRecDepth 100000 in
set_option maxHeartbeats 8000000 in
theorem hallSeat_any (w : World) (lo T : Nat) (X : Pc) (R : Prx) (c : Cli) (H : HallAt w lo T X R) (hA : AscC R.cls) (hm : R.cls.length ≤ 1048576) :
  Calls Tryz.prog 44 #[.pointer (some ⟨T, 0,none⟩),.agg #[.int .i64 c.id,.string c.key,.int .i64 c.fe,.int .i64 c.fr,.int .i64 c.st,.string c.got,.int .i64 c.ag]] w fun e w' => e = .returned (.tuple #[]) ∧ ∃ v' k b,PlaceC R.cls c.id k b ∧ HallAt w' lo T ⟨X.e,X.w,X.m,X.k,X.f,v'⟩ ⟨R.now,R.ents,R.pol,R.fes,R.cls.take k ++ c :: R.cls.drop k,R.hits⟩ ∧ Below lo w w' ∧ Tch (fun j => j = T ∨ X.c.ownBlock = some j) w w' := by
 obtain ⟨ac,cc,hxc,hcA⟩ := H.own.c.at
 obtain ⟨w1,hw1⟩ : ∃ x,w.alloc (.cells #[.int .i64 c.id,.string c.key,.int .i64 c.fe,.int .i64 c.fr,.int .i64 c.st,.string c.got,.int .i64 c.ag] 45) = x := ⟨_,rfl⟩
 have hb1 : Below w.heap.size w w1 := by rw [← hw1]; exact (Below.refl _ _).alloc (Nat.le_refl _) _
 have hBB : CliB w1 w.heap.size 45 c := by rw [← hw1]; exact CliB.new w _ c
 have H1 := H.on hb1
 have HW : Hid (w.alloc (.cells #[.int .i64 c.id,.string c.key,.int .i64 c.fe,.int .i64 c.fr,.int .i64 c.st,.string c.got,.int .i64 c.ag] 45) = w1) := hw1
 have n7 : w1.cell? ⟨T, 7,none⟩ = some (.slice ac R.cls.length cc) := by have h := H1.box.cells.2.2.2.2.2.2.2.1; rw [hxc] at h; exact h
 have KS : ∀ W,Below w1.heap.size w1 W → W.cell? ⟨T, 7,none⟩ = some (.slice ac R.cls.length cc) ∧ W.cell? ⟨w.heap.size, 0,none⟩ = some (.int .i64 c.id) := fun W h => ⟨(h.cell H1.box.lt).trans n7,((hBB.on h).cells).1⟩
 have hdr : Below w1.heap.size w1 w1.drew := ⟨rfl,rfl,rfl,Nat.le_refl _,fun _ _ => rfl⟩
 have cP : Hid (Calls Tryz.prog 38 #[.slice ac R.cls.length cc,.int .i64 c.id] w1.drew fun e w' => ∃ (k : Nat) (b : Bool),e = .returned (.tuple #[.int .i64 (k : Int),.bool b]) ∧ PlaceC R.cls c.id k b ∧ Below w1.heap.size w1 w') := by
  refine (clientPlace_any w1.drew ac cc R.cls c.id ((hcA.on hb1).on hdr) (by omega) hA).mono ?_
  rintro e w' ⟨k,b,he,hp,hb⟩
  exact ⟨k,b,he,hp,hdr.trans (hb.mono hdr.size)⟩
 have HH : Hid (HallAt w1 lo T X R ∧ CliB w1 w.heap.size 45 c ∧ Below lo w w1 ∧ X.c = .slice ac R.cls.length cc ∧ lo ≤ w.heap.size ∧ T < w.heap.size ∧ w1.heap.size = w.heap.size + 1 ∧ (∀ j,X.c.ownBlock = some j → j < w.heap.size) ∧ Below w.heap.size w w1) := ⟨H1,hBB,hb1.mono H.lt,hxc,H.lt,H.box.lt,by rw [← hw1]; simp,fun j hj => (H.own.c.lt j hj).2,hb1⟩
 clear hw1 hb1 hBB H1 H hcA hA n7
 go_enter Tryz.func44,Tryz.ntmps44
 go_upto_region 1 with fail
 rw [HW.out]
 go_region_held3 (fun W => W.cell? ⟨T, 7,none⟩ = some (.slice ac R.cls.length cc) ∧ W.cell? ⟨w.heap.size, 0,none⟩ = some (.int .i64 c.id)) (first | with_reducible exact KS _ hdr | with_reducible exact KS _ hb2)
  (first
   | (go_at_call 38; with_reducible refine cP.out.mono ?_; rintro e w2 ⟨k,b,rfl,HPL,hb2⟩))
 obtain ⟨H1,hBx,hbl,hxc,hlB,hTB,hs1,hjl,hbw⟩ := HH.out
 have H2 := H1.on hb2
 have hB2 := hBx.on hb2
 have hs2 : w1.heap.size ≤ w2.heap.size := hb2.size
 have hb3 : Below w2.heap.size w2 (w2.alloc (.cells #[.int .i64 c.id,.string c.key,.int .i64 c.fe,.int .i64 c.fr,.int .i64 c.st,.string c.got,.int .i64 c.ag] 45)).drew := ((Below.refl _ _).alloc (Nat.le_refl _) _).drew
 have hd2 : Below w2.heap.size w2 w2.drew := (Below.refl _ _).drew
 have H3 := H2.on hb3
 have n7 : w2.cell? ⟨T, 7,none⟩ = some (.slice ac R.cls.length cc) := by have h := H2.box.cells.2.2.2.2.2.2.2.1; rw [hxc] at h; exact h
 have n7x : ((w2.alloc (.cells #[.int .i64 c.id,.string c.key,.int .i64 c.fe,.int .i64 c.fr,.int .i64 c.st,.string c.got,.int .i64 c.ag] 45)).drew).cell? ⟨T, 7,none⟩ = some (.slice ac R.cls.length cc) := (hb3.cell H2.box.lt).trans n7
 have K2 : ∀ W,CliB W w.heap.size 45 c → W.cell? ⟨w.heap.size, 0,none⟩ = some (.int .i64 c.id) ∧ W.cell? ⟨w.heap.size, 1,none⟩ = some (.string c.key) ∧ W.cell? ⟨w.heap.size, 2,none⟩ = some (.int .i64 c.fe) ∧ W.cell? ⟨w.heap.size, 3,none⟩ = some (.int .i64 c.fr) ∧ W.cell? ⟨w.heap.size, 4,none⟩ = some (.int .i64 c.st) ∧ W.cell? ⟨w.heap.size, 5,none⟩ = some (.string c.got) ∧ W.cell? ⟨w.heap.size, 6,none⟩ = some (.int .i64 c.ag) := fun W h => by
  obtain ⟨a0,a1,a2,a3,a4,a5,a6⟩ := h.cells
  exact ⟨a0,a1,a2,a3,a4,a5,a6⟩
 have kx0 := K2 w2.drew (hB2.on hd2)
 have kx1 := K2 (w2.alloc (.cells #[.int .i64 c.id,.string c.key,.int .i64 c.fe,.int .i64 c.fr,.int .i64 c.st,.string c.got,.int .i64 c.ag] 45)).drew (hB2.on hb3)
 obtain ⟨M,hM⟩ : ∃ M,R.cls.take k ++ c :: R.cls.drop k = M := ⟨_,rfl⟩
 have hO3 : OwnCli (w2.alloc (.cells #[.int .i64 c.id,.string c.key,.int .i64 c.fe,.int .i64 c.fr,.int .i64 c.st,.string c.got,.int .i64 c.ag] 45)).drew lo 45 (.slice ac R.cls.length cc) R.cls := by have h := H3.own.c; rw [hxc] at h; exact h
 have hO2 : OwnCli w2 lo 45 (.slice ac R.cls.length cc) R.cls := by have h := H2.own.c; rw [hxc] at h; exact h
 obtain ⟨PP,hPP⟩ : ∃ PP : World → Value → Prop,PP = (fun W y => ∃ a3 c3,y = .slice a3 M.length c3 ∧ OwnCli W lo 45 (.slice a3 M.length c3) M ∧ Tch (fun j => X.c.ownBlock = some j) (w2.alloc (.cells #[.int .i64 c.id,.string c.key,.int .i64 c.fe,.int .i64 c.fr,.int .i64 c.st,.string c.got,.int .i64 c.ag] 45)).drew W ∧ W.cell? ⟨T, 7,none⟩ = some (.slice ac R.cls.length cc) ∧ W.frozen? ⟨T, 7,none⟩ = false) := ⟨_,rfl⟩
 have hnc : ∀ j,X.c.ownBlock = some j → j ≠ T ∧ j ≠ w.heap.size ∧ j < w2.heap.size := by
  intro j hj
  refine ⟨fun e => H2.far H2.own.c.type (by decide) (e ▸ hj),fun e => by have := hjl j hj; omega,(H2.own.c.lt j hj).2⟩
 have cI : Hid (Calls Tryz.prog 69 #[.slice ac R.cls.length cc,.int .i64 (k : Int),.slice (some ⟨w2.heap.size, 0,none⟩) 1 1] (w2.alloc (.cells #[.int .i64 c.id,.string c.key,.int .i64 c.fe,.int .i64 c.fr,.int .i64 c.st,.string c.got,.int .i64 c.ag] 45)).drew fun e w' => ∃ y,e = .returned y ∧ PP w' y ∧ (w'.cell? ⟨w.heap.size, 0,none⟩ = some (.int .i64 c.id) ∧ w'.cell? ⟨w.heap.size, 1,none⟩ = some (.string c.key) ∧ w'.cell? ⟨w.heap.size, 2,none⟩ = some (.int .i64 c.fe) ∧ w'.cell? ⟨w.heap.size, 3,none⟩ = some (.int .i64 c.fr) ∧ w'.cell? ⟨w.heap.size, 4,none⟩ = some (.int .i64 c.st) ∧ w'.cell? ⟨w.heap.size, 5,none⟩ = some (.string c.got) ∧ w'.cell? ⟨w.heap.size, 6,none⟩ = some (.int .i64 c.ag))) := by
  have hV : ((w2.alloc (.cells #[.int .i64 c.id,.string c.key,.int .i64 c.fe,.int .i64 c.fr,.int .i64 c.st,.string c.got,.int .i64 c.ag] 45)).drew).heap[w2.heap.size]? = some (.cells #[.int .i64 c.id,.string c.key,.int .i64 c.fe,.int .i64 c.fr,.int .i64 c.st,.string c.got,.int .i64 c.ag] 45 (0, 0)) := heap_alloc_new w2 _
  refine (insertCli_any (w2.alloc (.cells #[.int .i64 c.id,.string c.key,.int .i64 c.fe,.int .i64 c.fr,.int .i64 c.st,.string c.got,.int .i64 c.ag] 45)).drew lo (.slice ac R.cls.length cc) R.cls k c w2.heap.size hO3 (Nat.le_trans H2.lt hb3.size) (by omega) HPL.le hV (fun e => by have := (hO2.lt _ e).2; omega)).mono ?_
  rintro e w' ⟨v',rfl,ho,ht⟩
  rw [hM] at ho
  obtain ⟨a3,c3,rfl,_⟩ := ho.at
  rw [← hxc] at ht
  have h7 : w'.heap[T]? = ((w2.alloc (.cells #[.int .i64 c.id,.string c.key,.int .i64 c.fe,.int .i64 c.fr,.int .i64 c.st,.string c.got,.int .i64 c.ag] 45)).drew).heap[T]? := ht.2 T H3.box.lt (fun e => (hnc T e).1 rfl)
  have e7 : w'.cell? ⟨T, 7,none⟩ = some (.slice ac R.cls.length cc) := by rw [← hxc]; exact (H3.box.kept h7).cells.2.2.2.2.2.2.2.1
  have ef := (H3.box.kept h7).thaw 7
  exact ⟨_,rfl,by rw [hPP]; exact ⟨a3,c3,rfl,ho,ht,e7,ef⟩,K2 w' ((ht.2 _ (hB2.on hb3).lt (fun e => (hnc _ e).2.1 rfl)).trans (hB2.on hb3))⟩
 have KE : Hid (∀ (W : World) (x : Value),(W.cell? ⟨w.heap.size, 0,none⟩ = some (.int .i64 c.id) ∧ W.cell? ⟨w.heap.size, 1,none⟩ = some (.string c.key) ∧ W.cell? ⟨w.heap.size, 2,none⟩ = some (.int .i64 c.fe) ∧ W.cell? ⟨w.heap.size, 3,none⟩ = some (.int .i64 c.fr) ∧ W.cell? ⟨w.heap.size, 4,none⟩ = some (.int .i64 c.st) ∧ W.cell? ⟨w.heap.size, 5,none⟩ = some (.string c.got) ∧ W.cell? ⟨w.heap.size, 6,none⟩ = some (.int .i64 c.ag)) → ((W.setCell ⟨T, 7,none⟩ x).cell? ⟨w.heap.size, 0,none⟩ = some (.int .i64 c.id) ∧ (W.setCell ⟨T, 7,none⟩ x).cell? ⟨w.heap.size, 1,none⟩ = some (.string c.key) ∧ (W.setCell ⟨T, 7,none⟩ x).cell? ⟨w.heap.size, 2,none⟩ = some (.int .i64 c.fe) ∧ (W.setCell ⟨T, 7,none⟩ x).cell? ⟨w.heap.size, 3,none⟩ = some (.int .i64 c.fr) ∧ (W.setCell ⟨T, 7,none⟩ x).cell? ⟨w.heap.size, 4,none⟩ = some (.int .i64 c.st) ∧ (W.setCell ⟨T, 7,none⟩ x).cell? ⟨w.heap.size, 5,none⟩ = some (.string c.got) ∧ (W.setCell ⟨T, 7,none⟩ x).cell? ⟨w.heap.size, 6,none⟩ = some (.int .i64 c.ag))) := by
  show ∀ (W : World) (x : Value),_ → _
  intro W x h
  have hne : T ≠ w.heap.size := by omega
  obtain ⟨p0,p1,p2,p3,p4,p5,p6⟩ := h
  exact ⟨cell_far7 hne p0,cell_far7 hne p1,cell_far7 hne p2,cell_far7 hne p3,cell_far7 hne p4,cell_far7 hne p5,cell_far7 hne p6⟩
 have HF : Hid (∀ (W9 : World) (y : Value),PP W9 y → ∃ a3 c3,y = .slice a3 M.length c3 ∧ HallAt (W9.setCell ⟨T, 7,none⟩ (.slice a3 M.length c3)) lo T ⟨X.e,X.w,X.m,X.k,X.f,.slice a3 M.length c3⟩ ⟨R.now,R.ents,R.pol,R.fes,M,R.hits⟩ ∧ Below lo w (W9.setCell ⟨T, 7,none⟩ (.slice a3 M.length c3)) ∧ Tch (fun j => j = T ∨ X.c.ownBlock = some j) w (W9.setCell ⟨T, 7,none⟩ (.slice a3 M.length c3))) := by
  show ∀ (W9 : World) (y : Value),_ → _
  intro W9 y hp
  rw [hPP] at hp
  obtain ⟨a3,c3,rfl,ho3,ht3,_,_⟩ := hp
  refine ⟨a3,c3,rfl, ?_, ?_, ?_⟩
  ·have hbx := H3.box.kept (ht3.2 T H3.box.lt (fun e => (hnc T e).1 rfl))
   have hO := H3.own.setC (grown_tch ht3) ho3
   exact ⟨hbx.set7 _,(hO.box hbx (by unfold PxT; decide) (fun j hj => Below.heap_setCell _ _ _ _ (by exact hj))).up,H3.le⟩
  ·exact (Tch.below (((hbl.trans (hb2.mono (by omega))).trans (hb3.mono H2.lt))) ht3 (by exact Nat.le_trans H2.lt hb3.size) (fun j hj => (H3.own.c.lt j hj).1)).setCell H3.le _
  ·have t0 : Tch (fun j => j = T ∨ X.c.ownBlock = some j) w (w2.alloc (.cells #[.int .i64 c.id,.string c.key,.int .i64 c.fe,.int .i64 c.fr,.int .i64 c.st,.string c.got,.int .i64 c.ag] 45)).drew := Tch.of_below ((hbw.trans (hb2.mono hbw.size)).trans (hb3.mono (by omega)))
   have t2 : Tch (fun j => j = T ∨ X.c.ownBlock = some j) W9 (W9.setCell ⟨T, 7,none⟩ (.slice a3 M.length c3)) := (tch_setV (v := .slice (some ⟨T, 0,none⟩) 0 0) (G := T) (i := 7) (u := .slice a3 M.length c3) rfl (Tch.of_below (Below.refl _ _))).weak (fun b hb => .inl (Option.some.inj hb).symm)
   exact (t0.trans (ht3.weak fun j hj => .inr hj)).trans t2
 have HPQ : Hid (PlaceC R.cls c.id k b ∧ R.cls.take k ++ c :: R.cls.drop k = M) := ⟨HPL,hM⟩
 clear hbw hjl hB2 hd2 K2 H2 H3 hO3 hO2 hnc H1 hBx hbl hxc hlB hTB hs1 hs2 hb3 hM HPL KS hdr cP hb2
 go_upto_region 2 with fail
 refine wp_region_held_drew (S := fun W => W.cell? ⟨w.heap.size, 0,none⟩ = some (.int .i64 c.id) ∧ W.cell? ⟨w.heap.size, 1,none⟩ = some (.string c.key) ∧ W.cell? ⟨w.heap.size, 2,none⟩ = some (.int .i64 c.fe) ∧ W.cell? ⟨w.heap.size, 3,none⟩ = some (.int .i64 c.fr) ∧ W.cell? ⟨w.heap.size, 4,none⟩ = some (.int .i64 c.st) ∧ W.cell? ⟨w.heap.size, 5,none⟩ = some (.string c.got) ∧ W.cell? ⟨w.heap.size, 6,none⟩ = some (.int .i64 c.ag)) (by kernel_rfl) kx0 (fun hHeld => ?_)
 refine wpAnyH_take (i := 0) (oi := _) (v := .pointer (some ⟨T, 0,none⟩)) rfl (by kernel_rfl) (by kernel_rfl) (by kernel_rfl) (fun _ _ _ h => h) (Or.inl ⟨by rfl, ?_⟩) (by assumption) ?_
 ·intro W hSw
  obtain ⟨p0,p1,p2,p3,p4,p5,p6⟩ := hSw
  go_simp
 refine wpAnyH_take (i := 1) (oi := _) (v := .pointer (some ⟨T, 0,none⟩)) rfl (by kernel_rfl) (by kernel_rfl) (by kernel_rfl) (fun _ _ _ h => h) (Or.inl ⟨by rfl, ?_⟩) (by assumption) ?_
 ·intro W hSw
  obtain ⟨p0,p1,p2,p3,p4,p5,p6⟩ := hSw
  go_simp
 refine wpAnyH_take (i := 2) (oi := _) (v := .pointer (some ⟨T, 0,none⟩)) rfl (by kernel_rfl) (by kernel_rfl) (by kernel_rfl) (fun _ _ _ h => h) (Or.inl ⟨by rfl, ?_⟩) (by assumption) ?_
 ·intro W hSw
  obtain ⟨p0,p1,p2,p3,p4,p5,p6⟩ := hSw
  go_simp
 refine wpAnyH_take (i := 3) (oi := _) (v := .pointer (some ⟨T, 0,none⟩)) rfl (by kernel_rfl) (by kernel_rfl) (by kernel_rfl) (fun _ _ _ h => h) (Or.inl ⟨by rfl, ?_⟩) (by assumption) ?_
 ·intro W hSw
  obtain ⟨p0,p1,p2,p3,p4,p5,p6⟩ := hSw
  go_simp
 refine wpAnyH_take (i := 4) (oi := _) (v := .pointer (some ⟨T, 7,none⟩)) rfl (by kernel_rfl) (by kernel_rfl) (by kernel_rfl) (fun _ _ _ h => h) (Or.inl ⟨by rfl, ?_⟩) (by assumption) ?_
 ·intro W hSw
  obtain ⟨p0,p1,p2,p3,p4,p5,p6⟩ := hSw
  go_simp
 refine wpAnyH_take (i := 6) (oi := _) (v := .int .i64 k) rfl (by kernel_rfl) (by kernel_rfl) (by kernel_rfl) (fun _ _ _ h => h) (Or.inl ⟨by rfl, ?_⟩) (by assumption) ?_
 ·intro W hSw
  obtain ⟨p0,p1,p2,p3,p4,p5,p6⟩ := hSw
  go_simp
 refine wpAnyH_take (i := 7) (oi := _) (v := .agg #[.int .i64 c.id,.string c.key,.int .i64 c.fe,.int .i64 c.fr,.int .i64 c.st,.string c.got,.int .i64 c.ag]) rfl (by kernel_rfl) (by kernel_rfl) (by kernel_rfl) (fun _ _ _ h => h) (Or.inl ⟨by rfl, ?_⟩) (by assumption) ?_
 ·intro W hSw
  obtain ⟨p0,p1,p2,p3,p4,p5,p6⟩ := hSw
  go_simp
 refine wpAnyH_inv (fun s a W => (W.cell? ⟨w.heap.size, 0,none⟩ = some (.int .i64 c.id) ∧ W.cell? ⟨w.heap.size, 1,none⟩ = some (.string c.key) ∧ W.cell? ⟨w.heap.size, 2,none⟩ = some (.int .i64 c.fe) ∧ W.cell? ⟨w.heap.size, 3,none⟩ = some (.int .i64 c.fr) ∧ W.cell? ⟨w.heap.size, 4,none⟩ = some (.int .i64 c.st) ∧ W.cell? ⟨w.heap.size, 5,none⟩ = some (.string c.got) ∧ W.cell? ⟨w.heap.size, 6,none⟩ = some (.int .i64 c.ag)) ∧ ∃ (b5 b8 b9 b10 b11 b12 b13 : Bool) (y22 y25 y26 y27 y28 y29 : Value),s = #[true,true,true,true,true,b5,true,true,b8,b9,b10,b11,b12,b13] ∧ a = ⟨#[.pointer (some ⟨T, 0,none⟩),.agg #[.int .i64 c.id,.string c.key,.int .i64 c.fe,.int .i64 c.fr,.int .i64 c.st,.string c.got,.int .i64 c.ag],undef,.pointer (some ⟨w.heap.size, 0,none⟩),.int .i64 k,.bool b,.tuple #[.int .i64 k,.bool b],.pointer (some ⟨T, 0,none⟩),.pointer (some ⟨T, 0,none⟩),.pointer (some ⟨T, 0,none⟩),.pointer (some ⟨T, 7,none⟩),.slice ac R.cls.length cc,.pointer (some ⟨w.heap.size, 0,none⟩),.int .i64 c.id,.tuple #[.int .i64 k,.bool b],.int .i64 k,.bool b,.pointer (some ⟨T, 0,none⟩),.pointer (some ⟨T, 0,none⟩),.pointer (some ⟨T, 0,none⟩),.pointer (some ⟨T, 0,none⟩),.pointer (some ⟨T, 7,none⟩),y22,.int .i64 k,.agg #[.int .i64 c.id,.string c.key,.int .i64 c.fe,.int .i64 c.fr,.int .i64 c.st,.string c.got,.int .i64 c.ag],y25,y26,y27,y28,y29], []⟩ ∧
  ((b9 = false ∧ b10 = false ∧ b11 = false ∧ b12 = false ∧ b13 = false ∧ (b5 = true → y22 = .slice ac R.cls.length cc) ∧ (b8 = false → W = w2.drew) ∧ (b8 = true → W = (w2.alloc (.cells #[.int .i64 c.id,.string c.key,.int .i64 c.fe,.int .i64 c.fr,.int .i64 c.st,.string c.got,.int .i64 c.ag] 45)).drew ∧ y25 = .slice (some ⟨w2.heap.size, 0,none⟩) 1 1)) ∨ (b5 = true ∧ b8 = true ∧ b9 = true ∧ b13 = false ∧ (b10 = true → y27 = .pointer (some ⟨T, 0,none⟩)) ∧ (b11 = true → y28 = .pointer (some ⟨T, 0,none⟩)) ∧ (b12 = true → y29 = .pointer (some ⟨T, 7,none⟩)) ∧ (b11 = true → b10 = true) ∧ (b12 = true → b11 = true) ∧ PP W y26) ∨ (b5 = true ∧ b8 = true ∧ b9 = true ∧ b10 = true ∧ b11 = true ∧ b12 = true ∧ b13 = true ∧ ∃ W9,PP W9 y26 ∧ W = W9.setCell ⟨T, 7,none⟩ y26))) (by kernel_rfl) ?_ ?_ ?_ ?_ _ _ _ _ ?_ (by decide)
 ·rintro s a W ⟨_,b5,b8,b9,b10,b11,b12,b13,y22,y25,y26,y27,y28,y29,rfl,_⟩
  rfl
 ·rintro s a W ⟨h,_⟩
  exact h
 ·rintro s a W i ⟨hS,b5,b8,b9,b10,b11,b12,b13,y22,y25,y26,y27,y28,y29,rfl,rfl,hJ⟩ hi'
  obtain ⟨h1,o,ho,hall⟩ := mem_ready.1 hi'
  have hlt' : i < 14 := by simpa using (Array.getElem?_eq_some_iff.1 ho).1
  clear hi'
  rcases (by omega : i = 0 ∨ i = 1 ∨ i = 2 ∨ i = 3 ∨ i = 4 ∨ i = 5 ∨ i = 6 ∨ i = 7 ∨ i = 8 ∨ i = 9 ∨ i = 10 ∨ i = 11 ∨ i = 12 ∨ i = 13) with rfl | rfl | rfl | rfl | rfl | rfl | rfl | rfl | rfl | rfl | rfl | rfl | rfl | rfl
  ·simp at h1
  ·simp at h1
  ·simp at h1
  ·simp at h1
  ·simp at h1
  ·have hf : b5 = false := by simpa using h1
   subst hf
   injection ho with ho'
   subst ho'
   simp [Region.binds] at hall
   rcases hJ with ⟨e9,e10,e11,e12,e13,c5,c8,d8⟩ | ⟨e5,e8,e9,e13,f10,f11,f12,g11,g12,hp⟩ | ⟨e5,e8,e9,e10,e11,e12,e13,W9,hp,_⟩
   case inr.inl => cases e5
   case inr.inr => cases e5
   have hc : W.cell? ⟨T, 7,none⟩ = some (.slice ac R.cls.length cc) := by
    cases b8 with
    | false => rw [c8 rfl]; exact n7
    | true => rw [(d8 rfl).1]; exact n7x
   refine wpOp_value (w' := W) (.slice ac R.cls.length cc) rfl rfl (by go_simp) ?_
   exact ⟨hS,true,b8,b9,b10,b11,b12,b13,_,y25,y26,y27,y28,y29,rfl,rfl,.inl ⟨e9,e10,e11,e12,e13,fun _ => rfl,c8,d8⟩⟩
  ·simp at h1
  ·simp at h1
  ·have hf : b8 = false := by simpa using h1
   subst hf
   injection ho with ho'
   subst ho'
   simp [Region.binds] at hall
   rcases hJ with ⟨e9,e10,e11,e12,e13,c5,c8,d8⟩ | ⟨e5,e8,e9,e13,f10,f11,f12,g11,g12,hp⟩ | ⟨e5,e8,e9,e10,e11,e12,e13,W9,hp,_⟩
   case inr.inl => cases e8
   case inr.inr => cases e8
   obtain rfl := c8 rfl
   refine wpOp_value (w' := (w2.alloc (.cells #[.int .i64 c.id,.string c.key,.int .i64 c.fe,.int .i64 c.fr,.int .i64 c.st,.string c.got,.int .i64 c.ag] 45)).drew) (.slice (some ⟨w2.heap.size, 0,none⟩) 1 1) rfl rfl (by go_simp) ?_
   exact ⟨kx1,b5,true,b9,b10,b11,b12,b13,y22,_,y26,y27,y28,y29,rfl,rfl,.inl ⟨e9,e10,e11,e12,e13,c5,fun h => (by cases h),fun _ => ⟨rfl,rfl⟩⟩⟩
  ·have hf : b9 = false := by simpa using h1
   subst hf
   injection ho with ho'
   subst ho'
   simp [Region.binds] at hall
   rcases hJ with ⟨e9,e10,e11,e12,e13,c5,c8,d8⟩ | ⟨e5,e8,e9,e13,f10,f11,f12,g11,g12,hp⟩ | ⟨e5,e8,e9,e10,e11,e12,e13,W9,hp,_⟩
   case inr.inl => cases e9
   case inr.inr => cases e9
   have h5 : b5 = true := by simp_all
   have h8 : b8 = true := by simp_all
   obtain ⟨rfl,hy25⟩ := d8 h8
   have hy22 := c5 h5
   subst hy25 hy22
   refine wpOp_enter 69 #[.slice ac R.cls.length cc,.int .i64 (k : Int),.slice (some ⟨w2.heap.size, 0,none⟩) 1 1] rfl rfl (by go_simp) ?_
   refine cI.out.mono ?_
   rintro e w3 ⟨y,rfl,hp,hS3⟩
   exact ⟨y,rfl,hS3,b5,b8,true,b10,b11,b12,b13,_,_,y,y27,y28,y29,rfl,rfl,.inr (.inl ⟨h5,h8,rfl,e13,fun h => (by rw [e10] at h; cases h),fun h => (by rw [e11] at h; cases h),fun h => (by rw [e12] at h; cases h),fun h => (by rw [e11] at h; cases h),fun h => (by rw [e12] at h; cases h),hp⟩)⟩
  ·have hf : b10 = false := by simpa using h1
   subst hf
   injection ho with ho'
   subst ho'
   simp [Region.binds] at hall
   rcases hJ with ⟨e9,e10,e11,e12,e13,c5,c8,d8⟩ | ⟨e5,e8,e9,e13,f10,f11,f12,g11,g12,hp⟩ | ⟨e5,e8,e9,e10,e11,e12,e13,W9,hp,_⟩
   case inl => simp_all
   case inr.inr => cases e10
   refine wpOp_value (w' := W) (.pointer (some ⟨T, 0,none⟩)) rfl rfl (by go_simp) ?_
   exact ⟨hS,b5,b8,b9,true,b11,b12,b13,y22,y25,y26,_,y28,y29,rfl,rfl,.inr (.inl ⟨e5,e8,e9,e13,fun _ => rfl,f11,f12,fun _ => rfl,g12,hp⟩)⟩
  ·have hf : b11 = false := by simpa using h1
   subst hf
   injection ho with ho'
   subst ho'
   simp [Region.binds] at hall
   rcases hJ with ⟨e9,e10,e11,e12,e13,c5,c8,d8⟩ | ⟨e5,e8,e9,e13,f10,f11,f12,g11,g12,hp⟩ | ⟨e5,e8,e9,e10,e11,e12,e13,W9,hp,_⟩
   case inl => simp_all
   case inr.inr => cases e11
   have h10 : b10 = true := by simp_all
   have hy := f10 h10
   subst hy
   refine wpOp_value (w' := W) (.pointer (some ⟨T, 0,none⟩)) rfl rfl (by go_simp) ?_
   exact ⟨hS,b5,b8,b9,b10,true,b12,b13,y22,y25,y26,_,_,y29,rfl,rfl,.inr (.inl ⟨e5,e8,e9,e13,fun _ => rfl,fun _ => rfl,f12,fun _ => h10,fun _ => rfl,hp⟩)⟩
  ·have hf : b12 = false := by simpa using h1
   subst hf
   injection ho with ho'
   subst ho'
   simp [Region.binds] at hall
   rcases hJ with ⟨e9,e10,e11,e12,e13,c5,c8,d8⟩ | ⟨e5,e8,e9,e13,f10,f11,f12,g11,g12,hp⟩ | ⟨e5,e8,e9,e10,e11,e12,e13,W9,hp,_⟩
   case inl => simp_all
   case inr.inr => cases e12
   have h11 : b11 = true := by simp_all
   have hy := f11 h11
   subst hy
   refine wpOp_value (w' := W) (.pointer (some ⟨T, 7,none⟩)) rfl rfl (by go_simp) ?_
   exact ⟨hS,b5,b8,b9,b10,b11,true,b13,y22,y25,y26,y27,_,_,rfl,rfl,.inr (.inl ⟨e5,e8,e9,e13,f10,fun _ => rfl,fun _ => rfl,g11,fun _ => h11,hp⟩)⟩
  ·have hf : b13 = false := by simpa using h1
   subst hf
   injection ho with ho'
   subst ho'
   simp [Region.binds] at hall
   rcases hJ with ⟨e9,e10,e11,e12,e13,c5,c8,d8⟩ | ⟨e5,e8,e9,e13,f10,f11,f12,g11,g12,hp⟩ | ⟨e5,e8,e9,e10,e11,e12,e13,W9,hp,_⟩
   case inl => simp_all
   case inr.inr => cases e13
   have h12 : b12 = true := by simp_all
   have h11 := g12 h12
   have h10 := g11 h11
   have hy := f12 h12
   subst hy
   have hp' := hp
   rw [hPP] at hp'
   obtain ⟨a3,c3,rfl,ho3,ht3,x7,xt⟩ := hp'
   refine wpOp_skip (w' := W.setCell ⟨T, 7,none⟩ (.slice a3 M.length c3)) rfl rfl (by go_simp) ?_
   exact ⟨KE.out W _ hS,b5,b8,b9,b10,b11,b12,true,y22,y25,_,y27,y28,_,rfl,rfl,.inr (.inr ⟨e5,e8,e9,h10,h11,h12,rfl,W,hp,rfl⟩)⟩
 ·rintro s a W ⟨_,b5,b8,b9,b10,b11,b12,b13,y22,y25,y26,y27,y28,y29,rfl,rfl,hJ⟩ hall
  have h0 : b13 = true := by simpa using hall 13 (by simp)
  rcases hJ with ⟨e9,e10,e11,e12,e13,c5,c8,d8⟩ | ⟨e5,e8,e9,e13,f10,f11,f12,g11,g12,hp⟩ | ⟨e5,e8,e9,e10,e11,e12,e13,W9,hp,rfl⟩
  case inl => rw [e13] at h0; cases h0
  case inr.inl => rw [e13] at h0; cases h0
  obtain ⟨a3,c3,rfl,hF1,hF2⟩ := HF.out W9 y26 hp
  have HG : Hid _ := (fun (_ : Unit) => And.intro hF1 hF2)
  clear hF1 hF2 hp hall
  go_wp2_with fail
  refine bodyPost_end (results_none rfl _ _ _) rfl ⟨rfl,.slice a3 M.length c3,k,b,HPQ.out.1, ?_,(HG.out ()).2⟩
  rw [HPQ.out.2]
  exact (HG.out ()).1
 ·exact ⟨kx0,false,false,false,false,false,false,false,undef,undef,undef,undef,undef,undef,by kernel_rfl,by kernel_rfl,.inl ⟨rfl,rfl,rfl,rfl,rfl,fun h => (by cases h),fun _ => rfl,fun h => (by cases h)⟩⟩
end Go.Proofs.YtaahjcljanckaaaGreatDoor
namespace Go.Proofs.YtaahjcljanckaaaGreatDoor
section
variable {P : Program} {ops : Array Oper} {Q : Exit → Act → World → Prop} {md : Region.Mode} {S : World → Prop}
def backM (md : Region.Mode) (ops : Array Oper) : Bool := (List.range ops.size).all fun i => match ops[i]? with | some o => o.after.all fun e => !Region.binds md e || decide (e.on < i) | none => true
theorem backM_spec (h : backM md ops = true) : ∀ (i : Nat) (o : Oper),ops[i]? = some o → ∀ e ∈ o.after,Region.binds md e = true → e.on < i := by
 intro i o ho e he hb
 have hlt : i < ops.size := (Array.getElem?_eq_some_iff.1 ho).1
 have h1 := (List.all_eq_true.1 h) i (List.mem_range.2 hlt)
 rw [ho] at h1
 have h2 := Array.all_eq_true_iff_forall_mem.1 h1 e he
 rw [hb] at h2
 simpa using h2
theorem all_listedM {s : Array Bool} (hback : ∀ (i : Nat) (o : Oper),ops[i]? = some o → ∀ e ∈ o.after,Region.binds md e = true → e.on < i) (h : Region.ready md ops s = []) (hsz : s.size = ops.size) : ∀ k,k < ops.size → s.getD k false = true := by
 intro k
 induction k using Nat.strongRecOn with
 | ind k ih =>
  intro hk
  cases hb : s.getD k false with
  | true => rfl
  | false =>
   exfalso
   have hm : k ∈ Region.ready md ops s := by
    refine mem_ready.2 ⟨?_,ops[k],Array.getElem?_eq_getElem hk,fun e he hbe => ih e.on (hback k _ (Array.getElem?_eq_getElem hk) e he hbe) ?_⟩
    ·have h' : k < s.size := by omega
     simp [h'] at hb ⊢
     exact hb
    ·have := hback k _ (Array.getElem?_eq_getElem hk) e he hbe
     omega
   rw [h] at hm
   cases hm
theorem wpAnyH_invM (I : Array Bool → Act → World → Prop) (hbk : backM md ops = true)
  (hsz : ∀ s a w,I s a w → s.size = ops.size) (hS : ∀ s a w,I s a w → S w)
  (hstep : ∀ s a w i,I s a w → i ∈ Region.ready md ops s → wpOp P ops Q i (I (s.setIfInBounds i true)) a w)
  (hend : ∀ s a w,I s a w → (∀ k,k < ops.size → s.getD k false = true) → Q .normal a w) :
  ∀ (m : Nat) (s : Array Bool) (a : Act) (w : World),I s a w → s.toList.count false ≤ m → wpAnyH P md ops Q S m s a w := by
 have hback := backM_spec hbk
 intro m
 induction m with
 | zero =>
  intro s a w hI hc
  have hall : ∀ k,k < ops.size → s.getD k false = true := by
   intro k hk
   have hk' : k < s.size := by rw [hsz s a w hI]; exact hk
   have h0 : s.toList.count false = 0 := by omega
   have hn : false ∉ s.toList := List.count_eq_zero.1 h0
   cases hb : s[k] with
   | true => simp [hk',hb]
   | false => exact absurd (by rw [← hb]; simp) hn
  refine ⟨?_,hend s a w hI hall⟩
  rw [List.eq_nil_iff_forall_not_mem]
  intro i hi
  obtain ⟨h1,o,ho,_⟩ := mem_ready.1 hi
  have hlt : i < ops.size := (Array.getElem?_eq_some_iff.1 ho).1
  have h2 := hall i hlt
  have hk' : i < s.size := by rw [hsz s a w hI]; exact hlt
  simp [hk'] at h1 h2
  rw [h1] at h2
  cases h2
 | succ m ih =>
  intro s a w hI hc
  refine ⟨fun h => hend s a w hI (all_listedM hback h (hsz s a w hI)),fun i hi => ?_⟩
  refine wpOp_mono (fun a' w' h' => ⟨hS _ _ _ h',ih _ a' w' h' ?_⟩) (hstep s a w i hI hi)
  obtain ⟨h1,o,ho,_⟩ := mem_ready.1 hi
  have hlt : i < ops.size := (Array.getElem?_eq_some_iff.1 ho).1
  have hk' : i < s.size := by rw [hsz s a w hI]; exact hlt
  have hf : s.toList[i]'(by simpa using hk') = false := by simpa [hk'] using h1
  have hpos : 0 < s.toList.count false := List.count_pos_iff.2 (by rw [← hf]; exact List.getElem_mem _)
  have hset : (s.setIfInBounds i true).toList.count false = s.toList.count false - 1 := by
   rw [Array.toList_setIfInBounds,List.count_set (by simpa using hk')]
   simp [hf]
  omega
end
end Go.Proofs.YtaahjcljanckaaaGreatDoor
namespace Go.Proofs.YtaahjcljanckaaaGreatDoor
open Go.RowKit
theorem OwnV.storedAll {base g n cap : Nat} {e : TypeId} : ∀ (vs : List Value) (o : Nat) (w : World) (xs : List Value),OwnV w base e (.slice (some ⟨g, 0,none⟩) n cap) xs → n = xs.length →
  ∃ ys,ys.length = xs.length ∧ (∀ j,j < o → ys[j]? = xs[j]?) ∧ (∀ j,j < vs.length → o + j < xs.length → ys[o + j]? = vs[j]?) ∧ (∀ j,o + vs.length ≤ j → ys[j]? = xs[j]?) ∧ OwnV (w.setCells g o vs) base e (.slice (some ⟨g, 0,none⟩) n cap) ys ∧ w.grownBy (w.setCells g o vs) (some g)
 | [],o,w,xs,h,hn => ⟨xs,rfl,fun _ _ => rfl,fun j hj => by simp at hj,fun _ _ => rfl,h,grownBy_refl _ _⟩
 | v :: rest,o,w,xs,h,hn => by
  obtain ⟨h1,hg1⟩ := h.stored hn o v
  obtain ⟨ys,e1,e2,e3,e4,e5,e6⟩ := OwnV.storedAll rest (o + 1) (w.setCell ⟨g,o,none⟩ v) (xs.set o v) h1 (by rw [List.length_set]; exact hn)
  refine ⟨ys,by rw [e1,List.length_set],fun j hj => ?_,fun j hj hx => ?_,fun j hj => ?_,e5,grownBy_trans hg1 e6⟩
  ·rw [e2 j (by omega),List.getElem?_set_ne (by omega)]
  ·cases j with
   | zero =>
    rw [Nat.add_zero] at hx ⊢
    rw [e2 o (by omega),List.getElem?_set_self hx]
    rfl
   | succ j =>
    have := e3 j (by simp at hj; omega) (by rw [List.length_set]; omega)
    rw [show o + (j + 1) = o + 1 + j by omega,this]
    rfl
  ·simp only [List.length_cons] at hj
   rw [e4 j (by omega),List.getElem?_set_ne (by omega)]
theorem OwnV.cut {w : World} {base g n cap : Nat} {e : TypeId} {xs : List Value} (h : OwnV w base e (.slice (some ⟨g, 0,none⟩) n cap) xs) (hn : n = xs.length) (m : Nat) (hm : m ≤ n) : OwnV w base e (.slice (some ⟨g, 0,none⟩) m cap) (xs.take m) := by
 rcases h.2 with ⟨e1,_⟩ | ⟨g',cp,cur,e1,h1,h2,h3,h4,h5,h6⟩
 ·cases e1
 ·simp only [Value.slice.injEq,Option.some.injEq,Addr.mk.injEq,and_true] at e1
  obtain ⟨rfl,e2,rfl⟩ := e1
  have hl : (xs.take m).length = m := by rw [List.length_take]; omega
  unfold OwnV
  rw [hl]
  refine ⟨by rw [hl,Nat.mul_one],.inr ⟨g,cap,cur,rfl,h1,h2,by omega,h4,h5, ?_⟩⟩
  rw [← h6,List.take_take,Nat.mul_one,Nat.mul_one,Nat.min_eq_left (by omega)]
theorem take_same {α : Type} {xs ys : List α} {n : Nat} (h : ∀ j,j < n → ys[j]? = xs[j]?) : ys.take n = xs.take n := by
 apply List.ext_getElem?
 intro i
 by_cases hi : i < n
 ·rw [List.getElem?_take_of_lt hi,List.getElem?_take_of_lt hi,h i hi]
 ·rw [List.getElem?_eq_none (by rw [List.length_take]; omega),List.getElem?_eq_none (by rw [List.length_take]; omega)]
theorem OwnV.cell {w : World} {base g n cap : Nat} {e : TypeId} {xs : List Value} (h : OwnV w base e (.slice (some ⟨g, 0,none⟩) n cap) xs) {j : Nat} (hj : j < xs.length) : w.cell? ⟨g,j,none⟩ = some xs[j] ∧ w.frozen? ⟨g,j,none⟩ = false ∧ base ≤ g ∧ g < w.heap.size := by
 obtain ⟨a,c,e1,h1⟩ := h.shape
 simp only [Value.slice.injEq] at e1
 obtain ⟨g',e2,h2,h3,h4,h5⟩ := h1 j hj
 rw [← e1.1] at e2
 simp only [Option.some.injEq,Addr.mk.injEq,and_true] at e2
 subst e2
 exact ⟨h2,h3,h4,h5⟩
theorem OwnV.capOf {w : World} {base g n cap : Nat} {e : TypeId} {xs : List Value} (h : OwnV w base e (.slice (some ⟨g, 0,none⟩) n cap) xs) : n ≤ cap ∧ cap ≤ maxLen := by
 rcases h.2 with ⟨e1,_⟩ | ⟨g',cp,cur,e1,h1,h2,h3,h4,h5,h6⟩
 ·cases e1
 ·simp only [Value.slice.injEq] at e1
  omega
def tyOk (t : TypeId) : Prop := t ≠ 9 ∧ t ≠ 3 ∧ t ≠ 24
def PHold (w : World) (V : Nat) (ty : TypeId) (ext : List Value) (lo : Nat) (v1 v2 v3 : Value) (P : Pol) : Prop :=
 w.heap[V]? = some (.cells (v1 :: v2 :: v3 :: .int .i64 P.sk.added :: ext).toArray ty (0, 0)) ∧ OwnV w lo 9 v1 (strs P.win) ∧ OwnV w lo 9 v2 (strs P.main) ∧ (∀ k,v1.ownBlock = some k → v2.ownBlock ≠ some k) ∧ OwnSS w lo w.heap.size v3 P.sk.rows
theorem PHold.lt {w : World} {V lo : Nat} {ty : TypeId} {ext : List Value} {v1 v2 v3 : Value} {P : Pol} (h : PHold w V ty ext lo v1 v2 v3 P) : V < w.heap.size := (Array.getElem?_eq_some_iff.1 h.1).1
theorem PHold.cells {w : World} {V lo : Nat} {ty : TypeId} {ext : List Value} {v1 v2 v3 : Value} {P : Pol} (h : PHold w V ty ext lo v1 v2 v3 P) : w.cell? ⟨V, 0,none⟩ = some v1 ∧ w.cell? ⟨V, 1,none⟩ = some v2 ∧ w.cell? ⟨V, 2,none⟩ = some v3 ∧ w.cell? ⟨V, 3,none⟩ = some (.int .i64 P.sk.added) ∧ w.cell? ⟨V, 4,none⟩ = ext[0]? := by
 refine ⟨?_, ?_, ?_, ?_, ?_⟩
 ·rw [cell_of_row w V 0 _ _ (0, 0) h.1]; rfl
 ·rw [cell_of_row w V 1 _ _ (0, 0) h.1]; rfl
 ·rw [cell_of_row w V 2 _ _ (0, 0) h.1]; rfl
 ·rw [cell_of_row w V 3 _ _ (0, 0) h.1]; rfl
 ·rw [cell_of_row w V 4 _ _ (0, 0) h.1]; simp
theorem PHold.thaw {w : World} {V lo : Nat} {ty : TypeId} {ext : List Value} {v1 v2 v3 : Value} {P : Pol} (h : PHold w V ty ext lo v1 v2 v3 P) (i : Nat) : w.frozen? ⟨V,i,none⟩ = false := by
 have := h.1
 simp [World.frozen?,this]
theorem PHold.on {w w' : World} {V lo : Nat} {ty : TypeId} {ext : List Value} {v1 v2 v3 : Value} {P : Pol} (h : PHold w V ty ext lo v1 v2 v3 P) (hb : Below w.heap.size w w') : PHold w' V ty ext lo v1 v2 v3 P :=
 ⟨(hb.block V h.lt).trans h.1,h.2.1.below hb (Nat.le_refl _),h.2.2.1.below hb (Nat.le_refl _),h.2.2.2.1,(h.2.2.2.2.below hb (Nat.le_refl _)).mono (Nat.le_refl _) hb.size⟩
theorem PHold.own {w : World} {V lo : Nat} {ty : TypeId} {ext : List Value} {v1 v2 v3 : Value} {P : Pol} (h : PHold w V ty ext lo v1 v2 v3 P) : POwn w lo w.heap.size (.agg #[v1,v2,v3,.int .i64 P.sk.added]) P :=
 POwn.mk3 h.2.1 h.2.2.1 h.2.2.2.2 (Nat.le_refl _) (Nat.le_refl _) (Nat.le_refl _) h.2.2.2.1
theorem heap_put {w : World} {V : Nat} {cs : Array Value} {ty : TypeId} (h : w.heap[V]? = some (.cells cs ty (0, 0))) (i : Nat) (x : Value) : (w.setCell ⟨V,i,none⟩ x).heap[V]? = some (.cells (cs.setIfInBounds i x) ty (0, 0)) := by
 simp only [World.setCell,Array.getElem?_modify,h]
 simp
theorem ty_ne {w : World} {k V : Nat} {cs cs' : Array Value} {t ty : TypeId} (h1 : w.heap[k]? = some (.cells cs t (0, 0))) (h2 : w.heap[V]? = some (.cells cs' ty (0, 0))) (hn : ty ≠ t) : k ≠ V := by
 rintro rfl
 rw [h1] at h2
 simp only [Option.some.injEq,Obj.cells.injEq] at h2
 exact hn h2.2.1.symm
theorem OwnSS.apart {w w' : World} {lo hi : Nat} {v : Value} {LL : List (List Int)} (h : OwnSS w lo hi v LL) (hk : ∀ (k : Nat) (cs : Array Value) (t : TypeId),w.heap[k]? = some (Obj.cells cs t (0, 0)) → (t = 3 ∨ t = 24) → w'.heap[k]? = w.heap[k]?) : OwnSS w' lo hi v LL :=
 h.kept fun k _ _ h3 h4 => by
  obtain ⟨c,hc⟩ : ∃ c,w.heap[k]? = some c := ⟨_,Array.getElem?_eq_getElem h3⟩
  rcases h4 c hc with ⟨cs,rfl⟩ | ⟨cs,rfl⟩
  ·exact hk k _ _ hc (.inr rfl)
  ·exact hk k _ _ hc (.inl rfl)
theorem PHold.setWin {w w' : World} {V lo : Nat} {ty : TypeId} {ext : List Value} {v1 v2 v3 v1' : Value} {P : Pol} {W' : List ByteArray} (h : PHold w V ty ext lo v1 v2 v3 P) (ht : tyOk ty) (hg : w.grownBy w' v1.ownBlock) (ho : OwnV w' lo 9 v1' (strs W')) (hn : ∀ k,v1'.ownBlock = some k → v1.ownBlock = some k ∨ w.heap.size ≤ k) :
  PHold (w'.setCell ⟨V, 0,none⟩ v1') V ty ext lo v1' v2 v3 ⟨W',P.main,P.sk⟩ := by
 obtain ⟨hV,h1,h2,h3,h4⟩ := h
 have hVn : v1.ownBlock ≠ some V := fun e => by
  obtain ⟨cs,hc⟩ := ownV_type h1 V e
  exact ty_ne hc hV ht.1 rfl
 have hV' : w'.heap[V]? = some (.cells (v1 :: v2 :: v3 :: .int .i64 P.sk.added :: ext).toArray ty (0, 0)) := (hg.block V (Array.getElem?_eq_some_iff.1 hV).1 (fun e => hVn e.symm)).trans hV
 have hs : (w'.setCell ⟨V, 0,none⟩ v1').heap.size = w'.heap.size := by simp [World.setCell]
 have far : ∀ k,k ≠ V → (w'.setCell ⟨V, 0,none⟩ v1').heap[k]? = w'.heap[k]? := fun k hk => Below.heap_setCell _ _ _ _ (by exact hk)
 refine ⟨?_,ho.kept fun k hk => ?_,(h2.grown hg (fun k hk e => h3 k e hk)).kept fun k hk => ?_,fun k hk e => ?_, ?_⟩
 ·rw [heap_put hV']; simp
 ·obtain ⟨cs,hc⟩ := ownV_type ho k hk
  exact far k (ty_ne hc hV' ht.1)
 ·obtain ⟨cs,hc⟩ := ownV_type (h2.grown hg (fun k hk e => h3 k e hk)) k hk
  exact far k (ty_ne hc hV' ht.1)
 ·rcases hn k hk with hk' | hk'
  ·exact h3 k hk' e
  ·have := (h2.lt k e).2; omega
 ·rw [hs]
  refine OwnSS.apart (h4.mono (Nat.le_refl _) hg.size) fun k cs t hc htt => ?_
  have hkV : k ≠ V := ty_ne hc hV (by rcases htt with rfl | rfl; exact ht.2.1; exact ht.2.2)
  rw [far k hkV]
  refine hg.block k (Array.getElem?_eq_some_iff.1 hc).1 fun e => ?_
  obtain ⟨cs',hc'⟩ := ownV_type h1 k e.symm
  rw [hc] at hc'
  simp only [Option.some.injEq,Obj.cells.injEq] at hc'
  rcases htt with rfl | rfl
  ·exact absurd hc'.2.1 (by decide)
  ·exact absurd hc'.2.1 (by decide)
theorem PHold.setMain {w w' : World} {V lo : Nat} {ty : TypeId} {ext : List Value} {v1 v2 v3 v2' : Value} {P : Pol} {W' : List ByteArray} (h : PHold w V ty ext lo v1 v2 v3 P) (ht : tyOk ty) (hg : w.grownBy w' v2.ownBlock) (ho : OwnV w' lo 9 v2' (strs W')) (hn : ∀ k,v2'.ownBlock = some k → v2.ownBlock = some k ∨ w.heap.size ≤ k) :
  PHold (w'.setCell ⟨V, 1,none⟩ v2') V ty ext lo v1 v2' v3 ⟨P.win,W',P.sk⟩ := by
 obtain ⟨hV,h1,h2,h3,h4⟩ := h
 have hVn : v2.ownBlock ≠ some V := fun e => by
  obtain ⟨cs,hc⟩ := ownV_type h2 V e
  exact ty_ne hc hV ht.1 rfl
 have hV' : w'.heap[V]? = some (.cells (v1 :: v2 :: v3 :: .int .i64 P.sk.added :: ext).toArray ty (0, 0)) := (hg.block V (Array.getElem?_eq_some_iff.1 hV).1 (fun e => hVn e.symm)).trans hV
 have hs : (w'.setCell ⟨V, 1,none⟩ v2').heap.size = w'.heap.size := by simp [World.setCell]
 have far : ∀ k,k ≠ V → (w'.setCell ⟨V, 1,none⟩ v2').heap[k]? = w'.heap[k]? := fun k hk => Below.heap_setCell _ _ _ _ (by exact hk)
 refine ⟨?_,(h1.grown hg (fun k hk e => h3 k hk e)).kept fun k hk => ?_,ho.kept fun k hk => ?_,fun k hk e => ?_, ?_⟩
 ·rw [heap_put hV']; simp
 ·obtain ⟨cs,hc⟩ := ownV_type (h1.grown hg (fun k hk e => h3 k hk e)) k hk
  exact far k (ty_ne hc hV' ht.1)
 ·obtain ⟨cs,hc⟩ := ownV_type ho k hk
  exact far k (ty_ne hc hV' ht.1)
 ·rcases hn k e with hk' | hk'
  ·exact h3 k hk hk'
  ·have := (h1.lt k hk).2; omega
 ·rw [hs]
  refine OwnSS.apart (h4.mono (Nat.le_refl _) hg.size) fun k cs t hc htt => ?_
  have hkV : k ≠ V := ty_ne hc hV (by rcases htt with rfl | rfl; exact ht.2.1; exact ht.2.2)
  rw [far k hkV]
  refine hg.block k (Array.getElem?_eq_some_iff.1 hc).1 fun e => ?_
  obtain ⟨cs',hc'⟩ := ownV_type h2 k e.symm
  rw [hc] at hc'
  simp only [Option.some.injEq,Obj.cells.injEq] at hc'
  rcases htt with rfl | rfl
  ·exact absurd hc'.2.1 (by decide)
  ·exact absurd hc'.2.1 (by decide)
theorem PHold.setSk {w w' : World} {V lo : Nat} {ty : TypeId} {ext : List Value} {v1 v2 v3 v3' : Value} {P : Pol} {S : Sk} (h : PHold w V ty ext lo v1 v2 v3 P) (ht : tyOk ty) (hb : Below w.heap.size w w') (hlo : lo ≤ w.heap.size) (ho : OwnSS w' w.heap.size w'.heap.size v3' S.rows) :
  PHold ((w'.setCell ⟨V, 2,none⟩ v3').setCell ⟨V, 3,none⟩ (.int .i64 S.added)) V ty ext lo v1 v2 v3' ⟨P.win,P.main,S⟩ := by
 have h' := h.on hb
 obtain ⟨hV,h1,h2,h3,h4⟩ := h'
 have far : ∀ k,k ≠ V → ((w'.setCell ⟨V, 2,none⟩ v3').setCell ⟨V, 3,none⟩ (.int .i64 S.added)).heap[k]? = w'.heap[k]? := fun k hk => by
  rw [Below.heap_setCell _ _ _ _ (by exact hk),Below.heap_setCell _ _ _ _ (by exact hk)]
 have hs : ((w'.setCell ⟨V, 2,none⟩ v3').setCell ⟨V, 3,none⟩ (.int .i64 S.added)).heap.size = w'.heap.size := by simp [World.setCell]
 refine ⟨?_,h1.kept fun k hk => ?_,h2.kept fun k hk => ?_,h3, ?_⟩
 ·rw [heap_put (heap_put hV 2 v3')]; simp
 ·obtain ⟨cs,hc⟩ := ownV_type h1 k hk
  exact far k (ty_ne hc hV ht.1)
 ·obtain ⟨cs,hc⟩ := ownV_type h2 k hk
  exact far k (ty_ne hc hV ht.1)
 ·rw [hs]
  refine OwnSS.apart (ho.mono hlo (Nat.le_refl _)) fun k cs t hc htt => ?_
  exact far k (ty_ne hc hV (by rcases htt with rfl | rfl; exact ht.2.1; exact ht.2.2))
theorem PHold.far {w w' : World} {V T lo : Nat} {ty t' : TypeId} {ext : List Value} {cs' : Array Value} {v1 v2 v3 : Value} {P : Pol} (h : PHold w V ty ext lo v1 v2 v3 P) (hT : w.heap[T]? = some (.cells cs' t' (0, 0))) (ht' : tyOk t' ∨ T < lo) (hVT : V ≠ T) (hk : ∀ k,k ≠ T → w'.heap[k]? = w.heap[k]?) (hs : w'.heap.size = w.heap.size) : PHold w' V ty ext lo v1 v2 v3 P := by
 obtain ⟨hV,h1,h2,h3,h4⟩ := h
 refine ⟨(hk V hVT).trans hV,h1.kept fun k hk' => ?_,h2.kept fun k hk' => ?_,h3, ?_⟩
 ·obtain ⟨cs,hc⟩ := ownV_type h1 k hk'
  rcases ht' with ht' | ht'
  ·exact hk k (ty_ne hc hT ht'.1)
  ·exact hk k (by have := (h1.lt k hk').1; omega)
 ·obtain ⟨cs,hc⟩ := ownV_type h2 k hk'
  rcases ht' with ht' | ht'
  ·exact hk k (ty_ne hc hT ht'.1)
  ·exact hk k (by have := (h2.lt k hk').1; omega)
 ·rw [hs]
  refine h4.kept fun k k1 _ k3 k4 => ?_
  obtain ⟨c,hc⟩ : ∃ c,w.heap[k]? = some c := ⟨_,Array.getElem?_eq_getElem k3⟩
  rcases ht' with ht' | ht'
  ·rcases k4 c hc with ⟨cs,rfl⟩ | ⟨cs,rfl⟩
   ·exact hk k (ty_ne hc hT ht'.2.2)
   ·exact hk k (ty_ne hc hT ht'.2.1)
  ·exact hk k (by omega)
theorem POwn.hold {w : World} {lo : Nat} {v1 v2 v3 : Value} {P : Pol} (h : POwn w lo w.heap.size (.agg #[v1,v2,v3,.int .i64 P.sk.added]) P) (ty : TypeId) (ext : List Value) :
  PHold (w.alloc (.cells (v1 :: v2 :: v3 :: .int .i64 P.sk.added :: ext).toArray ty)) w.heap.size ty ext lo v1 v2 v3 P := by
 obtain ⟨u1,u2,u3,e,a1,a2,a3,a4,a5⟩ := h
 simp only [Value.agg.injEq,Array.mk.injEq,List.cons.injEq,and_true] at e
 obtain ⟨rfl,rfl,rfl⟩ := e
 have hb : Below w.heap.size w (w.alloc (.cells (v1 :: v2 :: v3 :: .int .i64 P.sk.added :: ext).toArray ty)) := (Below.refl _ _).alloc (Nat.le_refl _) _
 exact ⟨heap_alloc_new _ _,a1.below hb (Nat.le_refl _),a2.below hb (Nat.le_refl _),fun k hk => (a3 k hk).2,(a5.below hb (Nat.le_refl _)).mono (Nat.le_refl _) hb.size⟩
theorem PHold.var1 {w w' : World} {V lo : Nat} {ty : TypeId} {ext : List Value} {v1 v2 v3 : Value} {P : Pol} (h : PHold w V ty ext lo v1 v2 v3 P) (ht : tyOk ty) (hg : w.grownBy w' v1.ownBlock) : w'.cell? ⟨V, 0,none⟩ = some v1 ∧ ∀ i,w'.frozen? ⟨V,i,none⟩ = false := by
 have hVn : v1.ownBlock ≠ some V := fun e => by
  obtain ⟨cs,hc⟩ := ownV_type h.2.1 V e
  exact ty_ne hc h.1 ht.1 rfl
 have hV' := (hg.block V h.lt (fun e => hVn e.symm)).trans h.1
 exact ⟨by rw [cell_of_row w' V 0 _ _ (0, 0) hV']; rfl,fun i => by simp [World.frozen?,hV']⟩
theorem PHold.var2 {w w' : World} {V lo : Nat} {ty : TypeId} {ext : List Value} {v1 v2 v3 : Value} {P : Pol} (h : PHold w V ty ext lo v1 v2 v3 P) (ht : tyOk ty) (hg : w.grownBy w' v2.ownBlock) : w'.cell? ⟨V, 1,none⟩ = some v2 ∧ ∀ i,w'.frozen? ⟨V,i,none⟩ = false := by
 have hVn : v2.ownBlock ≠ some V := fun e => by
  obtain ⟨cs,hc⟩ := ownV_type h.2.2.1 V e
  exact ty_ne hc h.1 ht.1 rfl
 have hV' := (hg.block V h.lt (fun e => hVn e.symm)).trans h.1
 exact ⟨by rw [cell_of_row w' V 1 _ _ (0, 0) hV']; rfl,fun i => by simp [World.frozen?,hV']⟩
end Go.Proofs.YtaahjcljanckaaaGreatDoor
