/- One act on a disk: the program's. -/
import Derived.Test.YtghladeamdhlhalActsPlain
import Derived.Test.YtghladeamdhlhalFolderDisk
import Derived.Test.YtghladeamdhlhalLawKit
namespace Go.Proofs.Ytghladeamdhlhal
open Go.RowKit Go.Sort

theorem boxes3 (w : World) (a b c : Obj) : Below w.heap.size w (((w.alloc a).alloc b).alloc c) := (((Below.refl _ w).alloc (Nat.le_refl _) _).alloc (by simp) _).alloc (by simp; omega) _

set_option maxRecDepth 100000 in
set_option maxHeartbeats 4000000 in
theorem implDoAct_any (w : World) (a : Option Addr) (cap : Nat) (L : List Fil) (kd : Int) (nm tx to : ByteArray) (hL : FAt w a L w.heap.size) (hm : L.length ≤ 1048576) (hn : nm.size ≤ maxLen) :
    Calls Try.prog 13 #[.agg #[.slice a L.length cap], .agg #[.int .i64 kd, .string nm, .string tx, .string to]] w fun e w' => ∃ v, e = .returned (.tuple #[.agg #[v], .bool (ac L ⟨kd, nm, tx, to⟩).isSome]) ∧ OwnF w' w.heap.size 63 v ((ac L ⟨kd, nm, tx, to⟩).getD []) ∧ Below w.heap.size w w' := by
  obtain ⟨wb, hwb⟩ : ∃ wb, ((w.alloc (.cells #[.slice a L.length cap] 31)).alloc (.cells #[.int .i64 kd, .string nm, .string tx, .string to] 35)).alloc (.cells #[.slice none 0 0] 31) = wb := ⟨_, rfl⟩
  have hb : Below w.heap.size w wb := by rw [← hwb]; exact boxes3 _ _ _ _
  have h3 := new3 w (.cells #[.slice a L.length cap] 31) (.cells #[.int .i64 kd, .string nm, .string tx, .string to] 35) (.cells #[.slice none 0 0] 31)
  rw [hwb] at h3
  have HS : Hid (wb.heap.size = w.heap.size + 1 + 1 + 1) := by show _ = _; rw [← hwb]; simp
  have HW : Hid (((w.alloc (.cells #[.slice a L.length cap] 31)).alloc (.cells #[.int .i64 kd, .string nm, .string tx, .string to] 35)).alloc (.cells #[.slice none 0 0] 31) = wb) := hwb
  clear hwb
  have hLb : FAt wb a L wb.heap.size := hL.on hb
  have HC : Hid (∀ wi, Below wb.heap.size wb wi → wi.cell? ⟨w.heap.size, 0, none⟩ = some (.slice a L.length cap) ∧ wi.cell? ⟨w.heap.size + 1, 0, none⟩ = some (.int .i64 kd) ∧ wi.cell? ⟨w.heap.size + 1, 1, none⟩ = some (.string nm) ∧ wi.cell? ⟨w.heap.size + 1, 2, none⟩ = some (.string tx) ∧ wi.cell? ⟨w.heap.size + 1, 3, none⟩ = some (.string to) ∧ wi.cell? ⟨w.heap.size + 1 + 1, 0, none⟩ = some (.slice none 0 0) ∧ wi.frozen? ⟨w.heap.size + 1 + 1, 0, none⟩ = false ∧ Below w.heap.size w wi ∧ w.heap.size + 1 + 1 + 1 ≤ wi.heap.size ∧ FAt wi a L wi.heap.size) := by
    intro wi hi
    have hs := HS.out
    have e0 := (hi.block w.heap.size (by omega)).trans h3.1
    have e1 := (hi.block (w.heap.size + 1) (by omega)).trans h3.2.1
    have e2 := (hi.block (w.heap.size + 1 + 1) (by omega)).trans h3.2.2
    refine ⟨by simp [World.cell?, e0], by simp [World.cell?, e1], by simp [World.cell?, e1], by simp [World.cell?, e1], by simp [World.cell?, e1], by simp [World.cell?, e2], by simp [World.frozen?, e2], bthen hb hi, ?_, hLb.on hi⟩
    have := hi.size
    omega
  have c0 := implDiskOk_any wb a cap L hLb hm
  obtain ⟨q0, _⟩ := HC.out wb (Below.refl _ _)
  clear hL h3 hLb
  go_enter Try.func13, Try.ntmps13
  go_wp2_with fail
  rw [HW.out]
  refine c0.mono ?_
  rintro e w1 ⟨rfl, hb1⟩
  obtain ⟨p0, p1, p2, p3, p4, p5, z5, hB1, hs1, hL1⟩ := HC.out w1 hb1
  clear c0 q0
  cases hd : dOk L with
  | false =>
    have HA : Hid (ac L ⟨kd, nm, tx, to⟩ = none) := by simp [ac, hd, Hid]
    have q5 := cell_set_same (v := .slice none 0 0) p5
    clear hd
    go_wp2
    refine bodyPost_ret (v := .tuple #[.agg #[.slice none 0 0], .bool false]) (by simp [results, Try.results13, go_sem, q5]) rfl ⟨.slice none 0 0, by rw [HA.out]; rfl, ?_, ?_⟩
    · rw [HA.out]; exact OwnF.nil _ _ _
    · exact hB1.setCell (by simp; omega) _
  | true =>
    have HA : Hid (ac L ⟨kd, nm, tx, to⟩ = doL L ⟨kd, nm, tx, to⟩) := by simp [ac, hd, Hid]
    have HD : Hid (dOk L = true) := hd
    have c1 := folderOf_any w1 a cap L hL1 hd
    clear hd
    go_wp2_with fail
    refine c1.mono ?_
    rintro e w2 ⟨rfl, M, hF, hM, hb2⟩
    obtain ⟨r0, r1, r2, r3, r4, r5, y5, hB2, hs2, hL2⟩ := HC.out w2 (bthen hb1 hb2)
    have hM30 : M.length ≤ 30 := by
      have := congrArg List.length hM
      rw [List.length_map] at this
      have := dOk_len HD.out
      omega
    have hMo : ∀ p ∈ M, fOk p.1 = true := fun p hp => dOk_all HD.out p.1 (by rw [← hM]; exact List.mem_map.2 ⟨p, hp, rfl⟩)
    have c2 := do_any w2 (w1.heap.size + 1) w1.heap.size M kd nm tx to hF hM30 hMo hn
    rw [hM] at c2
    clear c1 p0 p1 p2 p3 p4 p5 z5 hF hM hM30 hMo
    unfold Res at c2
    go_wp2_with fail
    refine c2.mono ?_
    rintro e w3 ⟨rfl, M', hF', hM', hb3⟩
    clear c2
    have hb13 : Below wb.heap.size wb w3 := (bthen hb1 hb2).trans (hb3.mono hb1.size)
    obtain ⟨t0, t1, t2, t3, t4, t5, x5, hB3, hs3, hL3⟩ := HC.out w3 hb13
    clear r0 r1 r2 r3 r4 r5 y5 hb2 hb3 hL1 hL2 hB1 hB2
    cases ho : doL L ⟨kd, nm, tx, to⟩ with
    | none =>
      have HN : Hid (ac L ⟨kd, nm, tx, to⟩ = none) := HA.out.trans ho
      have q5 := cell_set_same (v := .slice none 0 0) t5
      rw [ho] at hM'
      simp only [Option.isSome_none]
      clear ho hF' hM'
      go_wp2
      refine bodyPost_ret (v := .tuple #[.agg #[.slice none 0 0], .bool false]) (by simp [results, Try.results13, go_sem, q5]) rfl ⟨.slice none 0 0, by rw [HN.out]; rfl, ?_, ?_⟩
      · rw [HN.out]; exact OwnF.nil _ _ _
      · exact hB3.setCell (by simp; omega) _
    | some X =>
      have HN : Hid (ac L ⟨kd, nm, tx, to⟩ = some X) := HA.out.trans ho
      have hdX := doL_dOk HD.out ho
      rw [ho] at hM'
      simp only [Option.isSome_some, Option.getD_some] at hM' ⊢
      have hM30 : M'.length ≤ 30 := by
        have := congrArg List.length hM'
        rw [List.length_map] at this
        have := dOk_len hdX
        omega
      have hMo : ∀ p ∈ M', fOk p.1 = true := fun p hp => dOk_all hdX p.1 (by rw [← hM']; exact List.mem_map.2 ⟨p, hp, rfl⟩)
      have c3 := disk_any w3 (w1.heap.size + 1) w1.heap.size M' hF' hM30 hMo
      rw [hM'] at c3
      clear ho hF' hM' hM30 hMo hdX
      go_wp2_with fail
      refine c3.mono ?_
      rintro e w4 ⟨v4, rfl, ho4, hb4⟩
      obtain ⟨_, _, _, _, _, u5, v5, hB4, hs4, _⟩ := HC.out w4 (bthen hb13 hb4)
      obtain ⟨av, cv, rfl, _⟩ := ho4.shape
      have q5 := cell_set_same (v := .slice av X.length cv) u5
      have HO : Hid (OwnF w4 w3.heap.size 63 (.slice av X.length cv) X) := ho4
      clear ho4 t0 t1 t2 t3 t4 t5 x5 c3
      go_wp2
      refine bodyPost_ret (v := .tuple #[.agg #[.slice av X.length cv], .bool true]) (by simp [results, Try.results13, go_sem, q5]) rfl ⟨_, by rw [HN.out]; rfl, ?_, ?_⟩
      · rw [HN.out]
        refine (HO.out.mono (by omega)).kept fun j hj => ?_
        have := (HO.out.lt j hj).1
        rw [heap_setCell_other _ _ _ _ (by simp; omega)]
      · exact hB4.setCell (by simp; omega) _
end Go.Proofs.Ytghladeamdhlhal
