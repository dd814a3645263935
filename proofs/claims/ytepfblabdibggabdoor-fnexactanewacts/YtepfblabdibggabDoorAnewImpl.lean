/- What is done to lay the file anew: the program's walk. -/
import Derived.Test.YtepfblabdibggabDoorEntActsJ
import Derived.Test.YtepfblabdibggabDoorActPlus
import Derived.Test.YtepfblabdibggabDoorEnsLaw
import Derived.Test.YtepfblabdibggabDoorFrameImplJ
import Derived.Test.YtepfblabdibggabDoorDiskImpl
import Derived.Test.YtepfblabdibggabDoorAtImpl
import Derived.Test.YtepfblabdibggabDoorAtSpecJ
namespace Go.Proofs.YtepfblabdibggabDoor
open Go.RowKit
theorem Tryd.infoActI : (Tryd.prog.info? 57).map (fun i => (i.zero, i.size, i.bytes)) = some (some (.agg #[.int .i64 0, .string ⟨#[]⟩, .string ⟨#[]⟩, .string ⟨#[]⟩]), 4, 56) := by kernel_rfl
theorem Tryd.infoStA : (Tryd.prog.info? 9).map (fun i => (i.zero, i.size, i.bytes)) = some (some (.string ⟨#[]⟩), 1, 16) := by kernel_rfl
/-- 'make([]string, 0, n)'. -/
theorem wpList_makeS0 {P : Program} {w : World} {ops : Array Oper} {rest : List Oper} {o : Oper} {a : Act} {Q : Exit → Act → World → Prop}
    (hg : o.guard = none) (l c : Operand) (t : TypeId) (hop : o.op = Op.makeSlice t l c) (base : Nat) (e : TypeId) (ht : P.underlying t = some (.slice e))
    (hinfo : (P.info? e).map (fun i => (i.zero, i.size, i.bytes)) = some (some (.string ⟨#[]⟩), 1, 16)) (C : Int) (n : Nat) (hl : a.eval l = .int .i64 0) (hc : a.eval c = .int .i64 C) (hC : C = (n : Int)) (hn : n ≤ 1099511627776) (hbase : base ≤ w.heap.size)
    (h : ∀ w', OwnV w' base e (.slice (some ⟨w.heap.size, 0, none⟩) 0 n) [] → Below w.heap.size w w' → wpList P ops Q rest (a.put o.dst (.slice (some ⟨w.heap.size, 0, none⟩) 0 n)) w') :
    wpList P ops Q (o :: rest) a w := by
  obtain ⟨i0, hi, hz0, hz1, hz2⟩ := info_parts hinfo
  refine wpList_make_own w hg l c t hop base e i0 (.string ⟨#[]⟩) 1 ht hi hz0 hz1 .i64 .i64 C n hl hc hC (by rw [hz2]; omega) (by unfold maxLen; omega) hbase ?_
  intro w' h1 h2
  exact h w' h1 ⟨h2.os, h2.tape, h2.output, h2.size, fun j hj => h2.block j hj (by simp)⟩
set_option maxRecDepth 100000 in
set_option maxHeartbeats 8000000 in
theorem implAnewActs_any (w : World) (a b : Option Addr) (c c' : Nat) (L : List Fil) (M : List En) (hL : FAt w a L w.heap.size) (hM : NAt w b M w.heap.size) (hm : L.length + wgt L ≤ 1048576) (hn : M.length ≤ 1048576) (hz : ∀ j (hj : j < M.length), M[j].key.size ≤ 1048576 ∧ M[j].bd.size ≤ 1048576) (ht : Tab w) :
    Calls Tryd.prog 25 #[.agg #[.slice a L.length c], .slice b M.length c'] w fun e w' => ∃ v, e = .returned (.tuple #[v, .bool (anewB L M)]) ∧ OwnA w' w.heap.size 57 v (anewL L M) ∧ Below w.heap.size w w' := by
  obtain ⟨A, hA⟩ : ∃ A, w.heap.size = A := ⟨_, rfl⟩
  obtain ⟨R, hR⟩ : ∃ R, anewB L M = R := ⟨_, rfl⟩
  obtain ⟨Z, hZ⟩ : ∃ Z, anewL L M = Z := ⟨_, rfl⟩
  have HZ : Hid (anewB L M = R ∧ anewL L M = Z) := ⟨hR, hZ⟩
  obtain ⟨wb, hwb⟩ : ∃ wb, w.alloc (.cells #[.slice a L.length c] 41) = wb := ⟨_, rfl⟩
  have hb : Below A w wb := by rw [← hwb, ← hA]; exact (Below.refl _ _).alloc (Nat.le_refl _) _
  have hbs : A < wb.heap.size := by rw [← hwb, ← hA]; simp
  have hbox : wb.cell? ⟨A, 0, none⟩ = some (.slice a L.length c) := by rw [← hwb, ← hA]; simp
  have HD : Hid (∀ wi, Below wb.heap.size wb wi → wi.cell? ⟨A, 0, none⟩ = some (.slice a L.length c) ∧ FAt wi a L wi.heap.size ∧ NAt wi b M wi.heap.size ∧ Below A w wi ∧ A ≤ wi.heap.size ∧ wb.heap.size ≤ wi.heap.size ∧ Tab wi) := by
    intro wi hi
    have hw : Below A w wi := hb.trans (hi.mono (by omega))
    refine ⟨(hi.cell hbs).trans hbox, ?_, ?_, hw, by have := hi.size; omega, hi.size, ht.below (by rw [hA]; exact hw) (Nat.le_refl _)⟩
    · exact FAt.on (FAt.on hL (by rw [hA]; exact hb)) hi
    · exact (hM.on (by rw [hA]; exact hb)).on hi
  have HB0 : Hid (Below wb.heap.size wb wb) := Below.refl _ _
  have HAW : Hid (A ≤ wb.heap.size) := Nat.le_of_lt hbs
  have c0 := implDiskOk_any wb a c L (HD.out wb HB0.out).2.1 (by omega)
  have HW : Hid (w.alloc (.cells #[.slice a L.length c] 41) = wb) := hwb
  have b0 := hbox
  rw [← hwb] at b0
  rw [hA, hR, hZ]
  clear hwb hb hbox hL hM hbs hR hZ ht
  go_enter Tryd.func25, Tryd.ntmps25
  go_wp2_with fail
  rw [HW.out]
  refine c0.mono ?_
  rintro e w1 ⟨rfl, hb1⟩
  have HB1 : Hid (Below wb.heap.size wb w1) := HB0.out.trans (hb1.mono HB0.out.size)
  clear c0 hb1 HB0 b0
  cases hd : dOk L
  case false =>
    have hr : R = false := by rw [← HZ.out.1]; unfold anewB; rw [hd]; rfl
    have hz' : Z = [] := by rw [← HZ.out.2]; exact anewL_out (by rw [HZ.out.1, hr])
    subst hr hz'
    go_wp2_with fail
    go_ret2
    exact ⟨.slice none 0 0, rfl, ownA_nil _ _ _, (HD.out w1 HB1.out).2.2.2.1⟩
  case true =>
  have HDK : Hid (dOk L = true) := hd
  clear hd
  go_wp2_with (at_make; refine wpList_makeS0 rfl _ _ 65 rfl wb.heap.size 9 Tryd.underlying65 Tryd.infoStA _ M.length rfl rfl (by omega) (by omega) HB1.out.size ?_; intro w2 ho2 hb2)
  have HB2 : Hid (Below wb.heap.size wb w2) := HB1.out.trans (hb2.mono HB1.out.size)
  have HO2 : Hid (OwnV w2 wb.heap.size 9 (.slice (some ⟨w1.heap.size, 0, none⟩) 0 M.length) (strs ([].map enFr))) := ho2
  clear hb2 ho2 HB1
  go_wp2_with fail
  go_loopw [6, 20] (fun s i wr => Box (∃ (k : Nat) (v : Value), k ≤ M.length ∧ i = .int .i64 k ∧ v = s ∧ Hid (enAllOk (M.take k) = true) ∧ Below wb.heap.size wb wr ∧ OwnV wr wb.heap.size 9 v (strs ((M.take k).map enFr))))
    (fun _ i _ => M.length - (intOf i).toNat)
  case atStart => exact ⟨⟨0, _, by omega, rfl, rfl, rfl, HB2.out, HO2.out⟩⟩
  case round =>
    obtain ⟨k, v, hk, rfl, hsv, HAL, hbel, hown⟩ := hrel.out
    subst hsv
    by_cases hlt : k < M.length
    · obtain ⟨g, off, rfl, hg, hc0, hc1, hc2, hc3⟩ := (HD.out wr hbel).2.2.1 k hlt
      have HBL : Hid (Below wb.heap.size wb wr ∧ OwnV wr wb.heap.size 9 v (strs ((M.take k).map enFr))) := ⟨hbel, hown⟩
      have hkz := hz k hlt
      have HN1 : Hid (enOk M[k] = false → anewB L M = false) := anewB_at hlt
      have HN2 : Hid (enOk M[k] = true → enAllOk (M.take (k + 1)) = true) := enAllOk_take hlt HAL.out
      have HN3 : Hid (strs ((M.take (k + 1)).map enFr) = strs ((M.take k).map enFr) ++ [.string (enFr M[k])]) := by show _ = _; rw [List.take_succ_eq_append_getElem hlt, List.map_append, strs_append]; rfl
      have hln : (strs ((M.take k).map enFr)).length ≤ 1048576 := by rw [strs_length, List.length_map, List.length_take]; omega
      obtain ⟨f, hf⟩ : ∃ f, M[k] = f := ⟨_, rfl⟩
      rw [hf] at hc0 hc1 hc2 hc3 hkz HN1 HN2 HN3
      have hi1 : (0 : Int) ≤ (k : Int) := by omega
      have hi2 : (k : Int) < (M.length : Int) := by omega
      clear hrel hbel hown hf
      obtain ⟨we, hwe⟩ : ∃ we, wr.alloc (.cells #[.string f.key, .int .i64 f.st, .int .i64 f.lf, .string f.bd] 28) = we := ⟨_, rfl⟩
      obtain ⟨T, hT⟩ : ∃ T, wr.heap.size = T := ⟨_, rfl⟩
      have HE1 : Hid (EnB we T 28 f ∧ Below wb.heap.size wb we ∧ OwnV we wb.heap.size 9 v (strs ((M.take k).map enFr))) := by
        rw [← hwe, ← hT]
        exact ⟨EnB.new wr _ f, HBL.out.1.alloc HBL.out.1.size _, HBL.out.2.alloc _⟩
      have HWE : Hid (wr.alloc (.cells #[.string f.key, .int .i64 f.st, .int .i64 f.lf, .string f.bd] 28) = we) := hwe
      obtain ⟨x0, x1, x2, x3⟩ := HE1.out.1.cells
      rw [← hwe] at x0 x1 x2 x3
      clear hwe HBL
      have c4 := implEntryOk_any we f.key f.bd f.st f.lf (by omega) (by omega)
      have hfe : (⟨f.key, f.st, f.lf, f.bd⟩ : En) = f := rfl
      rw [hfe] at c4
      cases hok : enOk f
      case false =>
        have hr : R = false := by rw [← HZ.out.1]; exact HN1.out hok
        have hz' : Z = [] := by rw [← HZ.out.2]; exact anewL_out (HN1.out hok)
        subst hr hz'
        rw [hok] at c4
        clear hok
        go_wp2_with fail
        rw [HWE.out]
        refine c4.mono ?_
        rintro e w4 ⟨rfl, hb4⟩
        have HB4 : Hid (Below wb.heap.size wb w4) := HE1.out.2.1.trans (hb4.mono HE1.out.2.1.size)
        clear c4 hb4 hc0 hc1 hc2 hc3 x0 x1 x2 x3
        go_wp2_with fail
        go_ret2
        exact ⟨.slice none 0 0, rfl, ownA_nil _ _ _, (HD.out w4 HB4.out).2.2.2.1⟩
      case true =>
        have HOK : Hid (enAllOk (M.take (k + 1)) = true) := HN2.out hok
        have hok' := hok
        rw [hok] at c4
        have HC5 : Hid (∀ wi, Below wb.heap.size wb wi → Calls Tryd.prog 29 #[.agg #[.string f.key, .int .i64 f.st, .int .i64 f.lf, .string f.bd]] wi fun e w' => e = .returned (.string (enFr f)) ∧ Below wi.heap.size wi w') := fun wi hi => entryFrame_any wi f hok' (HD.out wi hi).2.2.2.2.2.2
        clear hok hok' HN1 HN2
        generalize enFr f = fr at HC5 HN3
        go_wp2_with fail
        rw [HWE.out]
        refine c4.mono ?_
        rintro e w4 ⟨rfl, hb4⟩
        have HB4 : Hid (EnB w4 T 28 f ∧ Below wb.heap.size wb w4 ∧ OwnV w4 wb.heap.size 9 v (strs ((M.take k).map enFr))) := ⟨HE1.out.1.on hb4, HE1.out.2.1.trans (hb4.mono HE1.out.2.1.size), HE1.out.2.2.below hb4 (Nat.le_refl _)⟩
        clear c4 hb4 hc0 hc1 hc2 hc3 x0 x1 x2 x3 HE1
        obtain ⟨x0, x1, x2, x3⟩ := HB4.out.1.cells
        go_wp2_with fail
        refine (HC5.out _ HB4.out.2.1).mono ?_
        rintro e w5 ⟨rfl, hb5⟩
        have HB5 : Hid (Below wb.heap.size wb w5 ∧ OwnV w5 wb.heap.size 9 v (strs ((M.take k).map enFr))) := ⟨HB4.out.2.1.trans (hb5.mono HB4.out.2.1.size), HB4.out.2.2.below hb5 (Nat.le_refl _)⟩
        clear hb5 x0 x1 x2 x3 HB4 HC5
        generalize strs ((M.take k).map enFr) = xs at HB5 HN3 hln
        go_wp2_with (at_builtin; refine wpList_snocV rfl (.tmp 27) (.tmp 30) 65 rfl wb.heap.size 9 Tryd.underlying65 (.string ⟨#[]⟩) 16 Tryd.infoStA rfl _ xs rfl HB5.out.2 (.string fr) rfl rfl (by omega) (by omega) HB5.out.1.size ?_; intro v6 w6 ho6 hne6 hbel6 hsz6)
        go_roundw
        case rel =>
          try ((repeat apply Exists.intro); refine ⟨?_, rfl⟩)
          exact ⟨⟨k + 1, v6, by omega, by go_num, rfl, HOK, hbel6 _ HB5.out.1, by rw [HN3.out]; exact ho6⟩⟩
        case measure => simp [intOf]; omega
    · have hke : k = M.length := by omega
      have hall : enAllOk M = true := by have := HAL.out; rw [hke, List.take_length] at this; exact this
      have hB : anewB L M = true := by unfold anewB; rw [HDK.out, hall]; rfl
      have hr : R = true := by rw [← HZ.out.1]; exact hB
      subst hr
      rw [hke, List.take_length] at hown
      have hjl : (jn (M.map enFr)).length ≤ 1000000000 := by have := frs_len hall; omega
      have hz' : Z = (if (fileAt L nNew).2 = true then dropA else []) ++ layA (frsB M) := by rw [← HZ.out.2, anewL_in hB]; rfl
      obtain ⟨a6, c6, hs6, hA6⟩ := hown.strsAt
      subst hs6
      have HO6 : Hid (LAt wr a6 (M.map enFr) wr.heap.size) := hA6
      have HBR : Hid (Below wb.heap.size wb wr) := hbel
      have HJ : Hid ((jn (M.map enFr)).length ≤ 1000000000) := hjl
      have hml : (M.map enFr).length ≤ 1048576 := by rw [List.length_map]; exact hn
      have HFB : Hid (jnB (M.map enFr) = frsB M) := rfl
      have b0 := (HD.out wr hbel).1
      have c2 := implFileAt_any wr a c L nNew (HD.out wr hbel).2.1 hm
      obtain ⟨tx, htx⟩ : ∃ x, (fileAt L nNew).1 = x := ⟨_, rfl⟩
      obtain ⟨th, hth⟩ : ∃ x, (fileAt L nNew).2 = x := ⟨_, rfl⟩
      rw [htx, hth] at c2
      rw [hth] at hz'
      have HZ' : Hid (Z = (if th = true then dropA else []) ++ layA (frsB M)) := hz'
      clear htx hth hall hB hz' hown hrel hbel hA6 hjl HAL
      generalize M.map enFr = FL at HO6 HJ hml HFB ⊢
      generalize frsB M = fb at HFB HZ'
      unfold nNew at c2
      go_wp2_with fail
      refine c2.mono ?_
      rintro e w7 ⟨rfl, hb7⟩
      have HB7 : Hid (Below wb.heap.size wb w7) := HBR.out.trans (hb7.mono HBR.out.size)
      have HL7 : Hid (LAt w7 a6 FL w7.heap.size) := HO6.out.on hb7
      clear c2 hb7 b0 HBR HO6
      cases th
      case' true =>
        go_wp2_with (at_builtin; refine wpList_plusA rfl (.tmp 39) (.tmp 41) 25 rfl wb.heap.size 57 Tryd.underlying25 Tryd.infoActI (.slice none 0 0) [] rfl (ownA_nil _ _ _) dropA _ rfl rfl (by simp [dropA]) HB7.out.size ?_; intro v8 w8 ho8 hg8)
        have hb8 : Below w7.heap.size w7 w8 := ⟨hg8.os, hg8.tape, hg8.output, hg8.size, fun j hj => hg8.block j hj (by simp [Value.ownBlock])⟩
        have HB8 : Hid (Below wb.heap.size wb w8) := HB7.out.trans (hb8.mono HB7.out.size)
        have HL8 : Hid (LAt w8 a6 FL w8.heap.size) := HL7.out.on hb8
        obtain ⟨D, hD⟩ : ∃ D, dropA = D := ⟨_, rfl⟩
        have HO8 : Hid (OwnA w8 wb.heap.size 57 v8 D ∧ D.length ≤ 1) := by show OwnA _ _ _ _ _ ∧ _; rw [← hD]; exact ⟨ho8, by simp [dropA]⟩
        have HZD : Hid (Z = D ++ layA fb) := by show _ = _; rw [HZ'.out, ← hD]; rfl
        clear ho8 hg8 hb8 hD HB7 HL7 HZ'
      case' false =>
        go_wp2_with fail
        have HB8 : Hid (Below wb.heap.size wb w7) := HB7.out
        have HL8 : Hid (LAt w7 a6 FL w7.heap.size) := HL7.out
        obtain ⟨D, hD⟩ : ∃ D : List Ac, [] = D := ⟨_, rfl⟩
        have HO8 : Hid (OwnA w7 wb.heap.size 57 (.slice none 0 0) D ∧ D.length ≤ 1) := by show OwnA _ _ _ _ _ ∧ _; rw [← hD]; exact ⟨ownA_nil _ _ _, by simp⟩
        have HZD : Hid (Z = D ++ layA fb) := by show _ = _; rw [HZ'.out, ← hD]; rfl
        clear hD HB7 HL7 HZ'
        obtain ⟨v8, hv8⟩ : ∃ v8, Value.slice none 0 0 = v8 := ⟨_, rfl⟩
        rw [hv8] at HO8
        obtain ⟨w8, hw8⟩ : ∃ w8, w8 = w7 := ⟨_, rfl⟩
        subst hw8
      all_goals
        refine (joined_any w8 a6 c6 FL HL8.out hml HJ.out).mono ?_
        rintro e w9 ⟨rfl, hb9⟩
        rw [HFB.out]
        have HB9 : Hid (Below wb.heap.size wb w9) := HB8.out.trans (hb9.mono HB8.out.size)
        have HO9 : Hid (OwnA w9 A 57 v8 D) := (HO8.out.1.below hb9 (Nat.le_refl _)).mono HAW.out
        have HL9 : Hid (Below A w w9 ∧ A ≤ w9.heap.size) := ⟨(HD.out w9 HB9.out).2.2.2.1, (HD.out w9 HB9.out).2.2.2.2.1⟩
        clear hb9 HB8 HL8
        go_wp2_with (at_builtin; refine wpList_plusA rfl (.tmp 43) (.tmp 49) 25 rfl A 57 Tryd.underlying25 Tryd.infoActI v8 D rfl HO9.out (layA fb) _ rfl rfl (by have := HO8.out.2; simp [layA]; omega) HL9.out.2 ?_; intro v10 w10 ho10 hg10)
        go_ret2
        exact ⟨v10, rfl, by rw [HZD.out]; exact ho10, Below.grown HL9.out.1 hg10 HL9.out.2 (fun k hk => (HO9.out.lt k hk).1)⟩
end Go.Proofs.YtepfblabdibggabDoor
