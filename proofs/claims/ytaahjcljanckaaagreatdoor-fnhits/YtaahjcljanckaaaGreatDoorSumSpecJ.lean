/- Texts that stand in one: SumSpec, SkPlace, SkArr2, SkArr3. -/
import Derived.Test.YtaahjcljanckaaaGreatDoorRowStepJ
import Derived.Test.YtaahjcljanckaaaGreatDoorSkBaseJ
namespace Go.Proofs.YtaahjcljanckaaaGreatDoor
open Go.RowKit
end Go.Proofs.YtaahjcljanckaaaGreatDoor
namespace Go.Proofs.YtaahjcljanckaaaGreatDoor
open Go.RowKit Go.Sort
theorem rowByte_val (row : Int) : row % 256 = ((rowByte row).toNat : Int) := by
 unfold rowByte
 rw [UInt8.toNat_ofNat']
 omega
theorem byte_text {P : Program} (w : World) (src dst e : TypeId) (row : Int) (hs : P.underlying src = some (.slice e)) (he : P.underlying e = some (.int .u8)) (hd : P.underlying dst = some .string) :
  (convert src dst (.slice (some ⟨w.heap.size, 0,none⟩) 1 1)).run P (w.alloc (.cells #[.int .u8 (row % 256)] e)) = .ok (.string ⟨#[rowByte row]⟩) (w.alloc (.cells #[.int .u8 (row % 256)] e)) := by
 refine run_convert_bytes_back _ src dst e ⟨w.heap.size, 0,none⟩ 1 [rowByte row] hs he hd fun j hj => ?_
 match j,hj with
 | 0,_ => simpa [Addr.add] using rowByte_val row
theorem placeS_of (row : Int) (key : ByteArray) (b : UInt8) (hb : rowByte row = b) : sumAll 4294967295 (key ++ ⟨#[b]⟩).data.toList % 16 = placeS row key := by
 subst hb
 unfold placeS
 simp
set_option maxRecDepth 100000 in
set_option maxHeartbeats 2000000 in
theorem implSketchPlace_any (row : Int) (key : ByteArray) (w : World) (hk : key.size ≤ 1048576) (ht : Tab w) :
  Calls Tryz.prog 96 #[.int .i64 row,.string key] w fun e w' => e = .returned (.int .i64 (placeS row key : Nat)) ∧ Below w.heap.size w w' := by
 have hcv := byte_text (P := Tryz.prog) w 22 9 5 row Tryz.underlying22 Tryz.underlying5 Tryz.underlying9
 have hb1 : Below w.heap.size w (w.alloc (.cells #[.int .u8 (row % 256)] 5)) := (Below.refl _ _).alloc (Nat.le_refl _) _
 have ht1 := ht.below hb1 (Nat.le_refl _)
 have HP := placeS_of row key (rowByte row) rfl
 generalize rowByte row = b at hcv HP
 have hz : (⟨#[b]⟩ : ByteArray).size = 1 := rfl
 have c := implSumOf_any (key ++ ⟨#[b]⟩) (w.alloc (.cells #[.int .u8 (row % 256)] 5)) (by rw [ByteArray.size_append,hz]; omega) ht1
 have hsl := sumAll_lt (s := 4294967295) (l := (key ++ (⟨#[b]⟩ : ByteArray)).data.toList) (by omega)
 generalize sumAll 4294967295 (key ++ (⟨#[b]⟩ : ByteArray)).data.toList = q at c HP hsl
 have HP' : Hid (q % 16 = placeS row key) := HP
 have hzz : (⟨#[b]⟩ : ByteArray).size ≤ 1 := by omega
 clear HP ht ht1 hz
 go_enter Tryz.func96,Tryz.ntmps96
 go_wp2_with (go_at_call 101; refine c.mono ?_; rintro e w' ⟨rfl,rfl⟩)
 go_ret
 exact ⟨by rw [← HP'.out]; rfl,hb1⟩
def AllOk (rows : List (List Int)) : Prop := ∀ r ∈ rows,rowOk r = true
theorem AllOk.all16 {rows : List (List Int)} (h : AllOk rows) : All16 rows := fun r hr => rowOk_len (h r hr)
theorem bumpTo_ok {key : ByteArray} {rows : List (List Int)} (h : AllOk rows) (k : Nat) : AllOk (bumpTo key rows k) := by
 intro r hr
 unfold bumpTo at hr
 rw [List.mem_mapIdx] at hr
 obtain ⟨i,hi,rfl⟩ := hr
 have := h rows[i] (List.getElem_mem hi)
 split
 ·exact bumpR_ok this
 ·exact this
theorem halfTo_ok {rows : List (List Int)} (h : AllOk rows) (k : Nat) : AllOk (halfTo rows k) := by
 intro r hr
 unfold halfTo at hr
 rw [List.mem_mapIdx] at hr
 obtain ⟨i,hi,rfl⟩ := hr
 have := h rows[i] (List.getElem_mem hi)
 split
 ·exact (halfR_ok this).1
 ·exact this
def halfP (r : List Int) (q : Nat) : List Int := (r.take q).map (fun z => z / 2) ++ r.drop q
theorem halfP_zero (r : List Int) : halfP r 0 = r := by simp [halfP]
theorem halfP_all (r : List Int) (q : Nat) (h : r.length ≤ q) : halfP r q = halfR r := by simp [halfP,halfR,List.take_of_length_le h,List.drop_eq_nil_of_le h]
theorem halfP_len (r : List Int) (q : Nat) : (halfP r q).length = r.length := by simp [halfP]; omega
theorem halfP_at (r : List Int) (q : Nat) : (halfP r q).getD q 0 = r.getD q 0 := by
 unfold halfP
 by_cases hq : q < r.length
 ·rw [List.getD_eq_getElem?_getD,List.getElem?_append_right (by simp; omega)]
  simp [List.getD_eq_getElem?_getD]
  rw [show q + (q - min q r.length) = q by omega]
 ·rw [List.getD_eq_getElem?_getD,List.getD_eq_getElem?_getD,List.getElem?_eq_none (by simp; omega),List.getElem?_eq_none (by omega)]
theorem halfP_succ (r : List Int) (q : Nat) (hq : q < r.length) : (halfP r q).set q (r.getD q 0 / 2) = halfP r (q + 1) := by
 unfold halfP
 rw [List.set_append_right _ _ (by simp; omega),List.take_succ_eq_append_getElem hq,List.drop_eq_getElem_cons hq]
 have e : q - (List.map (fun z => z / 2) (List.take q r)).length = 0 := by simp; omega
 rw [e,List.set_cons_zero,List.getD_eq_getElem?_getD,List.getElem?_eq_getElem hq,List.map_append,List.append_assoc]
 rfl
set_option maxRecDepth 100000 in
set_option maxHeartbeats 4000000 in
theorem with_any (w : World) (rows : List (List Int)) (key : ByteArray) (h3 : rows.length = 3) (hok : AllOk rows) (hk : key.size ≤ 1048576) (ht : Tab w) :
  Calls Tryz.prog 75 #[.agg (ints rows.flatten).toArray,.string key] w fun e w' => e = .returned (.agg (ints (bumpTo key rows 3).flatten).toArray) ∧ Below w.heap.size w w' := by
 obtain ⟨w0,hw0⟩ : ∃ x,w.alloc (.cells (ints rows.flatten).toArray 119) = x := ⟨_,rfl⟩
 obtain ⟨w1,hw1⟩ : ∃ x,w0.alloc (.cells (ints zrows.flatten).toArray 119) = x := ⟨_,rfl⟩
 have hb0 : Below w.heap.size w w0 := by rw [← hw0]; exact (Below.refl _ _).alloc (Nat.le_refl _) _
 have hb1 : Below w0.heap.size w0 w1 := by rw [← hw1]; exact (Below.refl _ _).alloc (Nat.le_refl _) _
 have s0 : w0.heap.size = w.heap.size + 1 := by rw [← hw0]; simp
 have hbw : Below w.heap.size w w1 := hb0.trans (hb1.mono hb0.size)
 have hT : RBox w1 w.heap.size rows := by
  have h : RBox w0 w.heap.size rows := by rw [← hw0]; exact RBox.new _ _
  exact h.on hb1
 have hR : RBox w1 (w.heap.size + 1) zrows := by rw [← hw1, ← s0]; exact RBox.new _ _
 have HW : Hid ((w.alloc (.cells (ints rows.flatten).toArray 119)).alloc (.cells (ints zrows.flatten).toArray 119) = w1) := by rw [hw0]; exact hw1
 have H3 : Hid (rows.length = 3) := h3
 clear hw0 hw1 s0 hb0 hb1 h3
 go_enter Tryz.func75,Tryz.ntmps75
 go_wp2
 rw [zlit,HW.out]
 go_loopw [5, 6, 7] (fun _ _ i wr => Box (∃ (k : Nat),k ≤ 3 ∧ i = .int .i64 k ∧ RBox wr w.heap.size (bumpTo key rows k) ∧ RBox wr (w.heap.size + 1) zrows ∧ Below w.heap.size w wr))
  (fun _ _ i _ => 3 - (intOf i).toNat)
 case atStart => exact ⟨⟨0,by omega,rfl,by rw [bumpTo_zero]; exact hT,hR,hbw⟩⟩
 case round =>
  obtain ⟨k,hk3,rfl,hT1,hR1,hbel⟩ := hrel.out
  by_cases hlt : k < 3
  ·have h3 := H3.out
   have hkr : k < rows.length := by omega
   have hok1 := bumpTo_ok (key := key) hok k
   obtain ⟨hbk,hbs⟩ := bumpTo_succ key rows k rows[k] (List.getElem?_eq_getElem hkr)
   have hkb : k < (bumpTo key rows k).length := by rw [bumpTo_length]; exact hkr
   have hgd : (bumpTo key rows k).getD k [] = rows[k] := by rw [List.getD_eq_getElem?_getD,hbk]; rfl
   have hp := placeS_lt (k : Int) key
   have hz := rowOk_at (hok rows[k] (List.getElem_mem hkr)) (placeS (k : Int) key) hp
   have c := implSketchPlace_any (k : Int) key wr hk (ht.below hbel (Nat.le_refl _))
   have HN : Hid (∀ w2,Below wr.heap.size wr w2 → w2.cell? ⟨w.heap.size,k * 16 + placeS (k : Int) key,none⟩ = some (.int .i64 (rows[k].getD (placeS (k : Int) key) 0)) ∧ w2.frozen? ⟨w.heap.size,k * 16 + placeS (k : Int) key,none⟩ = false ∧ Hid (RBox (w2.setCell ⟨w.heap.size,k * 16 + placeS (k : Int) key,none⟩ (.int .i64 (min (rows[k].getD (placeS (k : Int) key) 0 + 1) 15))) w.heap.size (bumpTo key rows (k + 1)) ∧ RBox (w2.setCell ⟨w.heap.size,k * 16 + placeS (k : Int) key,none⟩ (.int .i64 (min (rows[k].getD (placeS (k : Int) key) 0 + 1) 15))) (w.heap.size + 1) zrows ∧ Below w.heap.size w (w2.setCell ⟨w.heap.size,k * 16 + placeS (k : Int) key,none⟩ (.int .i64 (min (rows[k].getD (placeS (k : Int) key) 0 + 1) 15))))) := by
    intro w2 hb2
    have hT2 := hT1.on hb2
    have hc := hT2.cell hok1.all16 hkb hp
    rw [hgd] at hc
    have hs := hT2.set hok1.all16 hkb hp (min (rows[k].getD (placeS (k : Int) key) 0 + 1) 15)
    rw [hgd,show rows[k].set (placeS (k : Int) key) (min (rows[k].getD (placeS (k : Int) key) 0 + 1) 15) = bumpR key k rows[k] from rfl, ← hbs] at hs
    exact ⟨hc,hT2.thaw _,hs,(hR1.on hb2).kept (Below.heap_setCell _ _ _ _ (show w.heap.size + 1 ≠ w.heap.size by omega)),(hbel.trans (hb2.mono hbel.size)).setCell (Nat.le_refl _) _⟩
   generalize rows[k].getD (placeS (k : Int) key) 0 = z at hz HN
   generalize placeS (k : Int) key = p at c hp HN
   clear hrel hT hR hbw hT1 hR1 hbel hok1 hbk hbs hkb hgd h3 hkr ht
   have hi1 : (0 : Int) ≤ (k : Int) := by omega
   have hi2 : (k : Int) < 3 := by omega
   have hp1 : (0 : Int) ≤ (p : Int) := by omega
   have hp2 : (p : Int) < 16 := by omega
   go_wp2_with fail
   refine c.mono ?_
   rintro e w2 ⟨rfl,hb2⟩
   obtain ⟨xc,xf,HX⟩ := HN.out w2 hb2
   rw [show min (z + 1) 15 = if 15 < z + 1 then 15 else z + 1 by split <;> omega] at HX
   clear c hb2 HN
   go_wp2
   go_still_tail 11,(by kernel_rfl)
   go_wp2
   refine ⟨?_, ?_⟩
   ·exact ⟨⟨k + 1,by omega,by go_num,HX.out.1,HX.out.2.1,HX.out.2.2.trans ⟨rfl,rfl,rfl,Nat.le_refl _,fun _ _ => rfl⟩⟩⟩
   ·simp [intOf]; omega
  ·have h3 := H3.out
   have hke : k = 3 := by omega
   subst hke
   have hok3 := bumpTo_ok (key := key) hok 3
   have hfl : (bumpTo key rows 3).flatten.length = 48 := by rw [flat_len _ hok3.all16,bumpTo_length,h3]
   have hsz : (Tryz.prog.info? 119).map (·.size) = some (ints (bumpTo key rows 3).flatten).toArray.size := by rw [List.size_toArray,ints_length,hfl]; kernel_rfl
   have hol : (ints zrows.flatten).toArray.size = (ints (bumpTo key rows 3).flatten).toArray.size := by rw [List.size_toArray,List.size_toArray,ints_length,ints_length,hfl,zrows_len]
   have hbf := below_setRow hbel (show w.heap.size ≤ w.heap.size + 1 by omega) (ints (bumpTo key rows 3).flatten).toArray
   have hR5 := hR1.stored (bumpTo key rows 3)
   clear hrel hT hR hbw hbel hfl h3 ht hok3
   go_wp2_with (first | (refine wpList_loadR rfl (.tmp 2) 119 rfl w.heap.size rfl 3 117 Tryz.underlying119 _ _ hT1 hsz ?_) | (refine wpList_storeR rfl (.tmp 4) (.tmp 25) 119 rfl (w.heap.size + 1) rfl _ rfl _ _ hR1 hsz hol (ints_all _) ?_))
   refine bodyPost_ret (v := .agg (ints (bumpTo key rows 3).flatten).toArray) (results_cell_row Tryz.results75 _ _ (w.heap.size + 1) 119 _ (0, 0) _ rfl hR5 Tryz.underlying119 rfl hsz) rfl ⟨rfl,hbf⟩
set_option maxRecDepth 100000 in
set_option maxHeartbeats 4000000 in
theorem halved_any (w : World) (rows : List (List Int)) (h3 : rows.length = 3) (hok : AllOk rows) :
  Calls Tryz.prog 76 #[.agg (ints rows.flatten).toArray] w fun e w' => e = .returned (.agg (ints (halfTo rows 3).flatten).toArray) ∧ Below w.heap.size w w' := by
 obtain ⟨w0,hw0⟩ : ∃ x,w.alloc (.cells (ints rows.flatten).toArray 119) = x := ⟨_,rfl⟩
 obtain ⟨w1,hw1⟩ : ∃ x,w0.alloc (.cells (ints zrows.flatten).toArray 119) = x := ⟨_,rfl⟩
 have hb0 : Below w.heap.size w w0 := by rw [← hw0]; exact (Below.refl _ _).alloc (Nat.le_refl _) _
 have hb1 : Below w0.heap.size w0 w1 := by rw [← hw1]; exact (Below.refl _ _).alloc (Nat.le_refl _) _
 have s0 : w0.heap.size = w.heap.size + 1 := by rw [← hw0]; simp
 have hbw : Below w.heap.size w w1 := hb0.trans (hb1.mono hb0.size)
 have hT : RBox w1 w.heap.size rows := by
  have h : RBox w0 w.heap.size rows := by rw [← hw0]; exact RBox.new _ _
  exact h.on hb1
 have hR : RBox w1 (w.heap.size + 1) zrows := by rw [← hw1, ← s0]; exact RBox.new _ _
 have HW : Hid ((w.alloc (.cells (ints rows.flatten).toArray 119)).alloc (.cells (ints zrows.flatten).toArray 119) = w1) := by rw [hw0]; exact hw1
 have H3 : Hid (rows.length = 3) := h3
 clear hw0 hw1 s0 hb0 hb1 h3
 go_enter Tryz.func76,Tryz.ntmps76
 go_wp2
 rw [zlit,HW.out]
 go_loopw [3, 4, 5, 8] (fun _ _ i _ wr => Box (∃ (k : Nat),k ≤ 3 ∧ i = .int .i64 k ∧ RBox wr w.heap.size (halfTo rows k) ∧ RBox wr (w.heap.size + 1) zrows ∧ Below w.heap.size w wr))
  (fun _ _ i _ _ => 3 - (intOf i).toNat)
 case atStart => exact ⟨⟨0,by omega,rfl,by rw [halfTo_zero]; exact hT,hR,hbw⟩⟩
 case round =>
  obtain ⟨k,hk3,rfl,hT1,hR1,hbel⟩ := hrel.out
  by_cases hlt : k < 3
  ·have h3 := H3.out
   have hkr : k < rows.length := by omega
   have hok1 := halfTo_ok hok k
   obtain ⟨hbk,hbs⟩ := halfTo_succ rows k rows[k] (List.getElem?_eq_getElem hkr)
   have hkb : k < (halfTo rows k).length := by rw [halfTo_length]; exact hkr
   have hokr := hok rows[k] (List.getElem_mem hkr)
   obtain ⟨r,hr⟩ : ∃ r,rows[k] = r := ⟨_,rfl⟩
   rw [hr] at hbk hbs hokr
   have hl16 := rowOk_len hokr
   have hset0 : (halfTo rows k).set k (halfP r 0) = halfTo rows k := by
    rw [halfP_zero]
    apply List.ext_getElem?
    intro i
    by_cases hi : k = i
    ·subst hi; rw [List.getElem?_set_self hkb,hbk]
    ·rw [List.getElem?_set_ne hi]
   obtain ⟨hs,hhs⟩ : ∃ hs,halfTo rows k = hs := ⟨_,rfl⟩
   rw [hhs] at hT1 hok1 hbs hkb hset0
   have HN : Hid (∀ (wq : World) (q : Nat),q < 16 → RBox wq w.heap.size (hs.set k (halfP r q)) → wq.cell? ⟨w.heap.size,k * 16 + q,none⟩ = some (.int .i64 (r.getD q 0)) ∧ wq.frozen? ⟨w.heap.size,k * 16 + q,none⟩ = false ∧ RBox (wq.setCell ⟨w.heap.size,k * 16 + q,none⟩ (.int .i64 (r.getD q 0 / 2))) w.heap.size (hs.set k (halfP r (q + 1)))) := by
    intro wq q hq hB
    have h16 : All16 (hs.set k (halfP r q)) := all16_set hok1.all16 k (by rw [halfP_len]; exact hl16)
    have hkl : k < (hs.set k (halfP r q)).length := by rw [List.length_set]; exact hkb
    have hgd : (hs.set k (halfP r q)).getD k [] = halfP r q := by rw [List.getD_eq_getElem?_getD,List.getElem?_set_self hkb]; rfl
    have hc := hB.cell h16 hkl hq
    rw [hgd,halfP_at] at hc
    have hst := hB.set h16 hkl hq (r.getD q 0 / 2)
    rw [hgd,halfP_succ r q (by omega),List.set_set] at hst
    exact ⟨hc,hB.thaw _,hst⟩
   have HZ : Hid (∀ q,q < 16 → 0 ≤ r.getD q 0 ∧ r.getD q 0 ≤ 15) := fun q hq => rowOk_at hokr q hq
   have HE : Hid (∀ wq,RBox wq w.heap.size (hs.set k (halfP r 16)) → RBox wq w.heap.size (halfTo rows (k + 1))) := by
    intro wq h
    rw [halfP_all r 16 (by omega), ← hbs] at h
    exact h
   have HST : Hid (RBox wr w.heap.size (hs.set k (halfP r 0)) ∧ RBox wr (w.heap.size + 1) zrows ∧ Below w.heap.size w wr) := ⟨by rw [hset0]; exact hT1,hR1,hbel⟩
   clear hrel hT hR hbw hT1 hR1 hbel hok1 hbk hbs hkb h3 hkr hset0 hl16 hokr hr hhs
   have hi1 : (0 : Int) ≤ (k : Int) := by omega
   have hi2 : (k : Int) < 3 := by omega
   go_wp2
   go_loopw [4, 8] (fun _ j wq => Box (∃ (q : Nat),q ≤ 16 ∧ j = .int .i64 q ∧ RBox wq w.heap.size (hs.set k (halfP r q)) ∧ RBox wq (w.heap.size + 1) zrows ∧ Below w.heap.size w wq))
    (fun _ j _ => 16 - (intOf j).toNat)
   case atStart => exact ⟨⟨0,by omega,rfl,HST.out.1,HST.out.2.1,HST.out.2.2⟩⟩
   case round =>
    obtain ⟨q,hq16,rfl,hT1,hR1,hbel⟩ := hrel.out
    by_cases hlq : q < 16
    ·obtain ⟨xc,xf,xs⟩ := HN.out _ q hlq hT1
     have hz := HZ.out q hlq
     generalize r.getD q 0 = z at xc xs hz
     have HX : Hid (RBox (wr.setCell ⟨w.heap.size,k * 16 + q,none⟩ (.int .i64 (z / 2))) w.heap.size (hs.set k (halfP r (q + 1))) ∧ RBox (wr.setCell ⟨w.heap.size,k * 16 + q,none⟩ (.int .i64 (z / 2))) (w.heap.size + 1) zrows ∧ Below w.heap.size w (wr.setCell ⟨w.heap.size,k * 16 + q,none⟩ (.int .i64 (z / 2)))) := ⟨xs,hR1.kept (Below.heap_setCell _ _ _ _ (show w.heap.size + 1 ≠ w.heap.size by omega)),hbel.setCell (Nat.le_refl _) _⟩
     have hdv : z.tdiv 2 = z / 2 := Int.tdiv_eq_ediv_of_nonneg hz.1
     have hj1 : (0 : Int) ≤ (q : Int) := by omega
     have hj2 : (q : Int) < 16 := by omega
     clear hrel hT1 hR1 hbel xs HN HZ HE HST
     go_wp2
     go_still_tail 8,(by kernel_rfl)
     go_wp2
     refine ⟨?_, ?_⟩
     ·exact ⟨⟨q + 1,by omega,by go_num,HX.out.1,HX.out.2.1,HX.out.2.2.trans ⟨rfl,rfl,rfl,Nat.le_refl _,fun _ _ => rfl⟩⟩⟩
     ·simp [intOf]; omega
    ·obtain rfl : q = 16 := by omega
     have HF := HE.out _ hT1
     clear hrel hT1 HN HZ HE HST
     go_wp2
     refine ⟨⟨⟨k + 1,by omega,by go_num,HF,hR1,hbel⟩⟩, ?_⟩
     simp [intOf]
     omega
  ·have h3 := H3.out
   have hke : k = 3 := by omega
   subst hke
   have hok3 := halfTo_ok hok 3
   have hfl : (halfTo rows 3).flatten.length = 48 := by rw [flat_len _ hok3.all16,halfTo_length,h3]
   have hsz : (Tryz.prog.info? 119).map (·.size) = some (ints (halfTo rows 3).flatten).toArray.size := by rw [List.size_toArray,ints_length,hfl]; kernel_rfl
   have hol : (ints zrows.flatten).toArray.size = (ints (halfTo rows 3).flatten).toArray.size := by rw [List.size_toArray,List.size_toArray,ints_length,ints_length,hfl,zrows_len]
   have hbf := below_setRow hbel (show w.heap.size ≤ w.heap.size + 1 by omega) (ints (halfTo rows 3).flatten).toArray
   have hR5 := hR1.stored (halfTo rows 3)
   clear hrel hT hR hbw hbel hfl h3 hok3
   go_wp2_with (first | (refine wpList_loadR rfl (.tmp 1) 119 rfl w.heap.size rfl 3 117 Tryz.underlying119 _ _ hT1 hsz ?_) | (refine wpList_storeR rfl (.tmp 2) (.tmp 21) 119 rfl (w.heap.size + 1) rfl _ rfl _ _ hR1 hsz hol (ints_all _) ?_))
   refine bodyPost_ret (v := .agg (ints (halfTo rows 3).flatten).toArray) (results_cell_row Tryz.results76 _ _ (w.heap.size + 1) 119 _ (0, 0) _ rfl hR5 Tryz.underlying119 rfl hsz) rfl ⟨rfl,hbf⟩
end Go.Proofs.YtaahjcljanckaaaGreatDoor
