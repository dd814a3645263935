/- Texts that stand in one: RowStep, SkArr, SumPlain, SkPlain, SumImpl. -/
import Derived.Laws.Rows
import Derived.Laws.Tables
import Derived.Deep.WholeRow
import Derived.WalkKit
import Derived.Deep.RegionLaw
import Derived.Test.YtaahjcljanckaaaGreatDoorSkFlatJ
import Derived.Test.YtaahjcljanckaaaGreatDoorCellPlainJ
import Derived.StillTailTactics
import Derived.Laws.CopyOwn
import Derived.Laws.BitsAllLaws
import Derived.Test.YtaahjcljanckaaaGreatDoorSkBaseJ
import Derived.Lib.LaidTab
import Derived.WalkSmall
import Derived.OpenShut
namespace Go.Proofs.YtaahjcljanckaaaGreatDoor
open Go.RowKit
theorem run_loadR {P : Program} {w : World} {T n : Nat} {t e tt : TypeId} {cs : Array Value} (hT : w.heap[T]? = some (.cells cs tt (0, 0))) (hu : P.underlying t = some (.array n e)) (hi : (P.info? t).map (·.size) = some cs.size) :
  (Instr.loadAt t (.pointer (some ⟨T, 0,none⟩))).run P w = .ok (.agg cs) w := by
 simp only [Instr.loadAt,Instr.sureAddr,Sem.run_bind,Sem.run_pure,Result.andThen]
 exact run_loadVar_row w T tt t cs (0, 0) _ hT hu rfl hi
theorem run_storeR {P : Program} {w : World} {T : Nat} {t tt : TypeId} {old cs : Array Value} (hT : w.heap[T]? = some (.cells old tt (0, 0))) (hi : (P.info? t).map (·.size) = some cs.size) (ho : old.size = cs.size) (h1 : cs.all (·.oneCell') = true) :
  (Instr.storeAt t (.pointer (some ⟨T, 0,none⟩)) (.agg cs)).run P w = .ok () (w.setRow T cs) := by
 simp only [Instr.storeAt,Instr.sureAddr,Sem.run_bind,Sem.run_pure,Result.andThen]
 exact run_storeVar_row w T tt t old cs hT hi ho h1
theorem wpList_loadR {P : Program} {ops : Array Oper} {rest : List Oper} {o : Oper} {a : Act} {w : World} {Q : Exit → Act → World → Prop} (hgd : o.guard = none) (p : Operand) (t : TypeId) (ho : o.op = .load t p) (T : Nat) (hp : a.eval p = .pointer (some ⟨T, 0,none⟩))
  (n : Nat) (e : TypeId) (hu : P.underlying t = some (.array n e)) (cs : Array Value) (tt : TypeId) (hT : w.heap[T]? = some (.cells cs tt (0, 0))) (hi : (P.info? t).map (·.size) = some cs.size) (h : wpList P ops Q rest (a.put o.dst (.agg cs)) w) : wpList P ops Q (o :: rest) a w := by
 refine wpList_plain hgd fun K hK => ?_
 have hrun := run_loadR (P := P) hT hu hi
 unfold Oper.wp
 simp only [execOp,ho,hp,Sem.run_bind,hrun,Result.andThen,Sem.run_pure]
 exact hK _ _ h
theorem wpList_storeR {P : Program} {ops : Array Oper} {rest : List Oper} {o : Oper} {a : Act} {w : World} {Q : Exit → Act → World → Prop} (hgd : o.guard = none) (p x : Operand) (t : TypeId) (ho : o.op = .store t p x) (T : Nat) (hp : a.eval p = .pointer (some ⟨T, 0,none⟩))
  (cs : Array Value) (hx : a.eval x = .agg cs) (old : Array Value) (tt : TypeId) (hT : w.heap[T]? = some (.cells old tt (0, 0))) (hi : (P.info? t).map (·.size) = some cs.size) (hol : old.size = cs.size) (h1 : cs.all (·.oneCell') = true) (h : wpList P ops Q rest (a.put o.dst undef) (w.setRow T cs)) : wpList P ops Q (o :: rest) a w := by
 refine wpList_plain hgd fun K hK => ?_
 have hrun := run_storeR (P := P) hT hi hol h1
 unfold Oper.wp
 simp only [execOp,ho,hp,hx,Sem.run_bind,hrun,Result.andThen,Sem.run_pure]
 exact hK _ _ h
end Go.Proofs.YtaahjcljanckaaaGreatDoor
namespace Go.Proofs.YtaahjcljanckaaaGreatDoor
open Go.RowKit Go.Sort
def zrows : List (List Int) := List.replicate 3 (List.replicate 16 0)
theorem zlit : (#[.int .i64 0,.int .i64 0,.int .i64 0,.int .i64 0,.int .i64 0,.int .i64 0,.int .i64 0,.int .i64 0,.int .i64 0,.int .i64 0,.int .i64 0,.int .i64 0,.int .i64 0,.int .i64 0,.int .i64 0,.int .i64 0,.int .i64 0,.int .i64 0,.int .i64 0,.int .i64 0,.int .i64 0,.int .i64 0,.int .i64 0,.int .i64 0,.int .i64 0,.int .i64 0,.int .i64 0,.int .i64 0,.int .i64 0,.int .i64 0,.int .i64 0,.int .i64 0,.int .i64 0,.int .i64 0,.int .i64 0,.int .i64 0,.int .i64 0,.int .i64 0,.int .i64 0,.int .i64 0,.int .i64 0,.int .i64 0,.int .i64 0,.int .i64 0,.int .i64 0,.int .i64 0,.int .i64 0,.int .i64 0] : Array Value) = (ints zrows.flatten).toArray := by rfl
theorem zrows_len : zrows.flatten.length = 48 := by rfl
theorem fill16 {rows : List (List Int)} (h16 : All16 rows) (k : Nat) : All16 (rows.take k ++ List.replicate (rows.length - k) (List.replicate 16 0)) := by
 intro r hr
 rcases List.mem_append.1 hr with hr | hr
 ·exact h16 r (List.mem_of_mem_take hr)
 ·obtain ⟨_,rfl⟩ := List.mem_replicate.1 hr
  simp
theorem RBox.setRow {w : World} {T : Nat} {rows : List (List Int)} (h : RBox w T rows) (h16 : All16 rows) {k : Nat} {q : List Int} (hk : k < rows.length) (hq : q.length = 16) :
  RBox (w.setRow T (((ints rows.flatten).take (k * 16) ++ ints q ++ (ints rows.flatten).drop (k * 16 + (ints q).length)).toArray)) T (rows.set k q) := by
 have e : (ints rows.flatten).take (k * 16) ++ ints q ++ (ints rows.flatten).drop (k * 16 + (ints q).length) = ints (rows.set k q).flatten := by
  rw [← flat_splice rows h16 k q hq hk,ints_length]
  simp [splice,ints]
 rw [e]
 exact setRow_heap w T _ _ _ _ h
theorem IAt.src16 {w : World} {g off B : Nat} {l : List Int} (h : IAt w (some ⟨g,off,none⟩) l B) : ∀ j u,(ints l)[j]? = some u → w.cell? ((⟨g,off,none⟩ : Addr).add j) = some u := by
 intro j u hu
 have hj := (List.getElem?_eq_some_iff.1 hu).1
 rw [ints_length] at hj
 obtain ⟨g1,off1,ha,_,hc⟩ := h j hj
 simp only [Option.some.injEq,Addr.mk.injEq,and_true] at ha
 obtain ⟨rfl,rfl⟩ := ha
 rw [Addr.add_mid,hc]
 rw [List.getElem?_eq_getElem (by rw [ints_length]; exact hj),ints_at hj] at hu
 exact hu
set_option maxRecDepth 100000 in
set_option maxHeartbeats 4000000 in
theorem rowsOf_any (w : World) (a : Option Addr) (c : Nat) (rows : List (List Int)) (added : Int) (h3 : rows.length = 3) (h16 : All16 rows) (hA : SSAt w a rows w.heap.size) :
  Calls Tryz.prog 74 #[.agg #[.slice a 3 c,.int .i64 added]] w fun e w' => e = .returned (.agg (ints rows.flatten).toArray) ∧ Below w.heap.size w w' := by
 obtain ⟨w0,hw0⟩ : ∃ x,w.alloc (.cells #[.slice a 3 c,.int .i64 added] 30) = x := ⟨_,rfl⟩
 obtain ⟨w1,hw1⟩ : ∃ x,w0.alloc (.cells (ints zrows.flatten).toArray 119) = x := ⟨_,rfl⟩
 obtain ⟨w2,hw2⟩ : ∃ x,w1.alloc (.cells (ints zrows.flatten).toArray 119) = x := ⟨_,rfl⟩
 have hb0 : Below w.heap.size w w0 := by rw [← hw0]; exact (Below.refl _ _).alloc (Nat.le_refl _) _
 have hb1 : Below w0.heap.size w0 w1 := by rw [← hw1]; exact (Below.refl _ _).alloc (Nat.le_refl _) _
 have hb2 : Below w1.heap.size w1 w2 := by rw [← hw2]; exact (Below.refl _ _).alloc (Nat.le_refl _) _
 have s0 : w0.heap.size = w.heap.size + 1 := by rw [← hw0]; simp
 have s1 : w1.heap.size = w.heap.size + 1 + 1 := by rw [← hw1]; simp; omega
 have hb12 : Below w0.heap.size w0 w2 := hb1.trans (hb2.mono hb1.size)
 have hbw : Below w.heap.size w w2 := hb0.trans (hb12.mono hb0.size)
 have hB : SkBox w2 w.heap.size (.slice a 3 c) (.int .i64 added) := by
  have h : SkBox w0 w.heap.size (.slice a 3 c) (.int .i64 added) := by rw [← hw0]; exact SkBox.new _ _ _
  exact h.on hb12
 have hR : RBox w2 (w.heap.size + 1) zrows := by
  have h : RBox w1 (w.heap.size + 1) zrows := by rw [← hw1, ← s0]; exact RBox.new _ _
  exact h.on hb2
 have hT : RBox w2 (w.heap.size + 1 + 1) zrows := by rw [← hw2, ← s1]; exact RBox.new _ _
 have HW : Hid (((w.alloc (.cells #[.slice a 3 c,.int .i64 added] 30)).alloc (.cells (ints zrows.flatten).toArray 119)).alloc (.cells (ints zrows.flatten).toArray 119) = w2) := by rw [hw0,hw1]; exact hw2
 have hA2 := hA.on hbw
 have H3 : Hid (rows.length = 3) := h3
 clear hw0 hw1 hw2 s0 s1 hb0 hb1 hb2 hb12 h3
 go_enter Tryz.func74,Tryz.ntmps74
 go_wp2
 rw [zlit,HW.out]
 go_loopw [4, 5] (fun _ i wr => Box (∃ (k : Nat),k ≤ 3 ∧ i = .int .i64 k ∧ SkBox wr w.heap.size (.slice a 3 c) (.int .i64 added) ∧ RBox wr (w.heap.size + 1) zrows ∧ RBox wr (w.heap.size + 1 + 1) (rows.take k ++ List.replicate (rows.length - k) (List.replicate 16 0)) ∧ Below w.heap.size w wr))
  (fun _ i _ => 3 - (intOf i).toNat)
 case atStart => exact ⟨⟨0,by omega,rfl,hB,hR,by have := H3.out; simp only [List.take_zero,List.nil_append,Nat.sub_zero,this]; exact hT,hbw⟩⟩
 case round =>
  obtain ⟨k,hk,rfl,hB1,hR1,hT1,hbel⟩ := hrel.out
  by_cases hlt : k < 3
  ·have h3 := H3.out
   have hk3 : k < rows.length := by omega
   obtain ⟨g,off,ai,ci,rfl,hg,hc,hI⟩ := (hA.below hbel (Nat.le_refl _)) k hk3
   have hl16 := all16_get h16 hk3
   have HF := fill_set rows (List.replicate 16 0) k hk3
   have hz16 := fill16 h16 k
   have hkz : k < (rows.take k ++ List.replicate (rows.length - k) (List.replicate 16 (0 : Int))).length := by simp; omega
   have hzl : (rows.take k ++ List.replicate (rows.length - k) (List.replicate 16 (0 : Int))).length = 3 := by simp; omega
   obtain ⟨r,hrr⟩ : ∃ r,rows[k] = r := ⟨_,rfl⟩
   rw [hrr] at hc hI HF hl16
   obtain ⟨zs,hzs⟩ : ∃ zs,rows.take k ++ List.replicate (rows.length - k) (List.replicate 16 (0 : Int)) = zs := ⟨_,rfl⟩
   rw [hzs] at HF hz16 hkz hT1 hzl
   obtain ⟨g2,off2,rfl,hg2,hx2⟩ := hI 0 (by omega)
   clear hx2
   rw [hl16] at hc
   have hsrc := IAt.src16 (w := wr.drew) (fun j hj => hI j hj)
   have hB1 : SkBox wr.drew _ _ _ := hB1
   have hR1 : RBox wr.drew _ _ := hR1
   have hT1 : RBox wr.drew _ _ := hT1
   have hbel : Below w.heap.size w wr.drew := hbel.trans ⟨rfl,rfl,rfl,Nat.le_refl _,fun _ _ => rfl⟩
   have hrun := run_copy_row (P := Tryz.prog) wr.drew 24 24 3 3 (w.heap.size + 1 + 1) (k * 16) 16 16 ⟨g2,off2,none⟩ 16 ci (ints zs.flatten).toArray 119 (ints r) Tryz.underlying24 (by kernel_rfl) hT1 (by rw [ints_length,hl16]; rfl) hsrc (by rw [ints_length,hl16,List.size_toArray,ints_length,flat_len zs hz16,hzl]; omega) (ints_one r)
   have HX : Hid (SkBox (wr.drew.setRow (w.heap.size + 1 + 1) (((ints zs.flatten).take (k * 16) ++ ints r ++ (ints zs.flatten).drop (k * 16 + (ints r).length)).toArray)) w.heap.size (.slice (some ⟨g,off,none⟩) 3 c) (.int .i64 added) ∧ RBox (wr.drew.setRow (w.heap.size + 1 + 1) (((ints zs.flatten).take (k * 16) ++ ints r ++ (ints zs.flatten).drop (k * 16 + (ints r).length)).toArray)) (w.heap.size + 1) zrows ∧ RBox (wr.drew.setRow (w.heap.size + 1 + 1) (((ints zs.flatten).take (k * 16) ++ ints r ++ (ints zs.flatten).drop (k * 16 + (ints r).length)).toArray)) (w.heap.size + 1 + 1) (rows.take (k + 1) ++ List.replicate (rows.length - (k + 1)) (List.replicate 16 0)) ∧ Below w.heap.size w (wr.drew.setRow (w.heap.size + 1 + 1) (((ints zs.flatten).take (k * 16) ++ ints r ++ (ints zs.flatten).drop (k * 16 + (ints r).length)).toArray))) := by
    refine ⟨hB1.kept (setRow_other _ _ _ _ (by omega)),hR1.kept (setRow_other _ _ _ _ (by omega)), ?_,below_setRow hbel (by omega) _⟩
    rw [← HF]
    exact hT1.setRow hz16 hkz hl16
   generalize wr.drew.setRow (w.heap.size + 1 + 1) (((ints zs.flatten).take (k * 16) ++ ints r ++ (ints zs.flatten).drop (k * 16 + (ints r).length)).toArray) = w4 at hrun HX
   obtain ⟨b0,b1⟩ := hB1.cells
   clear hrel hA hA2 hB hR hT hbw HF hz16 hkz hzl hrr hzs hI hB1 hR1 hT1 hbel hsrc hl16 h16 h3
   have hi1 : (0 : Int) ≤ (k : Int) := by omega
   have hi2 : (k : Int) < 3 := by omega
   go_wp2
   go_still_tail 8,(by kernel_rfl)
   go_wp2
   go_roundw
   case rel =>
    try ((repeat apply Exists.intro); refine ⟨?_,rfl⟩)
    exact ⟨⟨k + 1,by omega,by go_num,HX.out.1,HX.out.2.1,HX.out.2.2.1,HX.out.2.2.2⟩⟩
   case measure => simp [intOf]; omega
  ·have h3 := H3.out
   have hke : k = rows.length := by omega
   subst hke
   simp only [List.take_length,Nat.sub_self,List.replicate_zero,List.append_nil] at hT1
   have hfl : rows.flatten.length = 48 := by rw [flat_len rows h16,h3]
   have hsz : (Tryz.prog.info? 119).map (·.size) = some (ints rows.flatten).toArray.size := by rw [List.size_toArray,ints_length,hfl]; kernel_rfl
   have hol : (ints zrows.flatten).toArray.size = (ints rows.flatten).toArray.size := by rw [List.size_toArray,List.size_toArray,ints_length,ints_length,hfl,zrows_len]
   have hbf := below_setRow hbel (show w.heap.size ≤ w.heap.size + 1 by omega) (ints rows.flatten).toArray
   have hR5 := hR1.stored rows
   clear hrel hA hA2 hB hR hT hbw hB1 hbel hfl h3
   go_wp2_with (first | (refine wpList_loadR rfl (.tmp 3) 119 rfl (w.heap.size + 1 + 1) rfl 3 117 Tryz.underlying119 _ _ hT1 hsz ?_) | (refine wpList_storeR rfl (.tmp 2) (.tmp 18) 119 rfl (w.heap.size + 1) rfl _ rfl _ _ hR1 hsz hol (ints_all _) ?_))
   refine bodyPost_ret (v := .agg (ints rows.flatten).toArray) (results_cell_row Tryz.results74 _ _ (w.heap.size + 1) 119 _ (0, 0) _ rfl hR5 Tryz.underlying119 rfl hsz) rfl ⟨rfl,hbf⟩
end Go.Proofs.YtaahjcljanckaaaGreatDoor
namespace Go.Proofs.YtaahjcljanckaaaGreatDoor
open Go.RowKit
def sumTab : List Nat := [0, 1166650509, 2333301018, 3466261911, 3189058079, 4221339282, 889615109, 1888477064, 3558460437, 2442158232, 1594529039, 444807554, 1779230218, 797264519, 3776954128, 2761298845]
def sumLook (n : Nat) : Nat := n / 16 ^^^ sumTab.getD (n % 16) 0
def sumByte (s b : Nat) : Nat := sumLook (sumLook (s ^^^ b))
def sumAll (s : Nat) (l : List UInt8) : Nat := l.foldl (fun s b => sumByte s b.toNat) s
theorem tab_lt (k : Nat) : sumTab.getD k 0 < 4294967296 := by
 by_cases h : k < 16
 ·have : ∀ k : Fin 16,sumTab.getD k.val 0 < 4294967296 := by decide +kernel
  exact this ⟨k,h⟩
 ·rw [List.getD_eq_getElem?_getD,List.getElem?_eq_none (by simp [sumTab]; omega)]
  decide
theorem sumLook_lt {n : Nat} (h : n < 4294967296) : sumLook n < 4294967296 :=
 Nat.xor_lt_two_pow (n := 32) (by omega) (tab_lt _)
theorem xor_lt32 {a b : Nat} (ha : a < 4294967296) (hb : b < 4294967296) : a ^^^ b < 4294967296 := Nat.xor_lt_two_pow (n := 32) ha hb
theorem sumByte_lt {s b : Nat} (hs : s < 4294967296) (hb : b < 256) : sumByte s b < 4294967296 :=
 sumLook_lt (sumLook_lt (xor_lt32 hs (by omega)))
theorem sumAll_lt {s : Nat} {l : List UInt8} (hs : s < 4294967296) : sumAll s l < 4294967296 := by
 induction l generalizing s with
 | nil => exact hs
 | cons b l ih => exact ih (sumByte_lt hs b.toNat_lt)
theorem sumAll_snoc (s : Nat) (l : List UInt8) (b : UInt8) : sumAll s (l ++ [b]) = sumByte (sumAll s l) b.toNat := by simp [sumAll]
def four (n : Nat) : List UInt8 := [UInt8.ofNat (n / 16777216),UInt8.ofNat (n / 65536),UInt8.ofNat (n / 256),UInt8.ofNat n]
def rowByte (row : Int) : UInt8 := UInt8.ofNat (row % 256).toNat
def placeS (row : Int) (key : ByteArray) : Nat := sumAll 4294967295 (key.data.toList ++ [rowByte row]) % 16
def bumpR (key : ByteArray) (i : Nat) (r : List Int) : List Int := r.set (placeS i key) (min (r.getD (placeS i key) 0 + 1) 15)
def halfR (r : List Int) : List Int := r.map (fun z => z / 2)
def bumpTo (key : ByteArray) (rows : List (List Int)) (k : Nat) : List (List Int) := rows.mapIdx fun i r => if i < k then bumpR key i r else r
def halfTo (rows : List (List Int)) (k : Nat) : List (List Int) := rows.mapIdx fun i r => if i < k then halfR r else r
def bumpS (S : Sk) (key : ByteArray) : Sk := if okK S = true then (if S.added = 63 then ⟨halfTo (bumpTo key S.rows 3) 3, 0⟩ else ⟨bumpTo key S.rows 3,S.added + 1⟩) else S
def lookR (key : ByteArray) (rows : List (List Int)) (i : Nat) : Int := (rows.getD i []).getD (placeS i key) 0
def guessTo (key : ByteArray) (rows : List (List Int)) (k : Nat) : Int := (List.range k).foldl (fun n i => min (lookR key rows i) n) 15
def guessS (S : Sk) (key : ByteArray) : Int := if okK S = true then guessTo key S.rows 3 else 0
theorem placeS_lt (row : Int) (key : ByteArray) : placeS row key < 16 := Nat.mod_lt _ (by omega)
theorem bumpR_ok {key : ByteArray} {i : Nat} {r : List Int} (h : rowOk r = true) : rowOk (bumpR key i r) = true := by
 have hl := rowOk_len h
 have hat := rowOk_at h (placeS i key) (placeS_lt _ _)
 unfold rowOk at h ⊢
 unfold bumpR
 simp only [Bool.and_eq_true,decide_eq_true_eq,List.all_eq_true] at h ⊢
 refine ⟨by rw [List.length_set]; exact hl,fun z hz => ?_⟩
 rcases List.mem_or_eq_of_mem_set hz with hz | rfl
 ·exact h.2 z hz
 ·simp only [numOk,decide_eq_true_eq]; omega
theorem halfR_ok {r : List Int} (h : rowOk r = true) : rowOk (halfR r) = true ∧ ∀ p,(halfR r).getD p 0 ≤ 7 := by
 have hl := rowOk_len h
 constructor
 ·unfold rowOk at h ⊢
  unfold halfR
  simp only [Bool.and_eq_true,decide_eq_true_eq,List.all_eq_true,List.length_map] at h ⊢
  refine ⟨hl,fun z hz => ?_⟩
  obtain ⟨y,hy,rfl⟩ := List.mem_map.1 hz
  have := h.2 y hy
  simp only [numOk,decide_eq_true_eq] at this ⊢
  omega
 ·intro p
  by_cases hp : p < 16
  ·have := rowOk_at h p hp
   unfold halfR
   rw [List.getD_eq_getElem?_getD,List.getElem?_map]
   rw [List.getD_eq_getElem?_getD] at this
   rw [List.getElem?_eq_getElem (by omega)] at this ⊢
   simp at this ⊢
   omega
  ·rw [List.getD_eq_getElem?_getD,List.getElem?_eq_none (by simp [halfR]; omega)]
   simp
theorem bumpTo_three (key : ByteArray) (a b c : List Int) : bumpTo key [a,b,c] 3 = [bumpR key 0 a,bumpR key 1 b,bumpR key 2 c] := by simp [bumpTo,List.mapIdx_cons]
theorem halfTo_three (a b c : List Int) : halfTo [a,b,c] 3 = [halfR a,halfR b,halfR c] := by simp [halfTo,List.mapIdx_cons]
theorem bumpTo_zero (key : ByteArray) (rows : List (List Int)) : bumpTo key rows 0 = rows := by
 unfold bumpTo
 apply List.ext_getElem?
 intro i
 simp
theorem halfTo_zero (rows : List (List Int)) : halfTo rows 0 = rows := by
 unfold halfTo
 apply List.ext_getElem?
 intro i
 simp
theorem bumpTo_succ (key : ByteArray) (rows : List (List Int)) (k : Nat) (r : List Int) (hr : rows[k]? = some r) : (bumpTo key rows k)[k]? = some r ∧ bumpTo key rows (k + 1) = (bumpTo key rows k).set k (bumpR key k r) := by
 unfold bumpTo
 constructor
 ·simp [hr]
 ·apply List.ext_getElem?
  intro i
  by_cases hi : i = k
  ·subst hi
   obtain ⟨h1,rfl⟩ := List.getElem?_eq_some_iff.1 hr
   simp [h1]
  ·rw [List.getElem?_set_ne (fun e => hi e.symm)]
   simp only [List.getElem?_mapIdx]
   congr 1
   funext x
   by_cases h1 : i < k
   ·rw [if_pos h1,if_pos (by omega)]
   ·rw [if_neg h1,if_neg (by omega)]
theorem halfTo_succ (rows : List (List Int)) (k : Nat) (r : List Int) (hr : rows[k]? = some r) : (halfTo rows k)[k]? = some r ∧ halfTo rows (k + 1) = (halfTo rows k).set k (halfR r) := by
 unfold halfTo
 constructor
 ·simp [hr]
 ·apply List.ext_getElem?
  intro i
  by_cases hi : i = k
  ·subst hi
   obtain ⟨h1,rfl⟩ := List.getElem?_eq_some_iff.1 hr
   simp [h1]
  ·rw [List.getElem?_set_ne (fun e => hi e.symm)]
   simp only [List.getElem?_mapIdx]
   congr 1
   funext x
   by_cases h1 : i < k
   ·rw [if_pos h1,if_pos (by omega)]
   ·rw [if_neg h1,if_neg (by omega)]
theorem bumpTo_length (key : ByteArray) (rows : List (List Int)) (k : Nat) : (bumpTo key rows k).length = rows.length := by simp [bumpTo]
theorem halfTo_length (rows : List (List Int)) (k : Nat) : (halfTo rows k).length = rows.length := by simp [halfTo]
theorem bumpS_ok {S : Sk} (key : ByteArray) (h : okK S = true) : okK (bumpS S key) = true := by
 obtain ⟨a,b,c,e,ha,hb,hc,h0,h1⟩ := okK_parts h
 unfold bumpS
 rw [if_pos h,e,bumpTo_three]
 by_cases h63 : S.added = 63
 ·rw [if_pos h63,halfTo_three]
  exact okK_mk (halfR_ok (bumpR_ok ha)).1 (halfR_ok (bumpR_ok hb)).1 (halfR_ok (bumpR_ok hc)).1 (by omega) (by omega)
 ·rw [if_neg h63]
  exact okK_mk (bumpR_ok ha) (bumpR_ok hb) (bumpR_ok hc) (by omega) (by omega)
theorem gFour : Tryz.prog.globalNamed "loop.example/g00245/impl.fourSteps" = some 1 := by kernel_rfl
def Tab (w : World) : Prop := Lib.TabIs Tryz.prog w "loop.example/g00245/impl.fourSteps" .u32 (sumTab.map fun (n : Nat) => (n : Int))
theorem Tab.cell {w : World} (h : Tab w) (i : Nat) (hi : i < 16) : w.cell? ⟨1,i,none⟩ = some (.int .u32 (sumTab.getD i 0 : Nat)) := by
 have := Lib.TabIs.cell h gFour i (by simpa [sumTab] using hi)
 rw [this]
 simp [List.getD]
 cases sumTab[i]? <;> rfl
theorem Tab.lt {w : World} (h : Tab w) : 1 < w.heap.size := by
 unfold Tab Lib.TabIs World.var? at h
 simp only [gFour,Option.bind_some] at h
 cases hh : w.heap[1]? with
 | none => rw [hh] at h; cases h
 | some o => exact (Array.getElem?_eq_some_iff.1 hh).1
theorem Tab.below {w w' : World} {B : Nat} (h : Tab w) (hb : Below B w w') (hB : w.heap.size ≤ B) : Tab w' :=
 var?_below hb gFour (Nat.lt_of_lt_of_le h.lt hB) h
set_option maxHeartbeats 1000000 in
theorem withByte_any (s b : Nat) (w : World) (hs : s < 4294967296) (hb : b < 256) (ht : Tab w) :
  Calls Tryz.prog 109 #[.int .u32 (s : Int),.int .u8 (b : Int)] w fun e w' => e = .returned (.int .u32 (sumByte s b : Nat)) ∧ w = w' := by
 have hx := u32_xor_nat s b hs (by omega)
 obtain ⟨n,hn⟩ : ∃ n,s ^^^ b = n := ⟨_,rfl⟩
 have hnl : n < 4294967296 := by rw [← hn]; exact xor_lt32 hs (by omega)
 rw [hn] at hx
 have hc1 := ht.cell (n % 16) (by omega)
 have hl1 := tab_lt (n % 16)
 obtain ⟨m,hm⟩ : ∃ m,sumLook n = m := ⟨_,rfl⟩
 have hml : m < 4294967296 := by rw [← hm]; exact sumLook_lt hnl
 have hm1 : n / 16 ^^^ sumTab.getD (n % 16) 0 = m := hm
 have hc2 := ht.cell (m % 16) (by omega)
 have hl2 := tab_lt (m % 16)
 rw [show sumByte s b = m / 16 ^^^ sumTab.getD (m % 16) 0 by unfold sumByte; rw [hn,hm]; rfl]
 generalize sumTab.getD (n % 16) 0 = y1 at hc1 hl1 hm1
 generalize sumTab.getD (m % 16) 0 = y2 at hc2 hl2 ⊢
 have hx1 : bits .xor .u32 ((n : Int) / 16) (y1 : Int) = (m : Int) := by
  have := u32_xor_nat (n / 16) y1 (by omega) hl1
  rw [hm1] at this
  exact this
 obtain ⟨q,hq⟩ : ∃ q,m / 16 ^^^ y2 = q := ⟨_,rfl⟩
 have hx2 : bits .xor .u32 ((m : Int) / 16) (y2 : Int) = (q : Int) := by
  have := u32_xor_nat (m / 16) y2 (by omega) hl2
  rw [hq] at this
  exact this
 rw [hq]
 clear hm hm1 hq hn ht hl1 hl2
 go_enter Tryz.func109,Tryz.ntmps109
 go_wp2
 go_ret
 exact ⟨rfl,rfl⟩
theorem takeSnoc (s : ByteArray) (k : Nat) (hk : k < s.size) : s.data.toList.take (k + 1) = s.data.toList.take k ++ [s[k]] := by
 have h : k < s.data.toList.length := by simpa using hk
 rw [List.take_add_one,List.getElem?_eq_getElem h]
 rfl
set_option maxHeartbeats 1000000 in
theorem implSumMore_any (n : Nat) (s : ByteArray) (w : World) (hn : n < 4294967296) (hs : s.size ≤ 1048580) (ht : Tab w) :
  Calls Tryz.prog 106 #[.int .u32 (n : Int),.string s] w fun e w' => e = .returned (.int .u32 (sumAll n s.data.toList : Nat)) ∧ w = w' := by
 go_enter Tryz.func106,Tryz.ntmps106
 go_wp2
 go_loopw [5, 6, 10] (fun v _ i wr => Box (∃ (k m : Nat),k ≤ s.size ∧ i = .int .i64 k ∧ v = .int .u32 (m : Int) ∧ m < 4294967296 ∧ Hid (m = sumAll n (s.data.toList.take k)) ∧ w = wr))
  (fun _ _ i _ => s.size - (intOf i).toNat)
 case atStart => exact ⟨⟨0,n,Nat.zero_le _,rfl,rfl,hn,rfl,rfl⟩⟩
 case round =>
  obtain ⟨k,m,hk,rfl,rfl,hm,HM,rfl⟩ := hrel.out
  by_cases hlt : k < s.size
  ·obtain ⟨b,hb⟩ : ∃ b,s[k] = b := ⟨_,rfl⟩
   have HB : Hid (s[k] = b) := hb
   have hbl : b.toNat < 256 := b.toNat_lt
   have c := withByte_any m b.toNat w hm hbl ht
   have hl := sumByte_lt hm hbl
   have HS : Hid (sumByte m b.toNat = sumAll n (s.data.toList.take (k + 1))) := by
    show _ = _
    rw [takeSnoc s k hlt,HB.out,sumAll_snoc, ← HM.out]
   obtain ⟨q,hq⟩ : ∃ q,sumByte m b.toNat = q := ⟨_,rfl⟩
   rw [hq] at c hl HS
   clear hq
   go_wp2_with (go_at_call 109; refine c.mono ?_; rintro e w' ⟨rfl,rfl⟩)
   go_roundw
   case rel =>
    try ((repeat apply Exists.intro); refine ⟨?_,rfl⟩)
    exact ⟨⟨k + 1,q,by omega,by go_num,rfl,hl,HS,by first | rfl | trivial⟩⟩
   case measure => simp [intOf]; omega
  ·go_wp2
   go_ret
   exact ⟨by rw [HM.out,List.take_of_length_le (by simp; omega)]; rfl,rfl⟩
theorem implSumOf_any (s : ByteArray) (w : World) (hs : s.size ≤ 1048580) (ht : Tab w) :
  Calls Tryz.prog 101 #[.string s] w fun e w' => e = .returned (.int .u32 (sumAll 4294967295 s.data.toList : Nat)) ∧ w = w' := by
 have c := implSumMore_any 4294967295 s w (by omega) hs ht
 generalize sumAll 4294967295 s.data.toList = q at c
 go_enter Tryz.func101,Tryz.ntmps101
 go_wp2_with (go_at_call 106; refine c.mono ?_; rintro e w' ⟨rfl,rfl⟩)
 go_ret
 exact ⟨rfl,rfl⟩
end Go.Proofs.YtaahjcljanckaaaGreatDoor
