/- Texts that stand in one: PolOkSz, SumSpec, SkPlace, SkFlat, RowStep. -/
import Derived.Test.YtbcjkinalghokafDoorSkOkSpecJ
import Derived.Test.YtbcjkinalghokafDoorSkCopySpecJ
import Derived.Test.YtbcjkinalghokafDoorBaseJ
import Derived.Test.YtbcjkinalghokafDoorSkKit
import Derived.Test.YtbcjkinalghokafDoorPolSizesJ
import Derived.Laws.CopyOwn
import Derived.Laws.Rows
import Derived.Laws.Tables
import Derived.Deep.WholeRow
import Derived.WalkKit
import Derived.Deep.RegionLaw
namespace Go.Proofs.YtbcjkinalghokafDoor
open Go.RowKit Go.Sort

theorem specPolicyOk_sz (w : World) (aw am ak : Option Addr) (cw cm ck : Nat) (P : Pol) (hA : PolAt w aw am ak P w.heap.size) (hsz : PolSz P) :
    Calls Tryd.prog 18 #[.agg #[.slice aw P.win.length cw, .slice am P.main.length cm, .slice ak P.sk.rows.length ck, .int .i64 P.sk.added]] w fun e w' => e = .returned (.bool (okP P)) ∧ Below w.heap.size w w' := by
  obtain ⟨l1, l2, l3⟩ := hsz.parts
  exact specPolicyOk_any w aw am ak cw cm ck P hA l1 l2 (by unfold SkSz at l3; omega) (fun z hz => by have := hsz.texts z hz; omega)
end Go.Proofs.YtbcjkinalghokafDoor

namespace Go.Proofs.YtbcjkinalghokafDoor
open Go.RowKit

theorem sumBit_odd {m : Nat} (h : m % 2 = 1) : m / 2 ^^^ 3558460437 = sumBit m := by simp [sumBit, h]
theorem sumBit_even {m : Nat} (h : ¬ m % 2 = 1) : m / 2 = sumBit m := by simp [sumBit, h]

set_option maxHeartbeats 2000000 in
theorem specSumMore_any (n : Nat) (s : ByteArray) (w : World) (hn : n < 4294967296) (hs : s.size ≤ 1048580) :
    Calls Tryd.prog 84 #[.int .u32 (n : Int), .string s] w fun e w' => e = .returned (.int .u32 (sumAll n s.data.toList : Nat)) ∧ w = w' := by
  go_enter Tryd.func84, Tryd.ntmps84
  go_wp2
  go_loopw [0, 5, 6, 7] (fun v i _ _ wr => Box (∃ (k m : Nat), k ≤ s.size ∧ i = .int .i64 k ∧ v = .int .u32 (m : Int) ∧ m < 4294967296 ∧ Hid (m = sumAll n (s.data.toList.take k)) ∧ w = wr))
    (fun _ i _ _ _ => s.size - (intOf i).toNat)
  case atStart => exact ⟨⟨0, n, Nat.zero_le _, rfl, rfl, hn, rfl, rfl⟩⟩
  case round =>
    obtain ⟨k, m, hk, rfl, rfl, hm, HM, rfl⟩ := hrel.out
    by_cases hlt : k < s.size
    · obtain ⟨b, hb⟩ : ∃ b, s[k] = b := ⟨_, rfl⟩
      have HB : Hid (s[k] = b) := hb
      have hbl : b.toNat < 256 := b.toNat_lt
      have hx := u32_xor_nat m b.toNat hm (by omega)
      have hxl : m ^^^ b.toNat < 4294967296 := xor_lt32 hm (by omega)
      have HS : Hid (sumBits 8 (m ^^^ b.toNat) = sumAll n (s.data.toList.take (k + 1))) := by
        show _ = _
        rw [takeSnoc s k hlt, HB.out, sumAll_snoc, ← HM.out, sumBits_eight]
        rfl
      generalize m ^^^ b.toNat = q at hx hxl HS
      go_wp2
      clear hrel
      go_loopw [0, 6, 7] (fun v j _ wr => Box (∃ (i r : Nat), i ≤ 8 ∧ j = .int .i64 i ∧ v = .int .u32 (r : Int) ∧ r < 4294967296 ∧ Hid (sumBits (8 - i) r = sumBits 8 q) ∧ w = wr))
        (fun _ j _ _ => 8 - (intOf j).toNat)
      case atStart => exact ⟨⟨0, q, by omega, rfl, rfl, hxl, rfl, rfl⟩⟩
      case round =>
        obtain ⟨i, r, hi, rfl, rfl, hr, HR, rfl⟩ := hrel.out
        by_cases hlt2 : i < 8
        · have hbl2 := sumBit_lt hr
          have HR2 : Hid (sumBits (8 - (i + 1)) (sumBit r) = sumBits 8 q) := by
            show _ = _
            rw [← HR.out, show 8 - i = (8 - (i + 1)) + 1 by omega]
            rfl
          by_cases hodd : r % 2 = 1
          · have hx2 : bits .xor .u32 ((r : Int) / 2) 3558460437 = (sumBit r : Nat) := by
              have := u32_xor_nat (r / 2) 3558460437 (by omega) (by omega)
              rw [sumBit_odd hodd] at this
              exact this
            generalize sumBit r = t at hx2 hbl2 HR2
            go_wp2
            go_roundw
            case rel =>
              try ((repeat apply Exists.intro); refine ⟨?_, rfl⟩)
              exact ⟨⟨i + 1, t, by omega, by go_num, rfl, hbl2, HR2, by first | rfl | trivial⟩⟩
            case measure => simp [intOf]; omega
          · have hx2 : ((r : Int) / 2) = (sumBit r : Nat) := by
              have := sumBit_even hodd
              omega
            generalize sumBit r = t at hx2 hbl2 HR2
            go_wp2
            go_roundw
            case rel =>
              try ((repeat apply Exists.intro); refine ⟨?_, rfl⟩)
              exact ⟨⟨i + 1, t, by omega, by go_num, by go_num, hbl2, HR2, by first | rfl | trivial⟩⟩
            case measure => simp [intOf]; omega
        · have HQ : Hid (r = sumAll n (s.data.toList.take (k + 1))) := by
            have := HR.out
            rw [show 8 - i = 0 by omega] at this
            show _ = _
            rw [← HS.out, ← this]
            rfl
          go_wp2
          refine ⟨⟨⟨k + 1, r, by omega, by go_num, rfl, hr, HQ, trivial⟩⟩, ?_⟩
          simp [intOf]
          omega
    · go_wp2
      go_ret
      exact ⟨by rw [HM.out, List.take_of_length_le (by simp; omega)]; rfl, rfl⟩

theorem specSumOf_any (s : ByteArray) (w : World) (hs : s.size ≤ 1048580) :
    Calls Tryd.prog 80 #[.string s] w fun e w' => e = .returned (.int .u32 (sumAll 4294967295 s.data.toList : Nat)) ∧ w = w' := by
  have c := specSumMore_any 4294967295 s w (by omega) hs
  generalize sumAll 4294967295 s.data.toList = q at c
  go_enter Tryd.func80, Tryd.ntmps80
  go_wp2_with (go_at_call 84; refine c.mono ?_; rintro e w' ⟨rfl, rfl⟩)
  go_ret
  exact ⟨rfl, rfl⟩

end Go.Proofs.YtbcjkinalghokafDoor

namespace Go.Proofs.YtbcjkinalghokafDoor
open Go.RowKit Go.Sort

theorem rowByte_val (row : Int) : row % 256 = ((rowByte row).toNat : Int) := by
  unfold rowByte
  rw [UInt8.toNat_ofNat']
  omega
/-- 'string([]byte{byte(row)})'. -/
theorem byte_text {P : Program} (w : World) (src dst e : TypeId) (row : Int) (hs : P.underlying src = some (.slice e)) (he : P.underlying e = some (.int .u8)) (hd : P.underlying dst = some .string) :
    (convert src dst (.slice (some ⟨w.heap.size, 0, none⟩) 1 1)).run P (w.alloc (.cells #[.int .u8 (row % 256)] e)) = .ok (.string ⟨#[rowByte row]⟩) (w.alloc (.cells #[.int .u8 (row % 256)] e)) := by
  refine run_convert_bytes_back _ src dst e ⟨w.heap.size, 0, none⟩ 1 [rowByte row] hs he hd fun j hj => ?_
  match j, hj with
  | 0, _ => simpa [Addr.add] using rowByte_val row
theorem placeS_of (row : Int) (key : ByteArray) (b : UInt8) (hb : rowByte row = b) : sumAll 4294967295 (key ++ ⟨#[b]⟩).data.toList % 16 = placeS row key := by
  subst hb
  unfold placeS
  simp

set_option maxRecDepth 100000 in
set_option maxHeartbeats 2000000 in
theorem implSketchPlace_any (row : Int) (key : ByteArray) (w : World) (hk : key.size ≤ 1048576) (ht : Tab w) :
    Calls Tryd.prog 56 #[.int .i64 row, .string key] w fun e w' => e = .returned (.int .i64 (placeS row key : Nat)) ∧ Below w.heap.size w w' := by
  have hcv := byte_text (P := Tryd.prog) w 22 9 5 row Tryd.underlying22 Tryd.underlying5 Tryd.underlying9
  have hb1 : Below w.heap.size w (w.alloc (.cells #[.int .u8 (row % 256)] 5)) := (Below.refl _ _).alloc (Nat.le_refl _) _
  have ht1 := ht.below hb1 (Nat.le_refl _)
  have HP := placeS_of row key (rowByte row) rfl
  generalize rowByte row = b at hcv HP
  have hz : (⟨#[b]⟩ : ByteArray).size = 1 := rfl
  have c := implSumOf_any (key ++ ⟨#[b]⟩) (w.alloc (.cells #[.int .u8 (row % 256)] 5)) (by rw [ByteArray.size_append, hz]; omega) ht1
  have hsl := sumAll_lt (s := 4294967295) (l := (key ++ (⟨#[b]⟩ : ByteArray)).data.toList) (by omega)
  generalize sumAll 4294967295 (key ++ (⟨#[b]⟩ : ByteArray)).data.toList = q at c HP hsl
  have HP' : Hid (q % 16 = placeS row key) := HP
  have hzz : (⟨#[b]⟩ : ByteArray).size ≤ 1 := by omega
  clear HP ht ht1 hz
  go_enter Tryd.func56, Tryd.ntmps56
  go_wp2_with (go_at_call 73; refine c.mono ?_; rintro e w' ⟨rfl, rfl⟩)
  go_ret
  exact ⟨by rw [← HP'.out]; rfl, hb1⟩
set_option maxRecDepth 100000 in
set_option maxHeartbeats 2000000 in
theorem specSketchPlace_any (row : Int) (key : ByteArray) (w : World) (hk : key.size ≤ 1048576) :
    Calls Tryd.prog 64 #[.int .i64 row, .string key] w fun e w' => e = .returned (.int .i64 (placeS row key : Nat)) ∧ Below w.heap.size w w' := by
  have hcv := byte_text (P := Tryd.prog) w 22 9 5 row Tryd.underlying22 Tryd.underlying5 Tryd.underlying9
  have hb1 : Below w.heap.size w (w.alloc (.cells #[.int .u8 (row % 256)] 5)) := (Below.refl _ _).alloc (Nat.le_refl _) _
  have HP := placeS_of row key (rowByte row) rfl
  generalize rowByte row = b at hcv HP
  have hz : (⟨#[b]⟩ : ByteArray).size = 1 := rfl
  have c := specSumOf_any (key ++ ⟨#[b]⟩) (w.alloc (.cells #[.int .u8 (row % 256)] 5)) (by rw [ByteArray.size_append, hz]; omega)
  have hsl := sumAll_lt (s := 4294967295) (l := (key ++ (⟨#[b]⟩ : ByteArray)).data.toList) (by omega)
  generalize sumAll 4294967295 (key ++ (⟨#[b]⟩ : ByteArray)).data.toList = q at c HP hsl
  have HP' : Hid (q % 16 = placeS row key) := HP
  have hzz : (⟨#[b]⟩ : ByteArray).size ≤ 1 := by omega
  clear HP hz
  go_enter Tryd.func64, Tryd.ntmps64
  go_wp2_with (go_at_call 80; refine c.mono ?_; rintro e w' ⟨rfl, rfl⟩)
  go_ret
  exact ⟨by rw [← HP'.out]; rfl, hb1⟩
end Go.Proofs.YtbcjkinalghokafDoor

namespace Go.Proofs.YtbcjkinalghokafDoor
open Go.RowKit

def All16 (rows : List (List Int)) : Prop := ∀ r ∈ rows, r.length = 16
theorem flat_len : ∀ (rows : List (List Int)), All16 rows → rows.flatten.length = 16 * rows.length
  | [], _ => rfl
  | r :: rs, h => by
    have h1 := h r (by simp)
    have h2 := flat_len rs (fun x hx => h x (by simp [hx]))
    simp only [List.flatten_cons, List.length_append, List.length_cons, h1, h2]
    omega
theorem flat_at : ∀ (rows : List (List Int)), All16 rows → ∀ (k p : Nat), p < 16 → rows.flatten[k * 16 + p]? = (rows.getD k [])[p]?
  | [], _, k, p, _ => by simp
  | r :: rs, h, 0, p, hp => by
    have h1 := h r (by simp)
    rw [List.flatten_cons, List.getElem?_append_left (by omega)]
    simp
  | r :: rs, h, k + 1, p, hp => by
    have h1 := h r (by simp)
    rw [List.flatten_cons, List.getElem?_append_right (by omega), show (k + 1) * 16 + p - r.length = k * 16 + p by omega, flat_at rs (fun x hx => h x (by simp [hx])) k p hp]
    simp
theorem flat_set : ∀ (rows : List (List Int)), All16 rows → ∀ (k p : Nat) (z : Int), p < 16 → k < rows.length → rows.flatten.set (k * 16 + p) z = (rows.set k ((rows.getD k []).set p z)).flatten
  | [], _, k, p, z, _, hk => by simp at hk
  | r :: rs, h, 0, p, z, hp, _ => by
    have h1 := h r (by simp)
    rw [List.flatten_cons, List.set_append_left _ _ (by omega)]
    simp
  | r :: rs, h, k + 1, p, z, hp, hk => by
    have h1 := h r (by simp)
    rw [List.flatten_cons, List.set_append_right _ _ (by omega), show (k + 1) * 16 + p - r.length = k * 16 + p by omega, flat_set rs (fun x hx => h x (by simp [hx])) k p z hp (by simpa using hk)]
    simp
theorem flat_splice : ∀ (rows : List (List Int)), All16 rows → ∀ (k : Nat) (q : List Int), q.length = 16 → k < rows.length → splice rows.flatten (k * 16) q = (rows.set k q).flatten
  | [], _, k, q, _, hk => by simp at hk
  | r :: rs, h, 0, q, hq, _ => by
    have h1 := h r (by simp)
    unfold splice
    rw [List.flatten_cons, hq, List.drop_append]
    simp [h1]
  | r :: rs, h, k + 1, q, hq, hk => by
    have h1 := h r (by simp)
    have ih := flat_splice rs (fun x hx => h x (by simp [hx])) k q hq (by simpa using hk)
    unfold splice at ih ⊢
    rw [List.flatten_cons, List.take_append, List.drop_append, List.take_of_length_le (by omega), List.drop_eq_nil_of_le (by omega), List.nil_append, show (k + 1) * 16 - r.length = k * 16 by omega, show (k + 1) * 16 + q.length - r.length = k * 16 + q.length by omega, List.append_assoc, ih]
    simp
theorem all16_set {rows : List (List Int)} (h : All16 rows) (k : Nat) {q : List Int} (hq : q.length = 16) : All16 (rows.set k q) := by
  intro r hr
  rcases List.mem_or_eq_of_mem_set hr with hr | rfl
  · exact h r hr
  · exact hq
theorem all16_zero : All16 (List.replicate 3 (List.replicate 16 0)) := by
  intro r hr
  obtain ⟨_, rfl⟩ := List.mem_replicate.1 hr
  simp
theorem all16_get {rows : List (List Int)} (h : All16 rows) {k : Nat} (hk : k < rows.length) : rows[k].length = 16 := h _ (List.getElem_mem hk)

/-- Rows as one array in the variable T. -/
def RBox (w : World) (T : Nat) (rows : List (List Int)) : Prop := w.heap[T]? = some (.cells (ints rows.flatten).toArray 70 (0, 0))
theorem RBox.lt {w : World} {T : Nat} {rows : List (List Int)} (h : RBox w T rows) : T < w.heap.size := (Array.getElem?_eq_some_iff.1 h).1
theorem RBox.new (w : World) (rows : List (List Int)) : RBox (w.alloc (.cells (ints rows.flatten).toArray 70)) w.heap.size rows := heap_alloc_new w _
theorem RBox.kept {w w' : World} {T : Nat} {rows : List (List Int)} (h : RBox w T rows) (hk : w'.heap[T]? = w.heap[T]?) : RBox w' T rows := hk.trans h
theorem RBox.on {w w' : World} {T : Nat} {rows : List (List Int)} (h : RBox w T rows) (hb : Below w.heap.size w w') : RBox w' T rows := h.kept (hb.block T h.lt)
theorem RBox.thaw {w : World} {T : Nat} {rows : List (List Int)} (h : RBox w T rows) (i : Nat) : w.frozen? ⟨T, i, none⟩ = false := by
  unfold RBox at h
  simp [World.frozen?, h]
theorem RBox.cell {w : World} {T : Nat} {rows : List (List Int)} (h : RBox w T rows) (h16 : All16 rows) {k p : Nat} (hk : k < rows.length) (hp : p < 16) : w.cell? ⟨T, k * 16 + p, none⟩ = some (.int .i64 ((rows.getD k []).getD p 0)) := by
  unfold RBox at h
  have hl : p < (rows.getD k []).length := by rw [List.getD_eq_getElem?_getD, List.getElem?_eq_getElem hk]; simpa [all16_get h16 hk] using hp
  rw [cell_of_row w T (k * 16 + p) _ _ (0, 0) h]
  simp only [ints, List.getElem?_toArray, List.getElem?_map, flat_at rows h16 k p hp, List.getElem?_eq_getElem hl, Option.map_some]
  have e : ∀ (r : List Int) (h : p < r.length), r[p] = r.getD p 0 := by intro r h; simp [List.getD_eq_getElem?_getD, h]
  rw [e _ hl]
theorem RBox.at {w : World} {T : Nat} {rows : List (List Int)} (h : RBox w T rows) (h16 : All16 rows) {k : Nat} (hk : k < rows.length) : IAt w (some ⟨T, k * 16, none⟩) rows[k] w.heap.size := by
  intro j hj
  have hl := all16_get h16 hk
  refine ⟨T, k * 16, rfl, h.lt, ?_⟩
  rw [h.cell h16 hk (by omega)]
  simp [List.getD_eq_getElem?_getD, List.getElem?_eq_getElem hk, List.getElem?_eq_getElem hj]
theorem RBox.set {w : World} {T : Nat} {rows : List (List Int)} (h : RBox w T rows) (h16 : All16 rows) {k p : Nat} (hk : k < rows.length) (hp : p < 16) (z : Int) : RBox (w.setCell ⟨T, k * 16 + p, none⟩ (.int .i64 z)) T (rows.set k ((rows.getD k []).set p z)) := by
  unfold RBox at *
  rw [setCell_eq_setRow w T _ _ _ (0, 0) _ h, setRow_heap w T _ _ _ _ h, ← flat_set rows h16 k p z hp hk]
  simp [ints, List.map_set]
theorem ints_all (l : List Int) : (ints l).toArray.all (·.oneCell') = true := by
  rw [Array.all_eq_true_iff_forall_mem]
  intro v hv
  simp only [List.mem_toArray, ints, List.mem_map] at hv
  obtain ⟨x, _, rfl⟩ := hv
  rfl
theorem ints_one (l : List Int) : ∀ u ∈ ints l, u.oneCell' = true := by
  intro u hu
  simp only [ints, List.mem_map] at hu
  obtain ⟨x, _, rfl⟩ := hu
  rfl
/-- The whole of it is loaded. -/
theorem RBox.load {P : Program} {w : World} {T : Nat} {rows : List (List Int)} (h : RBox w T rows) (hl : rows.flatten.length = 48) : (loadCellsFrom ⟨T, 0, none⟩ 0 48 #[]).run P w = .ok (ints rows.flatten).toArray w := by
  have h' : w.heap[T]? = some (.cells (ints rows.flatten).toArray 70 (0, 0)) := h
  have := run_loadCells_list (P := P) w ⟨T, 0, none⟩ (ints rows.flatten) (fun j v hv => by
    have hadd : (⟨T, 0, none⟩ : Addr).add j = ⟨T, j, none⟩ := by unfold Addr.add; split <;> simp_all
    rw [hadd, cell_of_row _ _ j _ _ (0, 0) h']
    simpa using hv)
  rw [ints_length, hl] at this
  simpa [loadCells] using this
theorem splice_all {α : Type} (L cs : List α) (h : L.length = cs.length) : L.take 0 ++ cs ++ L.drop (0 + cs.length) = cs := by
  rw [Nat.zero_add, ← h]
  simp
/-- The whole of it is stored. -/
theorem RBox.store {P : Program} {w : World} {T : Nat} {rows new : List (List Int)} (h : RBox w T rows) (hl : rows.flatten.length = 48) (hn : new.flatten.length = 48) : (storeCells ⟨T, 0, none⟩ (ints new.flatten) 0).run P w = .ok () (w.setRow T (ints new.flatten).toArray) := by
  have h' : w.heap[T]? = some (.cells (ints rows.flatten).toArray 70 (0, 0)) := h
  have := run_storeCells_at P T 0 70 (ints new.flatten) 0 _ w h' (Nat.le_of_eq (by rw [ints_length, List.size_toArray, ints_length, hn, hl])) (ints_one _)
  rw [this]
  simp only [Nat.add_zero]
  rw [splice_all _ _ (by rw [ints_length, ints_length, hl, hn])]
theorem RBox.stored {w : World} {T : Nat} {rows : List (List Int)} (h : RBox w T rows) (new : List (List Int)) : RBox (w.setRow T (ints new.flatten).toArray) T new := setRow_heap w T _ _ _ _ h
theorem zeros48 : (ints (List.replicate 3 (List.replicate 16 0)).flatten).toArray = Array.replicate 48 (Value.int .i64 0) := by rfl
end Go.Proofs.YtbcjkinalghokafDoor

namespace Go.Proofs.YtbcjkinalghokafDoor
open Go.RowKit

theorem run_loadR {P : Program} {w : World} {T n : Nat} {t e tt : TypeId} {cs : Array Value} (hT : w.heap[T]? = some (.cells cs tt (0, 0))) (hu : P.underlying t = some (.array n e)) (hi : (P.info? t).map (·.size) = some cs.size) :
    (Instr.loadAt t (.pointer (some ⟨T, 0, none⟩))).run P w = .ok (.agg cs) w := by
  simp only [Instr.loadAt, Instr.sureAddr, Sem.run_bind, Sem.run_pure, Result.andThen]
  exact run_loadVar_row w T tt t cs (0, 0) _ hT hu rfl hi
theorem run_storeR {P : Program} {w : World} {T : Nat} {t tt : TypeId} {old cs : Array Value} (hT : w.heap[T]? = some (.cells old tt (0, 0))) (hi : (P.info? t).map (·.size) = some cs.size) (ho : old.size = cs.size) (h1 : cs.all (·.oneCell') = true) :
    (Instr.storeAt t (.pointer (some ⟨T, 0, none⟩)) (.agg cs)).run P w = .ok () (w.setRow T cs) := by
  simp only [Instr.storeAt, Instr.sureAddr, Sem.run_bind, Sem.run_pure, Result.andThen]
  exact run_storeVar_row w T tt t old cs hT hi ho h1
theorem wpList_loadR {P : Program} {ops : Array Oper} {rest : List Oper} {o : Oper} {a : Act} {w : World} {Q : Exit → Act → World → Prop} (hgd : o.guard = none) (p : Operand) (t : TypeId) (ho : o.op = .load t p) (T : Nat) (hp : a.eval p = .pointer (some ⟨T, 0, none⟩))
    (n : Nat) (e : TypeId) (hu : P.underlying t = some (.array n e)) (cs : Array Value) (tt : TypeId) (hT : w.heap[T]? = some (.cells cs tt (0, 0))) (hi : (P.info? t).map (·.size) = some cs.size) (h : wpList P ops Q rest (a.put o.dst (.agg cs)) w) : wpList P ops Q (o :: rest) a w := by
  refine wpList_plain hgd fun K hK => ?_
  have hrun := run_loadR (P := P) hT hu hi
  unfold Oper.wp
  simp only [execOp, ho, hp, Sem.run_bind, hrun, Result.andThen, Sem.run_pure]
  exact hK _ _ h
theorem wpList_storeR {P : Program} {ops : Array Oper} {rest : List Oper} {o : Oper} {a : Act} {w : World} {Q : Exit → Act → World → Prop} (hgd : o.guard = none) (p x : Operand) (t : TypeId) (ho : o.op = .store t p x) (T : Nat) (hp : a.eval p = .pointer (some ⟨T, 0, none⟩))
    (cs : Array Value) (hx : a.eval x = .agg cs) (old : Array Value) (tt : TypeId) (hT : w.heap[T]? = some (.cells old tt (0, 0))) (hi : (P.info? t).map (·.size) = some cs.size) (hol : old.size = cs.size) (h1 : cs.all (·.oneCell') = true) (h : wpList P ops Q rest (a.put o.dst undef) (w.setRow T cs)) : wpList P ops Q (o :: rest) a w := by
  refine wpList_plain hgd fun K hK => ?_
  have hrun := run_storeR (P := P) hT hi hol h1
  unfold Oper.wp
  simp only [execOp, ho, hp, hx, Sem.run_bind, hrun, Result.andThen, Sem.run_pure]
  exact hK _ _ h
theorem step_loadR {P : Program} {ops : Array Oper} {o : Oper} {a : Act} {w : World} {K : Act → World → Prop} {Q : Exit → Act → World → Prop} {E : Prop} (hgd : o.guard = none) (p : Operand) (t : TypeId) (ho : o.op = .load t p) (T : Nat) (hp : a.eval p = .pointer (some ⟨T, 0, none⟩))
    (n : Nat) (e : TypeId) (hu : P.underlying t = some (.array n e)) (cs : Array Value) (tt : TypeId) (hT : w.heap[T]? = some (.cells cs tt (0, 0))) (hi : (P.info? t).map (·.size) = some cs.size) (h : K (a.put o.dst (.agg cs)) w) :
    if Region.wanted o (yielded ops a.tmps) = true then Oper.wp P o a w K Q else E := by
  have hw : Region.wanted o (yielded ops a.tmps) = true := by simp [Region.wanted, hgd]
  rw [if_pos hw]
  have hrun := run_loadR (P := P) hT hu hi
  unfold Oper.wp
  simp only [execOp, ho, hp, Sem.run_bind, hrun, Result.andThen, Sem.run_pure]
  exact h
theorem step_storeR {P : Program} {ops : Array Oper} {o : Oper} {a : Act} {w : World} {K : Act → World → Prop} {Q : Exit → Act → World → Prop} {E : Prop} (hgd : o.guard = none) (p x : Operand) (t : TypeId) (ho : o.op = .store t p x) (T : Nat) (hp : a.eval p = .pointer (some ⟨T, 0, none⟩))
    (cs : Array Value) (hx : a.eval x = .agg cs) (old : Array Value) (tt : TypeId) (hT : w.heap[T]? = some (.cells old tt (0, 0))) (hi : (P.info? t).map (·.size) = some cs.size) (hol : old.size = cs.size) (h1 : cs.all (·.oneCell') = true) (h : K (a.put o.dst undef) (w.setRow T cs)) :
    if Region.wanted o (yielded ops a.tmps) = true then Oper.wp P o a w K Q else E := by
  have hw : Region.wanted o (yielded ops a.tmps) = true := by simp [Region.wanted, hgd]
  rw [if_pos hw]
  have hrun := run_storeR (P := P) hT hi hol h1
  unfold Oper.wp
  simp only [execOp, ho, hp, hx, Sem.run_bind, hrun, Result.andThen, Sem.run_pure]
  exact h
end Go.Proofs.YtbcjkinalghokafDoor
