/- The place of a key in a row: both texts. -/
import Derived.Test.YtifjjfjadcpmaaeDoorSkKit
import Derived.Test.YtifjjfjadcpmaaeDoorSkPlain
import Derived.Test.YtifjjfjadcpmaaeDoorSumSpec
namespace Go.Proofs.YtifjjfjadcpmaaeDoor
open Go.RowKit Go.Sort

theorem rowByte_val (row : Int) : row % 256 = ((rowByte row).toNat : Int) := by
  unfold rowByte
  rw [UInt8.toNat_ofNat']
  omega
/-- 'string([]byte{byte(row)})'. -/
theorem byte_text {P : Program} (w : World) (src dst e : TypeId) (row : Int) (hs : P.underlying src = some (.slice e)) (he : P.underlying e = some (.int .u8)) (hd : P.underlying dst = some .string) :
    (convert src dst (.slice (some ⟨w.heap.size, 0, none⟩) 1 1)).run P (w.alloc (.cells #[.int .u8 (row % 256)] e)) = .ok (.string ⟨#[rowByte row]⟩) (w.alloc (.cells #[.int .u8 (row % 256)] e)) := by
  refine run_convert_bytes_back _ src dst e ⟨w.heap.size, 0, none⟩ 1 [rowByte row] hs he hd fun j hj => ?_
  match j, hj with
  | 0, _ => simpa [Addr.add] using rowByte_val row
theorem placeS_of (row : Int) (key : ByteArray) (b : UInt8) (hb : rowByte row = b) : sumAll 4294967295 (key ++ ⟨#[b]⟩).data.toList % 16 = placeS row key := by
  subst hb
  unfold placeS
  simp

set_option maxRecDepth 100000 in
set_option maxHeartbeats 2000000 in
theorem implSketchPlace_any (row : Int) (key : ByteArray) (w : World) (hk : key.size ≤ 1048576) (ht : Tab w) :
    Calls Tryd.prog 33 #[.int .i64 row, .string key] w fun e w' => e = .returned (.int .i64 (placeS row key : Nat)) ∧ Below w.heap.size w w' := by
  have hcv := byte_text (P := Tryd.prog) w 22 9 5 row Tryd.underlying22 Tryd.underlying5 Tryd.underlying9
  have hb1 : Below w.heap.size w (w.alloc (.cells #[.int .u8 (row % 256)] 5)) := (Below.refl _ _).alloc (Nat.le_refl _) _
  have ht1 := ht.below hb1 (Nat.le_refl _)
  have HP := placeS_of row key (rowByte row) rfl
  generalize rowByte row = b at hcv HP
  have hz : (⟨#[b]⟩ : ByteArray).size = 1 := rfl
  have c := implSumOf_any (key ++ ⟨#[b]⟩) (w.alloc (.cells #[.int .u8 (row % 256)] 5)) (by rw [ByteArray.size_append, hz]; omega) ht1
  have hsl := sumAll_lt (s := 4294967295) (l := (key ++ (⟨#[b]⟩ : ByteArray)).data.toList) (by omega)
  generalize sumAll 4294967295 (key ++ (⟨#[b]⟩ : ByteArray)).data.toList = q at c HP hsl
  have HP' : Hid (q % 16 = placeS row key) := HP
  have hzz : (⟨#[b]⟩ : ByteArray).size ≤ 1 := by omega
  clear HP ht ht1 hz
  go_enter Tryd.func33, Tryd.ntmps33
  go_wp2_with (go_at_call 69; refine c.mono ?_; rintro e w' ⟨rfl, rfl⟩)
  go_ret
  exact ⟨by rw [← HP'.out]; rfl, hb1⟩
set_option maxRecDepth 100000 in
set_option maxHeartbeats 2000000 in
theorem specSketchPlace_any (row : Int) (key : ByteArray) (w : World) (hk : key.size ≤ 1048576) :
    Calls Tryd.prog 34 #[.int .i64 row, .string key] w fun e w' => e = .returned (.int .i64 (placeS row key : Nat)) ∧ Below w.heap.size w w' := by
  have hcv := byte_text (P := Tryd.prog) w 22 9 5 row Tryd.underlying22 Tryd.underlying5 Tryd.underlying9
  have hb1 : Below w.heap.size w (w.alloc (.cells #[.int .u8 (row % 256)] 5)) := (Below.refl _ _).alloc (Nat.le_refl _) _
  have HP := placeS_of row key (rowByte row) rfl
  generalize rowByte row = b at hcv HP
  have hz : (⟨#[b]⟩ : ByteArray).size = 1 := rfl
  have c := specSumOf_any (key ++ ⟨#[b]⟩) (w.alloc (.cells #[.int .u8 (row % 256)] 5)) (by rw [ByteArray.size_append, hz]; omega)
  have hsl := sumAll_lt (s := 4294967295) (l := (key ++ (⟨#[b]⟩ : ByteArray)).data.toList) (by omega)
  generalize sumAll 4294967295 (key ++ (⟨#[b]⟩ : ByteArray)).data.toList = q at c HP hsl
  have HP' : Hid (q % 16 = placeS row key) := HP
  have hzz : (⟨#[b]⟩ : ByteArray).size ≤ 1 := by omega
  clear HP hz
  go_enter Tryd.func34, Tryd.ntmps34
  go_wp2_with (go_at_call 70; refine c.mono ?_; rintro e w' ⟨rfl, rfl⟩)
  go_ret
  exact ⟨by rw [← HP'.out]; rfl, hb1⟩
end Go.Proofs.YtifjjfjadcpmaaeDoor
