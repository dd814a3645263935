/- Texts that stand in one: CliLaw, EnsLaw, PolSpec. -/
import Derived.Test.YtaahjcljanckaaaGreatDoorFetRowsJ
import Derived.Test.YtaahjcljanckaaaGreatDoorSkLaw3J
import Derived.Lib.QuietBelow
import Derived.BigQuiet
import Derived.Test.YtaahjcljanckaaaGreatDoorFilesJ
import Derived.Test.YtaahjcljanckaaaGreatDoorSumTabJ
import Derived.Test.YtaahjcljanckaaaGreatDoorSkBaseJ
namespace Go.Proofs.YtaahjcljanckaaaGreatDoor
open Go.RowKit Go.Sort
theorem Tryz.infoCli : (Tryz.prog.info? 45).map (fun i => (i.zero,i.size,i.bytes)) = some (some (.agg #[.int .i64 0,.string ⟨#[]⟩,.int .i64 0,.int .i64 0,.int .i64 0,.string ⟨#[]⟩,.int .i64 0]), 7, 72) := by kernel_rfl
theorem Tryz.infoEn : (Tryz.prog.info? 65).map (fun i => (i.zero,i.size,i.bytes)) = some (some (.agg #[.string ⟨#[]⟩,.int .i64 0,.int .i64 0,.string ⟨#[]⟩]), 4, 48) := by kernel_rfl
theorem bytes_nk {z key : ByteArray} (h : ¬ z = key) : (z.toList == key.toList) = false := by
 rw [ByteArray.toList_eq,ByteArray.toList_eq,beq_eq_false_iff_ne]
 intro e
 exact h (ByteArray.ext (Array.toList_inj.1 e))
theorem inL_take {l : List ByteArray} {s : ByteArray} {k : Nat} (hk : k < l.length) (h : inL (l.take k) s = false) (hn : ¬ l[k] = s) : inL (l.take (k + 1)) s = false := by
 rw [inL_false] at h ⊢
 rw [List.take_succ_eq_append_getElem hk]
 intro hm
 rcases List.mem_append.1 hm with hm | hm
 ·exact h hm
 ·exact hn (List.mem_singleton.1 hm).symm
theorem Tryz.infoSK : (Tryz.prog.info? 9).map (fun i => (i.zero,i.size,i.bytes)) = some (some (.string ⟨#[]⟩), 1, 16) := by kernel_rfl
theorem without_take {l : List ByteArray} {s : ByteArray} {k : Nat} (hk : k < l.length) : without (l.take (k + 1)) s = without (l.take k) s ++ if l[k] = s then [] else [l[k]] := by
 unfold without
 rw [List.take_succ_eq_append_getElem hk,List.filter_append]
 by_cases h : l[k] = s <;> simp [h]
end Go.Proofs.YtaahjcljanckaaaGreatDoor
