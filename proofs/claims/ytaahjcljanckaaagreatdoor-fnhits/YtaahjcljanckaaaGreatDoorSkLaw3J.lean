/- Texts that stand in one: SkLaw3, StrsLaw, FigPlain, DecPlain, MarkText, MarkListW, PolLaw. -/
import Derived.Test.YtaahjcljanckaaaGreatDoorSumTabJ
import Derived.Laws.OwnMore
import Derived.Lib.QuietBelow
import Derived.BigQuiet
import Derived.Test.YtaahjcljanckaaaGreatDoorSkBaseJ
namespace Go.Proofs.YtaahjcljanckaaaGreatDoor
open Go.RowKit
end Go.Proofs.YtaahjcljanckaaaGreatDoor
namespace Go.Proofs.YtaahjcljanckaaaGreatDoor
open Go.RowKit Go.Sort
theorem Tryz.infoStr : (Tryz.prog.info? 9).map (fun i => (i.zero,i.size,i.bytes)) = some (some (.string ⟨#[]⟩), 1, 16) := by kernel_rfl
def wgtL (L : List ByteArray) : Nat := (L.map ByteArray.size).sum
theorem wgtL_mem {L : List ByteArray} {p : ByteArray} (h : p ∈ L) : p.size ≤ wgtL L := by
 induction L with
 | nil => cases h
 | cons q r ih =>
  unfold wgtL at *
  rw [List.map_cons,List.sum_cons]
  rcases List.mem_cons.1 h with h | h
  ·rw [h]; omega
  ·have := ih h; omega
end Go.Proofs.YtaahjcljanckaaaGreatDoor
namespace Go.Proofs.YtaahjcljanckaaaGreatDoor
open Go.RowKit
end Go.Proofs.YtaahjcljanckaaaGreatDoor
namespace Go.Proofs.YtaahjcljanckaaaGreatDoor
open Go.RowKit Go.Sort
theorem Tryz.info9 : (Tryz.prog.info? 9).map (fun i => (i.zero,i.size,i.bytes)) = some (some (.string ⟨#[]⟩), 1, 16) := by kernel_rfl
def wgtP (P : Pol) : Nat := P.win.length + wgtL P.win + (P.main.length + wgtL P.main) + (P.sk.rows.length + tot P.sk.rows P.sk.rows.length)
def PolSz (P : Pol) : Prop := wgtP P ≤ 1048576
theorem PolSz.parts {P : Pol} (h : PolSz P) : P.win.length ≤ 1048576 ∧ P.main.length ≤ 1048576 ∧ SkSz P.sk := by
 unfold PolSz wgtP at h
 refine ⟨by omega,by omega, ?_⟩
 unfold SkSz
 omega
end Go.Proofs.YtaahjcljanckaaaGreatDoor
