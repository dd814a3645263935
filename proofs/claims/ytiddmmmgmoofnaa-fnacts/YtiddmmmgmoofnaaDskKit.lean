/- Disks in variables of a law. -/
import Derived.Test.YtiddmmmgmoofnaaKeepTools
import Derived.Test.YtiddmmmgmoofnaaLoseImpl2
import Derived.Test.YtiddmmmgmoofnaaKeptImpl
namespace Go.Proofs.Ytiddmmmgmoofnaa
open Go.RowKit Go.Sort

/-- A disk in a variable of the law. -/
structure Dsk (D : Nat) (a : Option Addr) (m c : Nat) (L : List Fil) (wi : World) : Prop where
  box : DBox wi D (.slice a m c)
  fat : FAt wi a L wi.heap.size
  len : L.length = m
theorem Dsk.next {D : Nat} {a : Option Addr} {m c : Nat} {L : List Fil} {wi wj : World} (h : Dsk D a m c L wi) (hb : Below wi.heap.size wi wj) : Dsk D a m c L wj := ⟨h.box.on hb, h.fat.on hb, h.len⟩
theorem Dsk.new {a : Option Addr} {m c : Nat} {L : List Fil} {wi : World} (h : FAt wi a L wi.heap.size) (hl : L.length = m) : Dsk wi.heap.size a m c L (wi.alloc (.cells #[.slice a m c] 26)) := ⟨DBox.new _ _, h.on ((Below.refl _ _).alloc (Nat.le_refl _) _), hl⟩
theorem Dsk.lose {D : Nat} {a : Option Addr} {m c : Nat} {L : List Fil} {wi : World} (h : Dsk D a m c L wi) (hd : dOk L = true) (b : Option Addr) (capb k : Nat) (left : List Int) (hI : IAt wi b left wi.heap.size) (hk : left.length = k) (hk2 : k ≤ 100) :
    Calls Try.prog 9 #[.agg #[.slice a m c], .slice b k capb] wi fun e w' => ∃ (a' : Option Addr) (c' : Nat), e = .returned (.tuple #[.agg #[.slice a' m c'], .bool true]) ∧ FAt w' a' (loseL L left) w'.heap.size ∧ Below wi.heap.size wi w' := by
  obtain ⟨_, hf, rfl⟩ := h
  subst hk
  refine (implLose_any wi a c L b capb left hf hI (dOk_wgtK hd) (by omega)).mono ?_
  rintro e w' ⟨v, rfl, ho, hb⟩
  obtain ⟨a', c', rfl, hA⟩ := ho.at
  exact ⟨a', c', by rw [hd, loseL_len hd], hA, hb⟩
theorem Dsk.kept {D : Nat} {a : Option Addr} {m c : Nat} {L : List Fil} {wi : World} (h : Dsk D a m c L wi) (hm : m ≤ 30) (hd : aK L = true) :
    Calls Try.prog 11 #[.agg #[.slice a m c]] wi fun e w' => e = .returned (.bool true) ∧ Below wi.heap.size wi w' := by
  obtain ⟨_, hf, rfl⟩ := h
  refine (implAllKept_any wi a c L hf (by omega)).mono ?_
  rintro e w' ⟨rfl, hb⟩
  exact ⟨by rw [hd], hb⟩
theorem Dsk.right {D : Nat} {a : Option Addr} {m c : Nat} {L : List Fil} {wi : World} (h : Dsk D a m c L wi) (hm : m ≤ 30) (hd : dOk L = true) :
    Calls Try.prog 12 #[.agg #[.slice a m c]] wi fun e w' => e = .returned (.bool true) ∧ Below wi.heap.size wi w' := by
  obtain ⟨_, hf, rfl⟩ := h
  refine (implDiskOk_any wi a c L hf (by omega)).mono ?_
  rintro e w' ⟨rfl, hb⟩
  exact ⟨by rw [hd], hb⟩
theorem Dsk.same {D D2 : Nat} {a b : Option Addr} {m c c2 : Nat} {L : List Fil} {wi : World} (h : Dsk D a m c L wi) (h2 : Dsk D2 b m c2 L wi) (hm : m ≤ 30) :
    Calls Try.prog 10 #[.agg #[.slice a m c], .agg #[.slice b m c2]] wi fun e w' => e = .returned (.bool true) ∧ Below wi.heap.size wi w' := by
  obtain ⟨_, hf, rfl⟩ := h
  exact sameDisk_same wi a b c c2 L hf h2.fat (by omega)

theorem kept5 {w0 w1 w2 : World} {a b c d e : Addr} {u1 u2 u3 u4 u5 : Value} (h : Below w0.heap.size w0 w1 ∧ w1.cell? a = some u1 ∧ w1.cell? b = some u2 ∧ w1.cell? c = some u3 ∧ w1.cell? d = some u4 ∧ w1.cell? e = some u5)
    (ha : a.block < w0.heap.size) (hb : b.block < w0.heap.size) (hc : c.block < w0.heap.size) (hd : d.block < w0.heap.size) (he : e.block < w0.heap.size) (hw : Below w1.heap.size w1 w2) :
    Below w0.heap.size w0 w2 ∧ w2.cell? a = some u1 ∧ w2.cell? b = some u2 ∧ w2.cell? c = some u3 ∧ w2.cell? d = some u4 ∧ w2.cell? e = some u5 :=
  ⟨bthen h.1 hw, (hw.cell (Nat.lt_of_lt_of_le ha h.1.size)).trans h.2.1, (hw.cell (Nat.lt_of_lt_of_le hb h.1.size)).trans h.2.2.1, (hw.cell (Nat.lt_of_lt_of_le hc h.1.size)).trans h.2.2.2.1, (hw.cell (Nat.lt_of_lt_of_le hd h.1.size)).trans h.2.2.2.2.1, (hw.cell (Nat.lt_of_lt_of_le he h.1.size)).trans h.2.2.2.2.2⟩
end Go.Proofs.Ytiddmmmgmoofnaa
