/- Texts that stand in one: Base, SumImpl, SumTab, SkBase, PolBase, Rowed. -/
import Derived.Test.YtcaakommnglnbaaGreatDoorSumPlainJ
import Derived.Test.YtcaakommnglnbaaGreatDoorChecked
import Derived.Lib.LaidTab
import Derived.WalkSmall
import Derived.OpenShut
import Derived.Test.YtcaakommnglnbaaGreatDoorCards
import Derived.Test.YtcaakommnglnbaaGreatDoorTie
import Derived.WalkKit
import Derived.ProofKit
import Derived.OpenVars
import Derived.Deep.DeepHandedRow
import Derived.Stop.LaidErr
import Derived.ShutString
import Derived.Laws.OwnMore
namespace Go.Proofs.YtcaakommnglnbaaGreatDoor
open Go.RowKit

theorem Tryz.info5 : (Tryz.prog.info? 5).map (fun i => (i.zero, i.size, i.bytes)) = some (some (.int .u8 0), 1, 1) := by kernel_rfl

/-- x lies between a and b. -/
def inN (x a b : Int) : Bool := decide (a ≤ x ∧ x ≤ b)

theorem in_any (x a b : Int) (w : World) :
    Calls Tryz.prog 43 #[.int .i64 x, .int .i64 a, .int .i64 b] w fun e w' => e = .returned (.bool (inN x a b)) ∧ w' = w := by
  unfold inN
  by_cases h1 : a ≤ x
  · by_cases h2 : x ≤ b
    · rw [decide_eq_true (show a ≤ x ∧ x ≤ b from ⟨h1, h2⟩)]
      go_enter Tryz.func43, Tryz.ntmps43
      go_wp2
      go_ret
      exact ⟨rfl, rfl⟩
    · rw [decide_eq_false (show ¬ (a ≤ x ∧ x ≤ b) by omega)]
      have h3 : decide (x ≤ b) = false := by simpa using h2
      go_enter Tryz.func43, Tryz.ntmps43
      go_wp2
      go_ret
      exact ⟨rfl, rfl⟩
  · rw [decide_eq_false (show ¬ (a ≤ x ∧ x ≤ b) by omega)]
    have h3 : decide (a ≤ x) = false := by simpa using h1
    go_enter Tryz.func43, Tryz.ntmps43
    go_wp2
    go_ret
    exact ⟨rfl, rfl⟩
end Go.Proofs.YtcaakommnglnbaaGreatDoor

namespace Go.Proofs.YtcaakommnglnbaaGreatDoor
open Go.RowKit

theorem gFour : Tryz.prog.globalNamed "loop.example/g00245/impl.fourSteps" = some 1 := by kernel_rfl
/-- The table of the program holds what its text lays. -/
def Tab (w : World) : Prop := Lib.TabIs Tryz.prog w "loop.example/g00245/impl.fourSteps" .u32 (sumTab.map fun (n : Nat) => (n : Int))

theorem Tab.cell {w : World} (h : Tab w) (i : Nat) (hi : i < 16) : w.cell? ⟨1, i, none⟩ = some (.int .u32 (sumTab.getD i 0 : Nat)) := by
  have := Lib.TabIs.cell h gFour i (by simpa [sumTab] using hi)
  rw [this]
  simp [List.getD]
  cases sumTab[i]? <;> rfl

theorem Tab.lt {w : World} (h : Tab w) : 1 < w.heap.size := by
  unfold Tab Lib.TabIs World.var? at h
  simp only [gFour, Option.bind_some] at h
  cases hh : w.heap[1]? with
  | none => rw [hh] at h; cases h
  | some o => exact (Array.getElem?_eq_some_iff.1 hh).1

theorem Tab.below {w w' : World} {B : Nat} (h : Tab w) (hb : Below B w w') (hB : w.heap.size ≤ B) : Tab w' :=
  var?_below hb gFour (Nat.lt_of_lt_of_le h.lt hB) h

set_option maxHeartbeats 1000000 in
theorem withByte_any (s b : Nat) (w : World) (hs : s < 4294967296) (hb : b < 256) (ht : Tab w) :
    Calls Tryz.prog 152 #[.int .u32 (s : Int), .int .u8 (b : Int)] w fun e w' => e = .returned (.int .u32 (sumByte s b : Nat)) ∧ w = w' := by
  have hx := u32_xor_nat s b hs (by omega)
  obtain ⟨n, hn⟩ : ∃ n, s ^^^ b = n := ⟨_, rfl⟩
  have hnl : n < 4294967296 := by rw [← hn]; exact xor_lt32 hs (by omega)
  rw [hn] at hx
  have hc1 := ht.cell (n % 16) (by omega)
  have hl1 := tab_lt (n % 16)
  obtain ⟨m, hm⟩ : ∃ m, sumLook n = m := ⟨_, rfl⟩
  have hml : m < 4294967296 := by rw [← hm]; exact sumLook_lt hnl
  have hm1 : n / 16 ^^^ sumTab.getD (n % 16) 0 = m := hm
  have hc2 := ht.cell (m % 16) (by omega)
  have hl2 := tab_lt (m % 16)
  rw [show sumByte s b = m / 16 ^^^ sumTab.getD (m % 16) 0 by unfold sumByte; rw [hn, hm]; rfl]
  generalize sumTab.getD (n % 16) 0 = y1 at hc1 hl1 hm1
  generalize sumTab.getD (m % 16) 0 = y2 at hc2 hl2 ⊢
  have hx1 : bits .xor .u32 ((n : Int) / 16) (y1 : Int) = (m : Int) := by
    have := u32_xor_nat (n / 16) y1 (by omega) hl1
    rw [hm1] at this
    exact this
  obtain ⟨q, hq⟩ : ∃ q, m / 16 ^^^ y2 = q := ⟨_, rfl⟩
  have hx2 : bits .xor .u32 ((m : Int) / 16) (y2 : Int) = (q : Int) := by
    have := u32_xor_nat (m / 16) y2 (by omega) hl2
    rw [hq] at this
    exact this
  rw [hq]
  clear hm hm1 hq hn ht hl1 hl2
  go_enter Tryz.func152, Tryz.ntmps152
  go_wp2
  go_ret
  exact ⟨rfl, rfl⟩

/-- 'string([]byte{..})' of the four bytes of a sum. -/
theorem four_text {P : Program} (w : World) (src dst e : TypeId) (n : Nat) (hn : n < 4294967296) (hs : P.underlying src = some (.slice e)) (he : P.underlying e = some (.int .u8)) (hd : P.underlying dst = some .string) :
    (convert src dst (.slice (some ⟨w.heap.size, 0, none⟩) 4 4)).run P (w.alloc (.cells #[.int .u8 ((n : Int) / 16777216), .int .u8 ((n : Int) / 65536 % 256), .int .u8 ((n : Int) / 256 % 256), .int .u8 ((n : Int) % 256)] e))
      = .ok (.string ⟨(four n).toArray⟩) (w.alloc (.cells #[.int .u8 ((n : Int) / 16777216), .int .u8 ((n : Int) / 65536 % 256), .int .u8 ((n : Int) / 256 % 256), .int .u8 ((n : Int) % 256)] e)) := by
  refine run_convert_bytes_back _ src dst e ⟨w.heap.size, 0, none⟩ 4 (four n) hs he hd fun j hj => ?_
  have h1 : (n : Int) / 16777216 = ((UInt8.ofNat (n / 16777216)).toNat : Int) := by rw [UInt8.toNat_ofNat']; omega
  match j, hj with
  | 0, _ => simpa [Addr.add, four] using h1
  | 1, _ => simp [Addr.add, four]
  | 2, _ => simp [Addr.add, four]
  | 3, _ => simp [Addr.add, four]


theorem takeSnoc (s : ByteArray) (k : Nat) (hk : k < s.size) : s.data.toList.take (k + 1) = s.data.toList.take k ++ [s[k]] := by
  have h : k < s.data.toList.length := by simpa using hk
  rw [List.take_add_one, List.getElem?_eq_getElem h]
  rfl

set_option maxHeartbeats 1000000 in
theorem implSumMore_any (n : Nat) (s : ByteArray) (w : World) (hn : n < 4294967296) (hs : s.size ≤ 1048580) (ht : Tab w) :
    Calls Tryz.prog 151 #[.int .u32 (n : Int), .string s] w fun e w' => e = .returned (.int .u32 (sumAll n s.data.toList : Nat)) ∧ w = w' := by
  go_enter Tryz.func151, Tryz.ntmps151
  go_wp2
  go_loopw [5, 6, 10] (fun v _ i wr => Box (∃ (k m : Nat), k ≤ s.size ∧ i = .int .i64 k ∧ v = .int .u32 (m : Int) ∧ m < 4294967296 ∧ Hid (m = sumAll n (s.data.toList.take k)) ∧ w = wr))
    (fun _ _ i _ => s.size - (intOf i).toNat)
  case atStart => exact ⟨⟨0, n, Nat.zero_le _, rfl, rfl, hn, rfl, rfl⟩⟩
  case round =>
    obtain ⟨k, m, hk, rfl, rfl, hm, HM, rfl⟩ := hrel.out
    by_cases hlt : k < s.size
    · obtain ⟨b, hb⟩ : ∃ b, s[k] = b := ⟨_, rfl⟩
      have HB : Hid (s[k] = b) := hb
      have hbl : b.toNat < 256 := b.toNat_lt
      have c := withByte_any m b.toNat w hm hbl ht
      have hl := sumByte_lt hm hbl
      have HS : Hid (sumByte m b.toNat = sumAll n (s.data.toList.take (k + 1))) := by
        show _ = _
        rw [takeSnoc s k hlt, HB.out, sumAll_snoc, ← HM.out]
      obtain ⟨q, hq⟩ : ∃ q, sumByte m b.toNat = q := ⟨_, rfl⟩
      rw [hq] at c hl HS
      clear hq
      go_wp2_with (go_at_call 152; refine c.mono ?_; rintro e w' ⟨rfl, rfl⟩)
      go_roundw
      case rel =>
        try ((repeat apply Exists.intro); refine ⟨?_, rfl⟩)
        exact ⟨⟨k + 1, q, by omega, by go_num, rfl, hl, HS, by first | rfl | trivial⟩⟩
      case measure => simp [intOf]; omega
    · go_wp2
      go_ret
      exact ⟨by rw [HM.out, List.take_of_length_le (by simp; omega)]; rfl, rfl⟩

theorem implSumOf_any (s : ByteArray) (w : World) (hs : s.size ≤ 1048580) (ht : Tab w) :
    Calls Tryz.prog 149 #[.string s] w fun e w' => e = .returned (.int .u32 (sumAll 4294967295 s.data.toList : Nat)) ∧ w = w' := by
  have c := implSumMore_any 4294967295 s w (by omega) hs ht
  generalize sumAll 4294967295 s.data.toList = q at c
  go_enter Tryz.func149, Tryz.ntmps149
  go_wp2_with (go_at_call 151; refine c.mono ?_; rintro e w' ⟨rfl, rfl⟩)
  go_ret
  exact ⟨rfl, rfl⟩
end Go.Proofs.YtcaakommnglnbaaGreatDoor

namespace Go.Proofs.YtcaakommnglnbaaGreatDoor
open Go.ChangeShapes Go.WideShapes Go.ChangeAt Go.RowKit

theorem card_own : ownKnob Tryz.prog.godebug = none := by kernel_rfl
theorem gFourType : (Tryz.prog.globals[1]?).map (·.type) = some 194 := by kernel_rfl
theorem cellsFour : Tryz.prog.cellsOf 194 = 16 := by kernel_rfl
theorem cellsU32 : Tryz.prog.cellsOf 186 = 1 := by kernel_rfl
theorem fourData : Rows.laid_loop_example_g00245_impl_fourSteps (H := Unit) = Lib.tabData .u32 (sumTab.map fun (n : Nat) => (n : Int)) := by kernel_rfl
theorem laidOut : laidOutB Tryz.prog = true := by kernel_rfl
theorem varsRows : varsRowed Tryz.prog ["loop.example/g00245/impl.fourSteps"] = true := by kernel_rfl

theorem tab_of {W : World} (h : laidMetH Tryz.prog [("loop.example/g00245/impl.fourSteps", Rows.laid_loop_example_g00245_impl_fourSteps)] W) : Tab W := by
  have h2 : laidMet Tryz.prog [("loop.example/g00245/impl.fourSteps", Rows.laid_loop_example_g00245_impl_fourSteps)] W := h
  rw [fourData] at h2
  exact Lib.tabIs_of_head gFour gFourType Tryz.underlying194 Tryz.underlying186 cellsU32 cellsFour h2

/-- A block's cells, laid anew. -/
def putCells (cs : Array Value) : Obj → Obj
  | .cells _ t frozen => .cells cs t frozen
  | o => o
def fourCells : Array Value := ([0, 1166650509, 2333301018, 3466261911, 3189058079, 4221339282, 889615109, 1888477064, 3558460437, 2442158232, 1594529039, 444807554, 1779230218, 797264519, 3776954128, 2761298845].map fun z => Value.int .u32 z).toArray
end Go.Proofs.YtcaakommnglnbaaGreatDoor

namespace Go.Proofs.YtcaakommnglnbaaGreatDoor
open Go.RowKit

structure Sk where
  rows : List (List Int)
  added : Int

def numOk (z : Int) : Bool := decide (0 ≤ z ∧ z ≤ 15)
def rowOk (r : List Int) : Bool := decide (r.length = 16) && r.all numOk
def headOkK (S : Sk) : Bool := decide (S.rows.length = 3) && decide (0 ≤ S.added ∧ S.added ≤ 63)
def okK (S : Sk) : Bool := headOkK S && S.rows.all rowOk
def newS : Sk := ⟨List.replicate 3 (List.replicate 16 0), 0⟩

theorem rowOk_len {r : List Int} (h : rowOk r = true) : r.length = 16 := by
  unfold rowOk at h
  simp only [Bool.and_eq_true, decide_eq_true_eq] at h
  exact h.1
theorem rowOk_at {r : List Int} (h : rowOk r = true) (p : Nat) (hp : p < 16) : 0 ≤ r.getD p 0 ∧ r.getD p 0 ≤ 15 := by
  have hl := rowOk_len h
  unfold rowOk at h
  simp only [Bool.and_eq_true, List.all_eq_true] at h
  have h2 := h.2 r[p] (List.getElem_mem (by omega))
  simp only [numOk, decide_eq_true_eq] at h2
  rw [List.getD_eq_getElem?_getD, List.getElem?_eq_getElem (by omega)]
  exact h2
theorem list3S {l : List (List Int)} (h : l.length = 3) : ∃ a b c, l = [a, b, c] := by
  match l, h with
  | [a, b, c], _ => exact ⟨a, b, c, rfl⟩
/-- A right sketch has three right rows. -/
theorem okK_parts {S : Sk} (h : okK S = true) : ∃ a b c, S.rows = [a, b, c] ∧ rowOk a = true ∧ rowOk b = true ∧ rowOk c = true ∧ 0 ≤ S.added ∧ S.added ≤ 63 := by
  unfold okK headOkK at h
  simp only [Bool.and_eq_true, decide_eq_true_eq, List.all_eq_true] at h
  obtain ⟨⟨h1, h2⟩, h3⟩ := h
  obtain ⟨a, b, c, e⟩ := list3S h1
  rw [e] at h3
  exact ⟨a, b, c, e, h3 a (by simp), h3 b (by simp), h3 c (by simp), h2.1, h2.2⟩
theorem okK_mk {a b c : List Int} {n : Int} (ha : rowOk a = true) (hb : rowOk b = true) (hc : rowOk c = true) (h0 : 0 ≤ n) (h1 : n ≤ 63) : okK ⟨[a, b, c], n⟩ = true := by
  simp [okK, headOkK, ha, hb, hc, h0, h1]
theorem newS_ok : okK newS = true := by decide
end Go.Proofs.YtcaakommnglnbaaGreatDoor

namespace Go.Proofs.YtcaakommnglnbaaGreatDoor
open Go.RowKit

structure Pol where
  win : List ByteArray
  main : List ByteArray
  sk : Sk

def noKey : ByteArray := ⟨#[]⟩
def inL (l : List ByteArray) (s : ByteArray) : Bool := l.any fun z => decide (z = s)
def keyOk (s : ByteArray) : Bool := decide (1 ≤ s.size ∧ s.size ≤ 30)
/-- The first k of them are right: of their size, none twice. -/
def listOkTo (l : List ByteArray) (k : Nat) : Bool := (List.range k).all fun i => keyOk (l.getD i noKey) && !inL (l.take i) (l.getD i noKey)
def listOk (l : List ByteArray) : Bool := listOkTo l l.length
def okP (P : Pol) : Bool := listOk (P.win ++ P.main) && (decide (P.win.length ≤ 2) && decide (P.main.length ≤ 4) && okK P.sk)
def hasP (P : Pol) (key : ByteArray) : Bool := inL P.win key || inL P.main key
def without (l : List ByteArray) (s : ByteArray) : List ByteArray := l.filter fun z => !decide (z = s)
def dropP (P : Pol) (key : ByteArray) : Pol := ⟨without P.win key, without P.main key, P.sk⟩
def newP : Pol := ⟨[], [], newS⟩
theorem inL_iff {l : List ByteArray} {s : ByteArray} : inL l s = true ↔ s ∈ l := by
  unfold inL
  rw [List.any_eq_true]
  constructor
  · rintro ⟨z, hz, e⟩
    simp only [decide_eq_true_eq] at e
    rw [← e]
    exact hz
  · intro h
    exact ⟨s, h, by simp⟩
theorem inL_false {l : List ByteArray} {s : ByteArray} : inL l s = false ↔ s ∉ l := by
  rw [← inL_iff]
  simp
theorem without_mem {l : List ByteArray} {s z : ByteArray} : z ∈ without l s ↔ z ∈ l ∧ z ≠ s := by
  unfold without
  rw [List.mem_filter]
  simp
theorem without_none {l : List ByteArray} {s : ByteArray} (h : s ∉ l) : without l s = l := by
  unfold without
  rw [List.filter_eq_self]
  intro z hz
  simp only [Bool.not_eq_true', decide_eq_false_iff_not]
  intro e
  rw [e] at hz
  exact h hz
theorem nodup_snoc {l : List ByteArray} {z : ByteArray} : (l ++ [z]).Nodup ↔ l.Nodup ∧ z ∉ l := by
  rw [List.nodup_append]
  constructor
  · rintro ⟨h1, _, h3⟩
    exact ⟨h1, fun hz => h3 z hz z (by simp) rfl⟩
  · rintro ⟨h1, h2⟩
    refine ⟨h1, by simp, fun a ha b hb e => ?_⟩
    rw [List.mem_singleton] at hb
    rw [hb] at e
    rw [e] at ha
    exact h2 ha
theorem listOkTo_iff (l : List ByteArray) : ∀ k, k ≤ l.length → (listOkTo l k = true ↔ (∀ z ∈ l.take k, keyOk z = true) ∧ (l.take k).Nodup)
  | 0, _ => by simp [listOkTo]
  | k + 1, hk => by
    have ih := listOkTo_iff l k (by omega)
    have hlt : k < l.length := by omega
    have hg : l.getD k noKey = l[k] := by simp [List.getD_eq_getElem?_getD, hlt]
    have e : listOkTo l (k + 1) = (listOkTo l k && (keyOk l[k] && !inL (l.take k) l[k])) := by
      unfold listOkTo
      rw [List.range_succ, List.all_append]
      simp only [List.all_cons, List.all_nil, Bool.and_true, hg]
    rw [e, Bool.and_eq_true, ih, Bool.and_eq_true, Bool.not_eq_true', inL_false, List.take_succ_eq_append_getElem hlt, nodup_snoc]
    constructor
    · rintro ⟨⟨h1, h2⟩, h3, h4⟩
      refine ⟨fun z hz => ?_, h2, h4⟩
      rcases List.mem_append.1 hz with hz | hz
      · exact h1 z hz
      · rw [List.mem_singleton.1 hz]; exact h3
    · rintro ⟨h1, h2, h3⟩
      exact ⟨⟨fun z hz => h1 z (List.mem_append_left _ hz), h2⟩, h1 _ (List.mem_append_right _ (List.mem_singleton.2 rfl)), h3⟩
theorem listOk_iff {l : List ByteArray} : listOk l = true ↔ (∀ z ∈ l, keyOk z = true) ∧ l.Nodup := by
  have := listOkTo_iff l l.length (Nat.le_refl _)
  rw [List.take_length] at this
  exact this
theorem okP_iff {P : Pol} : okP P = true ↔ (∀ z ∈ P.win, keyOk z = true) ∧ (∀ z ∈ P.main, keyOk z = true) ∧ P.win.Nodup ∧ P.main.Nodup ∧ (∀ z ∈ P.win, z ∉ P.main) ∧ P.win.length ≤ 2 ∧ P.main.length ≤ 4 ∧ okK P.sk = true := by
  unfold okP
  simp only [Bool.and_eq_true, decide_eq_true_eq]
  rw [listOk_iff, List.nodup_append]
  constructor
  · rintro ⟨⟨h1, h2, h3, h4⟩, ⟨h5, h6⟩, h7⟩
    exact ⟨fun z hz => h1 z (List.mem_append_left _ hz), fun z hz => h1 z (List.mem_append_right _ hz), h2, h3, fun z hz hm => h4 z hz z hm rfl, h5, h6, h7⟩
  · rintro ⟨h1, h2, h3, h4, h5, h6, h7, h8⟩
    refine ⟨⟨fun z hz => ?_, h3, h4, fun a ha b hb e => h5 a ha (by rw [e]; exact hb)⟩, ⟨h6, h7⟩, h8⟩
    rcases List.mem_append.1 hz with hz | hz
    · exact h1 z hz
    · exact h2 z hz
theorem newP_ok : okP newP = true := by
  rw [okP_iff]
  exact ⟨by simp [newP], by simp [newP], by simp [newP], by simp [newP], by simp [newP], by simp [newP], by simp [newP], newS_ok⟩
theorem without_length {l : List ByteArray} {s : ByteArray} (h : l.Nodup) (hs : s ∈ l) : (without l s).length + 1 = l.length := by
  induction l with
  | nil => simp at hs
  | cons a r ih =>
    rw [List.nodup_cons] at h
    by_cases e : a = s
    · subst e
      have hn : without r a = r := without_none h.1
      have : without (a :: r) a = without r a := by simp [without]
      rw [this, hn]
      simp
    · have hr : s ∈ r := by
        rcases List.mem_cons.1 hs with h1 | h1
        · exact absurd h1.symm e
        · exact h1
      have : without (a :: r) s = a :: without r s := by simp [without, e]
      rw [this, List.length_cons, List.length_cons, ih h.2 hr]
theorem without_nodup {l : List ByteArray} {s : ByteArray} (h : l.Nodup) : (without l s).Nodup := h.filter _
theorem keyOk_ne {z : ByteArray} (h : keyOk z = true) : z ≠ noKey := by
  rintro rfl
  simp [keyOk, noKey, ByteArray.size] at h
/-- Who is dropped is not there. -/
theorem dropP_has (P : Pol) (key : ByteArray) : hasP (dropP P key) key = false := by
  unfold hasP dropP
  rw [inL_false.2 (fun h => (without_mem.1 h).2 rfl), inL_false.2 (fun h => (without_mem.1 h).2 rfl)]
  rfl
end Go.Proofs.YtcaakommnglnbaaGreatDoor

namespace Go.Proofs.YtcaakommnglnbaaGreatDoor
open Go.RowKit

/-- The slice value v owns the cells xs. -/
def OwnV (w : World) (base : Nat) (e : TypeId) (v : Value) (xs : List Value) : Prop := w.ownsRow base e 1 v xs.length xs

theorem OwnV.alloc {w : World} {base : Nat} {e : TypeId} {v : Value} {xs : List Value} (h : OwnV w base e v xs) (o : Obj) : OwnV (w.alloc o) base e v xs := World.ownsRow.alloc h o
theorem OwnV.lt {w : World} {base : Nat} {e : TypeId} {v : Value} {xs : List Value} (h : OwnV w base e v xs) (k : Nat) (hk : v.ownBlock = some k) : base ≤ k ∧ k < w.heap.size := World.ownsRow.lt h k hk
theorem OwnV.mono {w : World} {base base' : Nat} {e : TypeId} {v : Value} {xs : List Value} (h : OwnV w base e v xs) (hb : base' ≤ base) : OwnV w base' e v xs := by
  refine ⟨h.1, ?_⟩
  rcases h.2 with h | ⟨g, cap, cur, hv, hg, rest⟩
  · exact .inl h
  · exact .inr ⟨g, cap, cur, hv, Nat.le_trans hb hg, rest⟩

/-- It stays owned where its block is as it was. -/
theorem OwnV.kept {w w' : World} {base : Nat} {e : TypeId} {v : Value} {xs : List Value} (h : OwnV w base e v xs) (hk : ∀ k, v.ownBlock = some k → w'.heap[k]? = w.heap[k]?) : OwnV w' base e v xs := by
  refine ⟨h.1, ?_⟩
  rcases h.2 with hn | ⟨g, cap, cur, rfl, hb, hg, rest⟩
  · exact .inl hn
  · exact .inr ⟨g, cap, cur, rfl, hb, by rw [hk g rfl]; exact hg, rest⟩
theorem OwnV.below {w w' : World} {B base : Nat} {e : TypeId} {v : Value} {xs : List Value} (h : OwnV w base e v xs) (hb : Below B w w') (hB : w.heap.size ≤ B) : OwnV w' base e v xs :=
  h.kept fun k hk => hb.block k (Nat.lt_of_lt_of_le (h.lt k hk).2 hB)
theorem OwnV.grown {w w' : World} {row : Option Nat} {base : Nat} {e : TypeId} {v : Value} {xs : List Value} (h : OwnV w base e v xs) (hb : w.grownBy w' row) (hne : ∀ k, v.ownBlock = some k → row ≠ some k) : OwnV w' base e v xs :=
  h.kept fun k hk => hb.block k (h.lt k hk).2 (fun e => hne k hk e.symm)

/-- What it looks like, cell by cell. -/
theorem OwnV.shape {w : World} {base : Nat} {e : TypeId} {v : Value} {xs : List Value} (h : OwnV w base e v xs) :
    ∃ a cap, v = .slice a xs.length cap ∧ ∀ j (hj : j < xs.length), ∃ g, a = some ⟨g, 0, none⟩ ∧ w.cell? ⟨g, j, none⟩ = some xs[j] ∧ w.frozen? ⟨g, j, none⟩ = false ∧ base ≤ g ∧ g < w.heap.size := by
  have h0 := h
  rcases h.2 with ⟨rfl, hn⟩ | ⟨g, cap, cur, rfl, hb, hg, rest⟩
  · have hx : xs = [] := List.length_eq_zero_iff.1 hn
    subst hx
    exact ⟨none, 0, rfl, fun j hj => by simp at hj⟩
  · refine ⟨_, _, rfl, fun j hj => ⟨g, rfl, ?_, World.ownsRow.frozenAt h0 j, hb, (Array.getElem?_eq_some_iff.1 hg).1⟩⟩
    rw [World.ownsRow.cellAt h0 j (by omega), List.getElem?_eq_getElem hj]

theorem OwnV.nil (w : World) (base : Nat) (e : TypeId) : OwnV w base e (.slice none 0 0) [] := World.ownsRow_nil w base e 1
theorem OwnV.none_len {w : World} {base : Nat} {e : TypeId} {xs : List Value} (h : OwnV w base e (.slice none 0 0) xs) : xs = [] := by
  rcases h.2 with ⟨_, hn⟩ | ⟨g, cap, cur, hv, _⟩
  · exact List.length_eq_zero_iff.1 hn
  · simp at hv

/-- A store into it. -/
theorem OwnV.stored {w : World} {base : Nat} {e : TypeId} {g n cap : Nat} {xs : List Value} (h : OwnV w base e (.slice (some ⟨g, 0, none⟩) n cap) xs) (hn : n = xs.length) (j : Nat) (u : Value) :
    OwnV (w.setCell ⟨g, j, none⟩ u) base e (.slice (some ⟨g, 0, none⟩) n cap) (xs.set j u) ∧ w.grownBy (w.setCell ⟨g, j, none⟩ u) (some g) := by
  subst hn
  have := World.ownsRow.stored h j u
  refine ⟨?_, this.2⟩
  unfold OwnV
  rw [List.length_set]
  exact this.1

theorem grownBy_refl (w : World) (row : Option Nat) : w.grownBy w row := ⟨rfl, rfl, rfl, Nat.le_refl _, fun _ _ _ => rfl⟩
theorem grownBy_trans {a b c : World} {row : Option Nat} (h : a.grownBy b row) (k : b.grownBy c row) : a.grownBy c row :=
  ⟨k.os.trans h.os, k.tape.trans h.tape, k.output.trans h.output, Nat.le_trans h.size k.size, fun j hj hr => (k.block j (Nat.lt_of_lt_of_le hj h.size) hr).trans (h.block j hj hr)⟩
theorem grownBy_below {a b : World} {row : Option Nat} (h : Below a.heap.size a b) : a.grownBy b row := ⟨h.os, h.tape, h.output, h.size, fun j hj _ => h.block j hj⟩

/-- 'append(v, x)' of one value onto a row that is owned. -/
theorem wpList_snocV {P : Program} {ops : Array Oper} {rest : List Oper} {o : Oper} {a : Act} {Q : Exit → Act → World → Prop} {wr : World} (hgd : o.guard = none) (s x : Operand) (t : TypeId)
    (ho : o.op = .call { callee := .builtin .append, args := #[s, x], argTypes := #[t, t] }) (base : Nat) (e : TypeId) (ht : P.underlying t = some (.slice e)) (z : Value) (bytes : Nat)
    (hinfo : (P.info? e).map (fun i => (i.zero, i.size, i.bytes)) = some (some z, 1, bytes)) (hz : z.cells.size = 1) (v : Value) (xs : List Value) (hs : a.eval s = v) (hown : OwnV wr base e v xs)
    (y : Value) (hx : a.eval x = .slice (some ⟨wr.heap.size, 0, none⟩) 1 1) (hy : y.oneCell' = true) (hlen : (xs.length + 1) * bytes ≤ 140737488355328) (hlen2 : xs.length < 140737488355328) (hbase : base ≤ wr.heap.size)
    (h : ∀ v' w', OwnV w' base e v' (xs ++ [y]) → v' ≠ .slice none 0 0 → (∀ w0, Below base w0 wr → Below base w0 w') → wr.heap.size ≤ w'.heap.size → wpList P ops Q rest (a.put o.dst v') w') :
    wpList P ops Q (o :: rest) a (wr.alloc (.cells #[y] e)) := by
  obtain ⟨i0, hi, hz0, hz1, hz2⟩ := info_parts hinfo
  refine wpList_append_own _ hgd s x t ho base e i0 z 1 bytes ht hi hz0 hz1 hz2 hz (by decide) v xs.length xs hs (World.ownsRow.alloc hown _) ⟨wr.heap.size, 0, none⟩ 1 1 [y] hx rfl ?_ ?_ ?_ ?_ ?_ ?_
  · intro j u hj
    match j, hj with
    | 0, hj => simp at hj; subst hj; simp [Addr.add]
  · intro u hu; simp at hu; subst hu; exact hy
  · unfold maxLen; omega
  · exact hlen
  · simp; omega
  · intro v' w' h1 h2 h3
    refine h v' w' ?_ (fun hn => by have := h3.1 hn; omega) (fun w0 hb => ?_) ?_
    · unfold OwnV; simpa using h1
    · exact Below.grown (hb.alloc hbase _) h2 (by simp; omega) (fun k hk => (World.ownsRow.lt hown k hk).1)
    · have := h2.size; simp at this; omega

/-- Texts as cells. -/
def strs (l : List ByteArray) : List Value := l.map Value.string
theorem strs_length (l : List ByteArray) : (strs l).length = l.length := by simp [strs]
theorem strs_append (l m : List ByteArray) : strs (l ++ m) = strs l ++ strs m := by simp [strs]
theorem strs_at {l : List ByteArray} {j : Nat} (h : j < l.length) : (strs l)[j]'(by rw [strs_length]; exact h) = .string l[j] := by simp [strs]
/-- Integers as cells. -/
def ints (l : List Int) : List Value := l.map (Value.int .i64)
theorem ints_length (l : List Int) : (ints l).length = l.length := by simp [ints]
theorem ints_at {l : List Int} {j : Nat} (h : j < l.length) : (ints l)[j]'(by rw [ints_length]; exact h) = .int .i64 l[j] := by simp [ints]
end Go.Proofs.YtcaakommnglnbaaGreatDoor
