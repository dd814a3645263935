/- Texts that stand in one: Strs, PolKit, MarkInts, SkLaw. -/
import Derived.Test.YtcaakommnglnbaaGreatDoorBaseJ
import Derived.Test.YtcaakommnglnbaaGreatDoorIntsJ
import Derived.Lib.QuietBelow
import Derived.BigQuiet
namespace Go.Proofs.YtcaakommnglnbaaGreatDoor
open Go.RowKit
/-- The texts L lie at the address a, below the block B. -/
def LAt (w : World) (a : Option Addr) (L : List ByteArray) (B : Nat) : Prop :=
  ∀ j (hj : j < L.length), ∃ g off, a = some ⟨g, off, none⟩ ∧ g < B ∧ w.cell? ⟨g, off + j, none⟩ = some (.string L[j])
theorem LAt.below {w w' : World} {a : Option Addr} {L : List ByteArray} {B B' : Nat} (h : LAt w a L B) (hb : Below B' w w') (hB : B ≤ B') : LAt w' a L B := by
  intro j hj
  obtain ⟨g, off, ha, hg, h1⟩ := h j hj
  exact ⟨g, off, ha, hg, (hb.cell (Nat.lt_of_lt_of_le hg hB)).trans h1⟩
theorem LAt.mono {w : World} {a : Option Addr} {L : List ByteArray} {B B' : Nat} (h : LAt w a L B) (hB : B ≤ B') : LAt w a L B' := by
  intro j hj
  obtain ⟨g, off, ha, hg, r⟩ := h j hj
  exact ⟨g, off, ha, Nat.lt_of_lt_of_le hg hB, r⟩
theorem LAt.on {w w' : World} {a : Option Addr} {L : List ByteArray} (h : LAt w a L w.heap.size) (hb : Below w.heap.size w w') : LAt w' a L w'.heap.size := (h.below hb (Nat.le_refl _)).mono hb.size
theorem OwnV.strsAt {w : World} {base : Nat} {e : TypeId} {v : Value} {L : List ByteArray} (h : OwnV w base e v (strs L)) : ∃ a cap, v = .slice a L.length cap ∧ LAt w a L w.heap.size := by
  obtain ⟨a, cap, hv, hc⟩ := h.shape
  rw [strs_length] at hv
  refine ⟨a, cap, hv, fun j hj => ?_⟩
  obtain ⟨g, ha, hcell, _, _, hg⟩ := hc j (by rw [strs_length]; exact hj)
  rw [strs_at hj] at hcell
  exact ⟨g, 0, ha, hg, by simpa using hcell⟩
end Go.Proofs.YtcaakommnglnbaaGreatDoor

namespace Go.Proofs.YtcaakommnglnbaaGreatDoor
open Go.RowKit

/-- A policy in a variable. -/
def PBox (w : World) (T : Nat) (a b c d : Value) : Prop := w.heap[T]? = some (.cells #[a, b, c, d] 37 (0, 0))
theorem PBox.lt {w : World} {T : Nat} {a b c d : Value} (h : PBox w T a b c d) : T < w.heap.size := (Array.getElem?_eq_some_iff.1 h).1
theorem PBox.new (w : World) (a b c d : Value) : PBox (w.alloc (.cells #[a, b, c, d] 37)) w.heap.size a b c d := heap_alloc_new w _
theorem PBox.kept {w w' : World} {T : Nat} {a b c d : Value} (h : PBox w T a b c d) (hk : w'.heap[T]? = w.heap[T]?) : PBox w' T a b c d := hk.trans h
theorem PBox.on {w w' : World} {T : Nat} {a b c d : Value} (h : PBox w T a b c d) (hb : Below w.heap.size w w') : PBox w' T a b c d := h.kept (hb.block T h.lt)
theorem PBox.thaw {w : World} {T : Nat} {a b c d : Value} (h : PBox w T a b c d) (i : Nat) : w.frozen? ⟨T, i, none⟩ = false := by
  unfold PBox at h
  simp [World.frozen?, h]
theorem PBox.cells {w : World} {T : Nat} {a b c d : Value} (h : PBox w T a b c d) : w.cell? ⟨T, 0, none⟩ = some a ∧ w.cell? ⟨T, 1, none⟩ = some b ∧ w.cell? ⟨T, 2, none⟩ = some c ∧ w.cell? ⟨T, 3, none⟩ = some d := by
  unfold PBox at h
  refine ⟨?_, ?_, ?_, ?_⟩
  · rw [cell_of_row w T 0 _ _ (0, 0) h]; rfl
  · rw [cell_of_row w T 1 _ _ (0, 0) h]; rfl
  · rw [cell_of_row w T 2 _ _ (0, 0) h]; rfl
  · rw [cell_of_row w T 3 _ _ (0, 0) h]; rfl
theorem PBox.set0 {w : World} {T : Nat} {a b c d : Value} (h : PBox w T a b c d) (x : Value) : PBox (w.setCell ⟨T, 0, none⟩ x) T x b c d := by
  unfold PBox at *
  simp only [World.setCell, Array.getElem?_modify, h]
  simp
theorem PBox.set1 {w : World} {T : Nat} {a b c d : Value} (h : PBox w T a b c d) (x : Value) : PBox (w.setCell ⟨T, 1, none⟩ x) T a x c d := by
  unfold PBox at *
  simp only [World.setCell, Array.getElem?_modify, h]
  simp
theorem PBox.set2 {w : World} {T : Nat} {a b c d : Value} (h : PBox w T a b c d) (x : Value) : PBox (w.setCell ⟨T, 2, none⟩ x) T a b x d := by
  unfold PBox at *
  simp only [World.setCell, Array.getElem?_modify, h]
  simp
theorem PBox.set3 {w : World} {T : Nat} {a b c d : Value} (h : PBox w T a b c d) (x : Value) : PBox (w.setCell ⟨T, 3, none⟩ x) T a b c x := by
  unfold PBox at *
  simp only [World.setCell, Array.getElem?_modify, h]
  simp
/-- Four cells of a variable are stored. -/
def put4 (w : World) (T : Nat) (x y z u : Value) : World := (((w.setCell ⟨T, 0, none⟩ x).setCell ⟨T, 1, none⟩ y).setCell ⟨T, 2, none⟩ z).setCell ⟨T, 3, none⟩ u
theorem PBox.put {w : World} {T : Nat} {a b c d : Value} (h : PBox w T a b c d) (x y z u : Value) : PBox ((((w.setCell ⟨T, 0, none⟩ x).setCell ⟨T, 1, none⟩ y).setCell ⟨T, 2, none⟩ z).setCell ⟨T, 3, none⟩ u) T x y z u := (((h.set0 x).set1 y).set2 z).set3 u
theorem put4_other (w : World) (T : Nat) (x y z u : Value) (k : Nat) (hk : k ≠ T) : ((((w.setCell ⟨T, 0, none⟩ x).setCell ⟨T, 1, none⟩ y).setCell ⟨T, 2, none⟩ z).setCell ⟨T, 3, none⟩ u).heap[k]? = w.heap[k]? := by
  rw [Below.heap_setCell _ _ _ _ (by exact hk), Below.heap_setCell _ _ _ _ (by exact hk), Below.heap_setCell _ _ _ _ (by exact hk), Below.heap_setCell _ _ _ _ (by exact hk)]
theorem Below.put4 {B : Nat} {a w : World} (h : Below B a w) {T : Nat} (hT : B ≤ T) (x y z u : Value) : Below B a ((((w.setCell ⟨T, 0, none⟩ x).setCell ⟨T, 1, none⟩ y).setCell ⟨T, 2, none⟩ z).setCell ⟨T, 3, none⟩ u) := (((h.setCell hT x).setCell hT y).setCell hT z).setCell hT u
theorem PBox.far {w : World} {T T' : Nat} {a b c d : Value} (h : PBox w T a b c d) (i : Nat) (x : Value) (hn : T ≠ T') : PBox (w.setCell ⟨T', i, none⟩ x) T a b c d := h.kept (Below.heap_setCell _ _ _ _ (by exact hn))

/-- The policy P lies in memory. -/
def PolAt (w : World) (aw am ak : Option Addr) (P : Pol) (B : Nat) : Prop := LAt w aw P.win B ∧ LAt w am P.main B ∧ SSAt w ak P.sk.rows B
theorem PolAt.on {w w' : World} {aw am ak : Option Addr} {P : Pol} (h : PolAt w aw am ak P w.heap.size) (hb : Below w.heap.size w w') : PolAt w' aw am ak P w'.heap.size := ⟨h.1.on hb, h.2.1.on hb, h.2.2.on hb⟩
theorem PolAt.below {w w' : World} {aw am ak : Option Addr} {P : Pol} {B B' : Nat} (h : PolAt w aw am ak P B) (hb : Below B' w w') (hB : B ≤ B') : PolAt w' aw am ak P B := ⟨h.1.below hb hB, h.2.1.below hb hB, h.2.2.below hb hB⟩
/-- The value v owns the policy P: its lists and rows, each in a block of its own from lo on, below hi. -/
def POwn (w : World) (lo hi : Nat) (v : Value) (P : Pol) : Prop :=
  ∃ v1 v2 v3, v = .agg #[v1, v2, v3, .int .i64 P.sk.added] ∧ OwnV w lo 9 v1 (strs P.win) ∧ OwnV w lo 9 v2 (strs P.main) ∧ (∀ k, v1.ownBlock = some k → k < hi ∧ v2.ownBlock ≠ some k) ∧ (∀ k, v2.ownBlock = some k → k < hi) ∧ OwnSS w lo hi v3 P.sk.rows
theorem POwn.at {w : World} {lo hi : Nat} {v : Value} {P : Pol} (h : POwn w lo hi v P) : ∃ aw cw am cm ak cs, v = .agg #[.slice aw P.win.length cw, .slice am P.main.length cm, .slice ak P.sk.rows.length cs, .int .i64 P.sk.added] ∧ PolAt w aw am ak P w.heap.size := by
  obtain ⟨v1, v2, v3, rfl, h1, h2, _, _, h3⟩ := h
  obtain ⟨aw, cw, rfl, hw⟩ := h1.strsAt
  obtain ⟨am, cm, rfl, hm⟩ := h2.strsAt
  obtain ⟨ak, cs, rfl, hs⟩ := h3.at
  exact ⟨aw, cw, am, cm, ak, cs, rfl, hw, hm, hs⟩
theorem POwn.mono {w : World} {lo hi lo' hi' : Nat} {v : Value} {P : Pol} (h : POwn w lo hi v P) (h1 : lo' ≤ lo) (h2 : hi ≤ hi') : POwn w lo' hi' v P := by
  obtain ⟨v1, v2, v3, rfl, a1, a2, a3, a4, a5⟩ := h
  exact ⟨v1, v2, v3, rfl, a1.mono h1, a2.mono h1, fun k hk => ⟨Nat.lt_of_lt_of_le (a3 k hk).1 h2, (a3 k hk).2⟩, fun k hk => Nat.lt_of_lt_of_le (a4 k hk) h2, a5.mono h1 h2⟩
theorem POwn.up {w : World} {lo hi : Nat} {v : Value} {P : Pol} (h : POwn w lo hi v P) : POwn w lo w.heap.size v P := by
  obtain ⟨v1, v2, v3, rfl, a1, a2, a3, a4, a5⟩ := h
  exact ⟨v1, v2, v3, rfl, a1, a2, fun k hk => ⟨(a1.lt k hk).2, (a3 k hk).2⟩, fun k hk => (a2.lt k hk).2, a5.up⟩
theorem ownV_type {w : World} {lo : Nat} {e : TypeId} {u : Value} {xs : List Value} (ho : OwnV w lo e u xs) : ∀ k, u.ownBlock = some k → ∃ cs, w.heap[k]? = some (.cells cs e (0, 0)) := by
  intro k hk
  rcases ho.2 with ⟨rfl, _⟩ | ⟨g, cap, cur, rfl, _, hg, _⟩
  · simp [Value.ownBlock] at hk
  · simp [Value.ownBlock] at hk
    subst hk
    exact ⟨_, hg⟩
/-- It stays where its blocks are as they were. -/
theorem POwn.kept {w w' : World} {lo hi : Nat} {v : Value} {P : Pol} (h : POwn w lo hi v P) (hk : ∀ k, lo ≤ k → k < hi → k < w.heap.size → (∀ c, w.heap[k]? = some c → ∃ cs e, c = .cells cs e (0, 0) ∧ e ≠ 37) → w'.heap[k]? = w.heap[k]?) : POwn w' lo hi v P := by
  obtain ⟨v1, v2, v3, rfl, a1, a2, a3, a4, a5⟩ := h
  refine ⟨v1, v2, v3, rfl, a1.kept fun k hk' => hk k (a1.lt k hk').1 (a3 k hk').1 (a1.lt k hk').2 fun c hc => ?_, a2.kept fun k hk' => hk k (a2.lt k hk').1 (a4 k hk') (a2.lt k hk').2 fun c hc => ?_, a3, a4, a5.kept fun k h1 h2 h3 h4 => hk k h1 h2 h3 fun c hc => ?_⟩
  · obtain ⟨cs, e⟩ := ownV_type a1 k hk'
    rw [e] at hc
    exact ⟨cs, 9, (Option.some.inj hc).symm, by decide⟩
  · obtain ⟨cs, e⟩ := ownV_type a2 k hk'
    rw [e] at hc
    exact ⟨cs, 9, (Option.some.inj hc).symm, by decide⟩
  · rcases h4 c hc with ⟨cs, e⟩ | ⟨cs, e⟩
    · exact ⟨cs, _, e, by decide⟩
    · exact ⟨cs, _, e, by decide⟩
theorem POwn.below {w w' : World} {B lo hi : Nat} {v : Value} {P : Pol} (h : POwn w lo hi v P) (hb : Below B w w') (hB : w.heap.size ≤ B) : POwn w' lo hi v P := h.kept fun k _ _ hk _ => hb.block k (Nat.lt_of_lt_of_le hk hB)
theorem POwn.tch {S : Nat → Prop} {w w' : World} {lo hi : Nat} {v : Value} {P : Pol} (h : POwn w lo hi v P) (ht : Tch S w w') (hn : ∀ k, S k → k < lo ∨ hi ≤ k) : POwn w' lo hi v P := h.kept fun k h1 h2 hk _ => ht.2 k hk (fun e => by have := hn k e; omega)
/-- A variable's block is none of its own. -/
theorem POwn.box {w w' : World} {lo hi T : Nat} {a b c d v : Value} {P : Pol} (h : POwn w lo hi v P) (hB : PBox w T a b c d) (hk : ∀ k, k ≠ T → w'.heap[k]? = w.heap[k]?) : POwn w' lo hi v P :=
  h.kept fun k _ _ _ hty => hk k (fun e => by
    subst e
    obtain ⟨cs, e, h1, h2⟩ := hty _ hB
    simp only [Obj.cells.injEq] at h1
    exact h2 h1.2.1.symm)
theorem POwn.put4 {w : World} {lo hi T : Nat} {a b c d v : Value} {P : Pol} (h : POwn w lo hi v P) (hB : PBox w T a b c d) (x y z u : Value) : POwn ((((w.setCell ⟨T, 0, none⟩ x).setCell ⟨T, 1, none⟩ y).setCell ⟨T, 2, none⟩ z).setCell ⟨T, 3, none⟩ u) lo hi v P := h.box hB fun k hk => put4_other w T x y z u k hk
end Go.Proofs.YtcaakommnglnbaaGreatDoor

namespace Go.Proofs.YtcaakommnglnbaaGreatDoor
open Go.RowKit Go.Sort

/-- The first n numbers are k, k + 1, .. -/
def Marked (k : Nat) (m : List Int) (n : Nat) : Prop := ∀ i, i < n → m[i]? = some ((k + i : Nat) : Int)

set_option maxHeartbeats 1000000 in
theorem markI_any (w : World) (base : Nat) (v : Value) (l : List Int) (k : Nat) (hown : OwnV w base 3 v (ints l)) (hl : l.length ≤ 1048576) (hk1 : k ≤ 100000000) :
    Calls Tryz.prog 109 #[v, .int .i64 k] w fun e w' => e = .returned (.int .i64 ((k + l.length : Nat) : Int)) ∧ (∃ m, m.length = l.length ∧ Marked k m l.length ∧ OwnV w' base 3 v (ints m)) ∧ w.grownBy w' v.ownBlock := by
  obtain ⟨a, cap, rfl, _⟩ := hown.shape
  rw [ints_length] at hown ⊢
  go_enter Tryz.func109, Tryz.ntmps109
  go_wp2
  go_loopw [1, 5] (fun n i wr => Box (∃ (j : Nat) (m : List Int), Hid (m.length = l.length) ∧ Hid (Marked k m j) ∧ j ≤ l.length ∧ i = .int .i64 j ∧ n = .int .i64 ((k + j : Nat) : Int) ∧ OwnV wr base 3 (.slice a l.length cap) (ints m) ∧ w.grownBy wr (Value.slice a l.length cap).ownBlock))
    (fun _ i _ => l.length - (intOf i).toNat)
  case atStart => exact ⟨⟨0, l, rfl, fun i h => by omega, by omega, rfl, rfl, hown, grownBy_refl _ _⟩⟩
  case round =>
    obtain ⟨j, m, HL, HM, hj, rfl, rfl, hown1, hgr⟩ := hrel.out
    by_cases hlt : j < l.length
    · have hjm : j < (ints m).length := by rw [ints_length, HL.out]; exact hlt
      obtain ⟨a', cap', hv, hc⟩ := hown1.shape
      obtain ⟨g, hg, hcell, hfr, hbg, hgs⟩ := hc j hjm
      rw [hg] at hv
      have ha : a = some ⟨g, 0, none⟩ := by simp only [Value.slice.injEq] at hv; exact hv.1
      subst ha
      have hst := hown1.stored (by rw [ints_length, HL.out]) j (.int .i64 ((k : Int) + (j : Int)))
      have he : (ints m).set j (.int .i64 ((k : Int) + (j : Int))) = ints (m.set j ((k : Int) + (j : Int))) := by simp [ints, List.map_set]
      rw [he] at hst
      have HX : Hid (OwnV (wr.setCell ⟨g, j, none⟩ (.int .i64 ((k : Int) + (j : Int)))) base 3 (.slice (some ⟨g, 0, none⟩) l.length cap) (ints (m.set j ((k : Int) + (j : Int)))) ∧ w.grownBy (wr.setCell ⟨g, j, none⟩ (.int .i64 ((k : Int) + (j : Int)))) (Value.slice (some ⟨g, 0, none⟩) l.length cap).ownBlock) := ⟨hst.1, grownBy_trans hgr hst.2⟩
      have HN : Hid (Marked k (m.set j ((k : Int) + (j : Int))) (j + 1)) := by
        intro i hi
        by_cases hij : j = i
        · subst hij
          have hjl : j < m.length := by rw [HL.out]; exact hlt
          simp [hjl]
        · rw [List.getElem?_set_ne hij]
          exact HM.out i (by omega)
      obtain ⟨u, hu⟩ : ∃ u, (ints m)[j] = u := ⟨_, rfl⟩
      rw [hu] at hcell
      clear hown1 hgr hc hv hg hown hst hrel hu he
      have hi1 : (0 : Int) ≤ (j : Int) := by omega
      have hi2 : (j : Int) < (l.length : Int) := by omega
      go_wp2
      go_roundw
      case rel =>
        try ((repeat apply Exists.intro); refine ⟨?_, rfl⟩)
        exact ⟨⟨j + 1, _, (by show _ = _; rw [List.length_set]; exact HL.out), HN, by omega, by go_num, by go_num, HX.out.1, HX.out.2⟩⟩
      case measure => simp [intOf]; omega
    · go_wp2
      go_ret
      have hje : j = l.length := by omega
      subst hje
      exact ⟨rfl, ⟨m, HL.out, HM.out, hown1⟩, hgr⟩

set_option maxHeartbeats 1000000 in
theorem heldI_any (w : World) (base : Nat) (v : Value) (m : List Int) (n k : Nat) (hn : m.length = n) (hown : OwnV w base 3 v (ints m)) (hM : Marked k m n) (hl : n ≤ 1048576) (hk1 : k ≤ 100000000) :
    Calls Tryz.prog 110 #[v, .int .i64 k] w fun e w' => e = .returned (.int .i64 ((k + n : Nat) : Int)) ∧ w' = w := by
  obtain ⟨a, cap, rfl, hc⟩ := hown.shape
  rw [ints_length, hn]
  go_enter Tryz.func110, Tryz.ntmps110
  go_wp2
  go_loopw [1, 5] (fun m i wr => Box (∃ (j : Nat), j ≤ n ∧ i = .int .i64 j ∧ m = .int .i64 ((k + j : Nat) : Int) ∧ w = wr))
    (fun _ i _ => n - (intOf i).toNat)
  case atStart => exact ⟨⟨0, by omega, rfl, rfl, rfl⟩⟩
  case round =>
    obtain ⟨j, hj, rfl, rfl, rfl⟩ := hrel.out
    by_cases hlt : j < n
    · have hjm : j < m.length := by omega
      obtain ⟨g, rfl, hcell, _, _, hgs⟩ := hc j (by rw [ints_length]; exact hjm)
      have hmj : m[j] = ((k + j : Nat) : Int) := by
        have := hM j hlt
        rw [List.getElem?_eq_getElem hjm] at this
        exact Option.some.inj this
      rw [ints_at hjm, hmj] at hcell
      simp only [Int.natCast_add] at hcell
      clear hc hown hM hmj hjm hn hrel
      have hi1 : (0 : Int) ≤ (j : Int) := by omega
      have hi2 : (j : Int) < (n : Int) := by omega
      go_wp2
      go_roundw
      case rel =>
        try ((repeat apply Exists.intro); refine ⟨?_, rfl⟩)
        exact ⟨⟨j + 1, by omega, by go_num, by go_num, by first | rfl | trivial⟩⟩
      case measure => simp [intOf]; omega
    · go_wp2
      go_ret
      exact ⟨ret_int (by omega), rfl⟩
end Go.Proofs.YtcaakommnglnbaaGreatDoor

namespace Go.Proofs.YtcaakommnglnbaaGreatDoor
open Go.RowKit Go.Sort

/-- How many numbers the first j rows have. -/
def tot (LL : List (List Int)) (j : Nat) : Nat := ((LL.take j).map List.length).sum
theorem tot_zero (LL : List (List Int)) : tot LL 0 = 0 := by simp [tot]
theorem tot_succ (LL : List (List Int)) (j : Nat) (hj : j < LL.length) : tot LL (j + 1) = tot LL j + LL[j].length := by
  unfold tot
  rw [List.take_succ_eq_append_getElem hj, List.map_append, List.sum_append]
  simp only [List.map_cons, List.map_nil, List.sum_cons, List.sum_nil, Nat.add_zero]
theorem tot_mono (LL : List (List Int)) (j : Nat) : ∀ n, j ≤ n → n ≤ LL.length → tot LL j ≤ tot LL n
  | 0, h, _ => by rw [show j = 0 by omega]; exact Nat.le_refl _
  | n + 1, h, hn => by
    by_cases e : j = n + 1
    · rw [e]; exact Nat.le_refl _
    · have := tot_mono LL j n (by omega) (by omega)
      rw [tot_succ LL n (by omega)]
      omega
theorem tot_at (LL : List (List Int)) (j : Nat) (hj : j < LL.length) : tot LL j + LL[j].length ≤ tot LL LL.length := by
  rw [← tot_succ LL j hj]
  exact tot_mono LL (j + 1) _ (by omega) (Nat.le_refl _)
theorem tot_same {LL MM : List (List Int)} (h : LL.map List.length = MM.map List.length) (j : Nat) : tot LL j = tot MM j := by
  unfold tot
  rw [List.map_take, List.map_take, h]
theorem fill_set {α : Type} (LL : List α) (z : α) (k : Nat) (hk : k < LL.length) : (LL.take k ++ List.replicate (LL.length - k) z).set k LL[k] = LL.take (k + 1) ++ List.replicate (LL.length - (k + 1)) z := by
  rw [List.set_append_right _ _ (by rw [List.length_take]; omega), List.length_take, show k - min k LL.length = 0 by omega, show LL.length - k = (LL.length - (k + 1)) + 1 by omega, List.replicate_succ, List.set_cons_zero, List.take_succ_eq_append_getElem hk, List.append_assoc]
  rfl
theorem Tryz.infoIntS : (Tryz.prog.info? 139).map (fun i => (i.zero, i.size, i.bytes)) = some (some (.slice none 0 0), 1, 24) := by kernel_rfl
/-- Rows that are made and hold nothing yet. -/
theorem OwnSS.made {w : World} {lo n : Nat} {v : Value} (h : OwnV w lo 139 v (List.replicate n (.slice none 0 0))) : OwnSS w lo w.heap.size v (List.replicate n []) := by
  refine ⟨_, h, fun k hk => (h.lt k hk).2, by simp, fun i u l hu hl => ?_, fun i j u u' k hu hu' h1 => ?_⟩
  · obtain ⟨_, rfl⟩ := List.getElem?_eq_some_iff.1 hu
    obtain ⟨_, rfl⟩ := List.getElem?_eq_some_iff.1 hl
    simp only [List.getElem_replicate]
    exact ⟨OwnV.nil _ _ _, fun k hk => by simp [Value.ownBlock] at hk⟩
  · obtain ⟨_, rfl⟩ := List.getElem?_eq_some_iff.1 hu
    simp [Value.ownBlock] at h1

theorem szIntS_sk (w : World) (a : Option Addr) (cap n : Nat) (left : Int) (h0 : 0 ≤ left) (h1 : left ≤ 1048576) (hm : n ≤ maxLen) :
    Calls Tryz.prog 86 #[.slice a n cap, .int .i64 left] w fun e w' => ∃ r : Int, e = .returned (.int .i64 r) ∧ (r = -1 ∨ 0 ≤ r ∧ r + (n : Int) = left) ∧ w' = w := by
  unfold maxLen at hm
  by_cases hA : left - n < 0
  · go_enter Tryz.func86, Tryz.ntmps86
    go_wp2
    go_ret
    exact ⟨_, rfl, .inl rfl, rfl⟩
  · go_enter Tryz.func86, Tryz.ntmps86
    go_wp2
    go_ret
    exact ⟨_, rfl, .inr ⟨by omega, by omega⟩, rfl⟩
set_option maxHeartbeats 1000000 in
theorem szIntSS_any (w : World) (a : Option Addr) (cap : Nat) (LL : List (List Int)) (hA : SSAt w a LL w.heap.size) (hm : LL.length ≤ maxLen) (hr : ∀ j (hj : j < LL.length), LL[j].length ≤ maxLen) :
    Calls Tryz.prog 64 #[.slice a LL.length cap, .int .i64 1048576] w fun e w' => ∃ r : Int, e = .returned (.int .i64 r) ∧ (r = -1 ∨ 0 ≤ r ∧ r + ((LL.length + tot LL LL.length : Nat) : Int) = 1048576) ∧ w' = w := by
  unfold maxLen at hm
  by_cases hN : (1048576 : Int) - LL.length < 0
  · go_enter Tryz.func64, Tryz.ntmps64
    go_wp2
    go_ret
    exact ⟨_, rfl, .inl rfl, rfl⟩
  · go_enter Tryz.func64, Tryz.ntmps64
    go_wp2
    go_loopw [1, 5] (fun n i wr => Box (∃ (j : Nat) (r : Int), j ≤ LL.length ∧ i = .int .i64 j ∧ n = .int .i64 r ∧ 0 ≤ r ∧ r ≤ 1048576 ∧ Hid (r + ((LL.length + tot LL j : Nat) : Int) = 1048576) ∧ w = wr))
      (fun _ i _ => LL.length - (intOf i).toNat)
    case atStart => exact ⟨⟨0, 1048576 - LL.length, by omega, rfl, rfl, by omega, by omega, (by show _ = _; rw [tot_zero]; omega), rfl⟩⟩
    case round =>
      obtain ⟨j, r, hj, rfl, rfl, hr0, hr1, HR, rfl⟩ := hrel.out
      by_cases hlt : j < LL.length
      · obtain ⟨g, off, ai, ci, rfl, hg, hc, _⟩ := hA j hlt
        have c := szIntS_sk w ai ci LL[j].length r hr0 hr1 (hr j hlt)
        have HS := tot_succ LL j hlt
        obtain ⟨m, hm1⟩ : ∃ m, LL[j].length = m := ⟨_, rfl⟩
        rw [hm1] at c hc HS
        have HT : Hid (tot LL (j + 1) = tot LL j + m) := HS
        clear hrel hm1 HS
        have hi1 : (0 : Int) ≤ (j : Int) := by omega
        have hi2 : (j : Int) < (LL.length : Int) := by omega
        go_wp2_with fail
        refine c.mono ?_
        rintro e w2 ⟨q, rfl, hq, rfl⟩
        rcases hq with rfl | ⟨hq0, hq1⟩
        · go_wp2_with fail
          go_ret
          exact ⟨_, rfl, .inl rfl, rfl⟩
        · have hq2 : ¬ q < 0 := by omega
          have HQ : Hid (q + (m : Int) = r) := hq1
          have hq3 : q ≤ 1048576 := by omega
          clear hq1
          go_wp2_with fail
          go_roundw
          case rel =>
            try ((repeat apply Exists.intro); refine ⟨?_, rfl⟩)
            exact ⟨⟨j + 1, q, by omega, by go_num, rfl, hq0, hq3, (by show _ = _; have := HR.out; have := HQ.out; have := HT.out; omega), by first | rfl | trivial⟩⟩
          case measure => simp [intOf]; omega
      · go_wp2_with fail
        go_ret
        have hje : j = LL.length := by omega
        subst hje
        exact ⟨_, rfl, .inr ⟨hr0, HR.out⟩, rfl⟩

set_option maxHeartbeats 2000000 in
theorem toIntSS_any (w : World) (a : Option Addr) (cap : Nat) (LL : List (List Int)) (hA : SSAt w a LL w.heap.size) (hm : LL.length + tot LL LL.length ≤ 1048576) :
    Calls Tryz.prog 69 #[.slice a LL.length cap] w fun e w' => ∃ v, e = .returned v ∧ OwnSS w' w.heap.size w'.heap.size v LL ∧ Below w.heap.size w w' := by
  obtain ⟨i0, hi, hz0, hz1, hz2⟩ := info_parts Tryz.infoIntS
  obtain ⟨w0, hmk, hown0, hgr0⟩ := run_make_full (P := Tryz.prog) w w.heap.size 24 139 i0 (.slice none 0 0) 1 Tryz.underlying24 hi hz0 hz1 .i64 .i64 LL.length (by rw [hz2]; omega) (by unfold maxLen; omega) (Nat.le_refl _)
  have hb0 : Below w.heap.size w w0 := ⟨hgr0.os, hgr0.tape, hgr0.output, hgr0.size, fun j hj => hgr0.block j hj (by simp)⟩
  obtain ⟨G, hG⟩ : ∃ G, w.heap.size = G := ⟨_, rfl⟩
  have hown : OwnSS w0 G w0.heap.size (.slice (some ⟨G, 0, none⟩) LL.length LL.length) (List.replicate LL.length []) := by
    rw [← hG]
    refine OwnSS.made ?_
    have := hown0
    rw [show (Value.slice none 0 0).cells = #[Value.slice none 0 0] from rfl, toList_madeCells_one, Nat.mul_one] at this
    unfold OwnV
    rw [List.length_replicate]
    exact this
  rw [hG] at hmk
  clear hown0 hgr0 hi hz0 hz1 hz2
  go_enter Tryz.func69, Tryz.ntmps69
  go_wp2
  go_loopw [4] (fun i wr => Box (∃ (k : Nat), k ≤ LL.length ∧ i = .int .i64 k ∧ OwnSS wr G wr.heap.size (.slice (some ⟨G, 0, none⟩) LL.length LL.length) (LL.take k ++ List.replicate (LL.length - k) []) ∧ Below w.heap.size w wr))
    (fun i _ => LL.length - (intOf i).toNat)
  case atStart => exact ⟨⟨0, by omega, rfl, by simpa using hown, hb0⟩⟩
  case round =>
    obtain ⟨k, hk, rfl, hown1, hbel⟩ := hrel.out
    by_cases hlt : k < LL.length
    · obtain ⟨g, off, ai, ci, rfl, hg, hc0, hI⟩ := (hA.below hbel (Nat.le_refl _)) k hlt
      have hlen := tot_at LL k hlt
      have c := toIntS_any wr ai ci LL[k] (hI.mono hbel.size) (by omega)
      have HL : Hid (k < (LL.take k ++ List.replicate (LL.length - k) ([] : List Int)).length) := by show _ < _; simp; omega
      have HF := fill_set LL [] k hlt
      obtain ⟨r, hrr⟩ : ∃ r, LL[k] = r := ⟨_, rfl⟩
      rw [hrr] at hc0 c HF
      have HF' : Hid ((LL.take k ++ List.replicate (LL.length - k) ([] : List Int)).set k r = LL.take (k + 1) ++ List.replicate (LL.length - (k + 1)) []) := HF
      have hGs : G ≤ wr.heap.size := by rw [← hG]; exact hbel.size
      have HA : Hid (OwnSS wr G wr.heap.size (.slice (some ⟨G, 0, none⟩) LL.length LL.length) (LL.take k ++ List.replicate (LL.length - k) [])) := hown1
      clear hrel hA hmk hown hb0 HF hrr hI hlen hown1
      have hi1 : (0 : Int) ≤ (k : Int) := by omega
      have hi2 : (k : Int) < (LL.length : Int) := by omega
      go_wp2_with fail
      refine c.mono ?_
      rintro e w1 ⟨u, rfl, hu, hb1⟩
      obtain ⟨ua, uc, rfl, _⟩ := hu.ints
      obtain ⟨g1, cap1, x, hv, xc, xf, hg1, _, hput⟩ := (HA.out.below hb1 (Nat.le_refl _)).put hu hGs k HL.out
      simp only [Value.slice.injEq, Option.some.injEq, Addr.mk.injEq, and_true] at hv
      obtain ⟨rfl, e1, e2⟩ := hv
      clear e1 e2
      rw [HF'.out] at hput
      have HX : Hid (OwnSS (w1.setCell ⟨G, k, none⟩ (.slice ua r.length uc)) G (w1.setCell ⟨G, k, none⟩ (.slice ua r.length uc)).heap.size (.slice (some ⟨G, 0, none⟩) LL.length LL.length) (LL.take (k + 1) ++ List.replicate (LL.length - (k + 1)) []) ∧ Below w.heap.size w (w1.setCell ⟨G, k, none⟩ (.slice ua r.length uc))) := ⟨by simpa using hput, (hbel.trans (hb1.mono hbel.size)).setCell (show w.heap.size ≤ G by omega) _⟩
      clear c hput hu hb1 HA HL
      go_wp2_with fail
      go_roundw
      case rel =>
        try ((repeat apply Exists.intro); refine ⟨?_, rfl⟩)
        exact ⟨⟨k + 1, by omega, by go_num, HX.out.1, HX.out.2⟩⟩
      case measure => simp [intOf]; omega
    · go_wp2_with fail
      go_ret
      have hke : k = LL.length := by omega
      subst hke
      simp only [List.take_length, Nat.sub_self, List.replicate_zero, List.append_nil] at hown1
      exact ⟨_, rfl, by rw [hG]; exact hown1, hbel⟩

set_option maxHeartbeats 1000000 in
theorem eqIntSS_same (w : World) (a b : Option Addr) (c1 c2 : Nat) (LL : List (List Int)) (hA : SSAt w a LL w.heap.size) (hB : SSAt w b LL w.heap.size) (hl : LL.length + tot LL LL.length ≤ 1048576) :
    Calls Tryz.prog 83 #[.slice a LL.length c1, .slice b LL.length c2] w fun e w' => e = .returned (.bool true) ∧ Below w.heap.size w w' := by
  go_enter Tryz.func83, Tryz.ntmps83
  go_wp2
  go_loopw [5] (fun i wr => Box (∃ (k : Nat), k ≤ LL.length ∧ i = .int .i64 k ∧ Below w.heap.size w wr))
    (fun i _ => LL.length - (intOf i).toNat)
  case atStart => exact ⟨⟨0, by omega, rfl, Below.refl _ _⟩⟩
  case round =>
    obtain ⟨k, hk, rfl, hbel⟩ := hrel.out
    by_cases hlt : k < LL.length
    · obtain ⟨g, off, ai, ci, rfl, hg, hc0, hI⟩ := (hA.below hbel (Nat.le_refl _)) k hlt
      obtain ⟨g', off', bi, di, rfl, hg', hd0, hJ⟩ := (hB.below hbel (Nat.le_refl _)) k hlt
      have hlen := tot_at LL k hlt
      have hI' := hI.mono hbel.size
      have hJ' := hJ.mono hbel.size
      obtain ⟨f, hf⟩ : ∃ f, LL[k] = f := ⟨_, rfl⟩
      rw [hf] at hc0 hd0 hI' hJ' hlen
      have k0 := cell_regrown hc0
      have l0 := cell_regrown hd0
      have cV : ∀ d os, Calls Tryz.prog 108 #[.slice ai f.length ci, .slice bi f.length di] (grow (redrawn wr d) os) fun e w'' => e = .returned (.bool true) ∧ ∃ p : Regrown, w'' = grow (redrawn wr p.d) p.os := fun d os => Calls.regrown_of (by have h := below_regrown wr d os; have := eqIntS_same (grow (redrawn wr d) os) ai bi ci di f (hI'.on h) (hJ'.on h) (by omega); simpa using this)
      clear hA hB hrel hc0 hd0 hI hJ hI' hJ' hf hlen
      have hi1 : (0 : Int) ≤ (k : Int) := by omega
      have hi2 : (k : Int) < (LL.length : Int) := by omega
      go_wp2
      refine wp_region_quiet_below (by kernel_rfl) (by kernel_rfl) ?_
      repeat (first | go_big_quiet_step (exact cV _ _) | quiet_step (exact cV _ _))
      refine wpQuiet_nil ?_
      intro _ hw'
      obtain ⟨⟨dq, osq⟩, hw''⟩ := hw'
      subst hw''
      go_wp2
      go_roundw
      case rel =>
        try ((repeat apply Exists.intro); refine ⟨?_, rfl⟩)
        exact ⟨⟨k + 1, by omega, by go_num, hbel.trans ((below_regrown wr dq osq).mono hbel.size)⟩⟩
      case measure => simp [intOf]; omega
    · go_wp2
      go_ret
      exact ⟨rfl, hbel⟩

/-- The rows MM are as long as those of LL, the first j of them marked from k on. -/
def MarkSS (k : Nat) (LL MM : List (List Int)) (j : Nat) : Prop := MM.map List.length = LL.map List.length ∧ ∀ i m, i < j → MM[i]? = some m → Marked (k + tot LL i) m m.length
set_option maxHeartbeats 1000000 in
theorem markIntSS_any (w : World) (lo hi : Nat) (a : Option Addr) (cap : Nat) (LL : List (List Int)) (k : Nat) (hO : OwnSS w lo hi (.slice a LL.length cap) LL) (hl : LL.length + tot LL LL.length ≤ 1048576) (hk : k ≤ 10000000) :
    Calls Tryz.prog 84 #[.slice a LL.length cap, .int .i64 k] w fun e w' => e = .returned (.int .i64 ((k + tot LL LL.length : Nat) : Int)) ∧ (∃ MM, MarkSS k LL MM LL.length ∧ OwnSS w' lo hi (.slice a LL.length cap) MM) ∧ Tch (fun b => lo ≤ b ∧ b < hi) w w' := by
  go_enter Tryz.func84, Tryz.ntmps84
  go_wp2
  go_loopw [1, 5] (fun n i wr => Box (∃ (j : Nat) (MM : List (List Int)), Hid (MarkSS k LL MM j) ∧ j ≤ LL.length ∧ i = .int .i64 j ∧ n = .int .i64 ((k + tot LL j : Nat) : Int) ∧ OwnSS wr lo hi (.slice a LL.length cap) MM ∧ Tch (fun b => lo ≤ b ∧ b < hi) w wr))
    (fun _ i _ => LL.length - (intOf i).toNat)
  case atStart => exact ⟨⟨0, LL, ⟨rfl, fun i m h => by omega⟩, by omega, rfl, by rw [tot_zero]; rfl, hO, Tch.of_below (Below.refl _ _)⟩⟩
  case round =>
    obtain ⟨j, MM, HM, hj, rfl, rfl, hown, ht⟩ := hrel.out
    by_cases hlt : j < LL.length
    · have hML : MM.length = LL.length := by have := congrArg List.length HM.out.1; simpa using this
      have hjm : j < MM.length := by omega
      have hlj : MM[j].length = LL[j].length := by
        have := congrArg (·[j]?) HM.out.1
        simp only [List.getElem?_map, List.getElem?_eq_getElem hjm, List.getElem?_eq_getElem hlt, Option.map_some, Option.some.injEq] at this
        exact this
      obtain ⟨g, cap', u, hv, _, hgs, hc, ho, hub, hput⟩ := hown.row j hjm
      simp only [Value.slice.injEq] at hv
      obtain ⟨rfl, e1, e2⟩ := hv
      clear e1 e2
      have hta := tot_at LL j hlt
      have HT : Hid (tot LL (j + 1) = tot LL j + LL[j].length) := tot_succ LL j hlt
      have c := markI_any wr lo u MM[j] (k + tot LL j) ho (by omega) (by omega)
      rw [hlj] at c
      have HP : Hid (∀ w' m, wr.grownBy w' u.ownBlock → OwnV w' lo 3 u (ints m) → OwnSS w' lo hi (.slice (some ⟨g, 0, none⟩) LL.length cap) (MM.set j m)) := hput
      have HU : Hid (∀ q, u.ownBlock = some q → lo ≤ q ∧ q < hi) := hub
      have HTC : Hid (Tch (fun b => lo ≤ b ∧ b < hi) w wr) := ht
      have HLJ : Hid (MM[j].length = LL[j].length ∧ MM.length = LL.length) := ⟨hlj, hML⟩
      obtain ⟨r, hr⟩ : ∃ r, LL[j].length = r := ⟨_, rfl⟩
      rw [hr] at c HT hta
      have HR : Hid (LL[j].length = r) := hr
      obtain ⟨K, hK⟩ : ∃ K, k + tot LL j = K := ⟨_, rfl⟩
      rw [hK] at c ⊢
      have HK : Hid (k + tot LL j = K) := hK
      have hKr : K + r ≤ 100000000 := by omega
      clear hrel hO hown ht ho hub hput hlj hML hr hK hta
      have hi1 : (0 : Int) ≤ (j : Int) := by omega
      have hi2 : (j : Int) < (LL.length : Int) := by omega
      go_wp2_with fail
      refine c.mono ?_
      rintro e w1 ⟨rfl, ⟨m, hml, hmk, hom⟩, hgr⟩
      have HX : Hid (MarkSS k LL (MM.set j m) (j + 1) ∧ OwnSS w1 lo hi (.slice (some ⟨g, 0, none⟩) LL.length cap) (MM.set j m) ∧ Tch (fun b => lo ≤ b ∧ b < hi) w w1) := by
        refine ⟨⟨?_, ?_⟩, HP.out w1 m hgr hom, HTC.out.trans (Tch.of_grown hgr fun q hq => HU.out q hq)⟩
        · rw [List.map_set, HM.out.1, hml, ← HR.out]
          apply List.ext_getElem?
          intro i
          by_cases hij : j = i
          · subst hij
            rw [List.getElem?_set_self (by simpa using hlt), List.getElem?_map, List.getElem?_eq_getElem hlt]
            rfl
          · rw [List.getElem?_set_ne hij]
        · intro i x hi' hx
          by_cases hij : j = i
          · subst hij
            rw [List.getElem?_set_self hjm] at hx
            cases hx
            rw [HK.out, hml]
            exact hmk
          · rw [List.getElem?_set_ne hij] at hx
            exact HM.out.2 i x (by omega) hx
      have HE : Hid ((K : Int) + (r : Int) = ((k + tot LL (j + 1) : Nat) : Int)) := by show _ = _; rw [HT.out, ← HK.out]; omega
      clear c hmk hom hgr hml HP HU HTC
      go_wp2_with fail
      go_roundw
      case rel =>
        try ((repeat apply Exists.intro); refine ⟨?_, rfl⟩)
        exact ⟨⟨j + 1, _, HX.out.1, by omega, by go_num, by rw [HE.out], HX.out.2.1, HX.out.2.2⟩⟩
      case measure => simp [intOf]; omega
    · go_wp2_with fail
      go_ret
      have hje : j = LL.length := by omega
      subst hje
      exact ⟨rfl, ⟨MM, HM.out, hown⟩, ht⟩
set_option maxHeartbeats 1000000 in
theorem heldIntSS_any (w : World) (lo hi : Nat) (a : Option Addr) (cap : Nat) (LL MM : List (List Int)) (k : Nat) (hO : OwnSS w lo hi (.slice a LL.length cap) MM) (hM : MarkSS k LL MM LL.length) (hl : LL.length + tot LL LL.length ≤ 1048576) (hk : k ≤ 10000000) :
    Calls Tryz.prog 85 #[.slice a LL.length cap, .int .i64 k] w fun e w' => e = .returned (.int .i64 ((k + tot LL LL.length : Nat) : Int)) ∧ w' = w := by
  have hML : MM.length = LL.length := by have := congrArg List.length hM.1; simpa using this
  go_enter Tryz.func85, Tryz.ntmps85
  go_wp2
  go_loopw [1, 5] (fun n i wr => Box (∃ (j : Nat), j ≤ LL.length ∧ i = .int .i64 j ∧ n = .int .i64 ((k + tot LL j : Nat) : Int) ∧ w = wr))
    (fun _ i _ => LL.length - (intOf i).toNat)
  case atStart => exact ⟨⟨0, by omega, rfl, by rw [tot_zero]; rfl, rfl⟩⟩
  case round =>
    obtain ⟨j, hj, rfl, rfl, rfl⟩ := hrel.out
    by_cases hlt : j < LL.length
    · have hjm : j < MM.length := by omega
      have hlj : MM[j].length = LL[j].length := by
        have := congrArg (·[j]?) hM.1
        simp only [List.getElem?_map, List.getElem?_eq_getElem hjm, List.getElem?_eq_getElem hlt, Option.map_some, Option.some.injEq] at this
        exact this
      obtain ⟨g, cap', u, hv, _, hgs, hc, ho, _, _⟩ := hO.row j hjm
      simp only [Value.slice.injEq] at hv
      obtain ⟨rfl, e1, e2⟩ := hv
      clear e1 e2
      have hta := tot_at LL j hlt
      have HT : Hid (tot LL (j + 1) = tot LL j + LL[j].length) := tot_succ LL j hlt
      have c := heldI_any w lo u MM[j] MM[j].length (k + tot LL j) rfl ho (hM.2 j MM[j] hlt (List.getElem?_eq_getElem hjm)) (by omega) (by omega)
      rw [hlj] at c
      obtain ⟨r, hr⟩ : ∃ r, LL[j].length = r := ⟨_, rfl⟩
      rw [hr] at c HT hta
      obtain ⟨K, hK⟩ : ∃ K, k + tot LL j = K := ⟨_, rfl⟩
      rw [hK] at c ⊢
      have HE : Hid ((K : Int) + (r : Int) = ((k + tot LL (j + 1) : Nat) : Int)) := by show _ = _; rw [HT.out, ← hK]; omega
      have hKr : ¬ (((K + r : Nat) : Int) < 0) := by omega
      clear hrel hO hM ho hlj hML hr hK hta hjm HT
      have hi1 : (0 : Int) ≤ (j : Int) := by omega
      have hi2 : (j : Int) < (LL.length : Int) := by omega
      go_wp2_with fail
      refine c.mono ?_
      rintro e w1 ⟨rfl, rfl⟩
      go_wp2_with fail
      go_roundw
      case rel =>
        try ((repeat apply Exists.intro); refine ⟨?_, rfl⟩)
        exact ⟨⟨j + 1, by omega, by go_num, by rw [HE.out], by first | rfl | trivial⟩⟩
      case measure => simp [intOf]; omega
    · go_wp2_with fail
      go_ret
      have hje : j = LL.length := by omega
      subst hje
      exact ⟨rfl, rfl⟩
end Go.Proofs.YtcaakommnglnbaaGreatDoor
