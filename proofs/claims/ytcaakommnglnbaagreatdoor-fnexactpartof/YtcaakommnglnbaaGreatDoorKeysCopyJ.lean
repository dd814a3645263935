/- Texts that stand in one: KeysCopy, PolMk, CellPlain, CellSpec. -/
import Derived.Test.YtcaakommnglnbaaGreatDoorFetPlusJ
import Derived.Test.YtcaakommnglnbaaGreatDoorShelf
import Derived.Test.YtcaakommnglnbaaGreatDoorStrsJ
import Derived.Test.YtcaakommnglnbaaGreatDoorSumPlainJ
import Derived.Test.YtcaakommnglnbaaGreatDoorIntsJ
import Derived.Deep.DeepCutAuto
import Derived.Deep.MidRow
import Derived.Deep.RegionLaw
namespace Go.Proofs.YtcaakommnglnbaaGreatDoor
open Go.RowKit Go.Sort

theorem cloneS_any (s : ByteArray) (w : World) (hs : s.size ≤ 281474976710656) :
    Calls Tryz.prog 78 #[.string s] w fun e w' => e = .returned (.string s) ∧ Below w.heap.size w w' := by
  go_enter Tryz.func78, Tryz.ntmps78
  go_wp2_with (go_at_call 103; refine (Tryz.stringslite_Clone s _ hs).mono ?_; rintro e w' ⟨rfl, hb⟩)
  go_ret
  exact ⟨rfl, hb⟩
theorem set_part {l : List ByteArray} {k : Nat} (hk : k < l.length) (z : Value) : (strs (l.take k) ++ List.replicate (l.length - k) z).set k (.string l[k]) = strs (l.take (k + 1)) ++ List.replicate (l.length - (k + 1)) z := by
  have hl : (strs (l.take k)).length = k := by rw [strs_length, List.length_take]; omega
  obtain ⟨m, hm⟩ : ∃ m, l.length - k = m + 1 := ⟨l.length - k - 1, by omega⟩
  rw [List.set_append_right _ _ (by omega), hl, hm, Nat.sub_self, List.replicate_succ, List.set_cons_zero, List.take_succ_eq_append_getElem hk, strs_append, show l.length - (k + 1) = m by omega]
  simp [strs]
set_option maxRecDepth 100000 in
set_option maxHeartbeats 2000000 in
theorem keysCopy_any (w : World) (a : Option Addr) (c : Nat) (L : List ByteArray) (hA : LAt w a L w.heap.size) (hm : L.length ≤ 1048576) (hz : ∀ z ∈ L, z.size ≤ 281474976710656) :
    Calls Tryz.prog 113 #[.slice a L.length c] w fun e w' => ∃ v, e = .returned v ∧ OwnV w' w.heap.size 9 v (strs L) ∧ Below w.heap.size w w' := by
  obtain ⟨i0, hi, hz0, hz1, hz2⟩ := info_parts Tryz.infoSK
  obtain ⟨w2, hmk, hown0, hgr0⟩ := run_make_full (P := Tryz.prog) w w.heap.size 23 9 i0 (.string ⟨#[]⟩) 1 Tryz.underlying23 hi hz0 hz1 .i64 .i64 L.length (by rw [hz2]; omega) (by unfold maxLen; omega) (Nat.le_refl _)
  have HO : Hid (OwnV w2 w.heap.size 9 (.slice (some ⟨w.heap.size, 0, none⟩) L.length L.length) (strs (L.take 0) ++ List.replicate (L.length - 0) (.string ⟨#[]⟩))) := by
    have := hown0
    rw [show (Value.string ⟨#[]⟩).cells = #[Value.string ⟨#[]⟩] from rfl, toList_madeCells_one, Nat.mul_one] at this
    show OwnV _ _ _ _ _
    rw [List.take_zero, show strs [] = [] from rfl, List.nil_append, Nat.sub_zero]
    unfold OwnV
    rw [List.length_replicate]
    exact this
  have HB : Hid (Below w.heap.size w w2) := ⟨hgr0.os, hgr0.tape, hgr0.output, hgr0.size, fun j hj => hgr0.block j hj (by simp)⟩
  have HZ : Hid (∀ z ∈ L, z.size ≤ 281474976710656) := hz
  obtain ⟨G, hG⟩ : ∃ G, w.heap.size = G := ⟨_, rfl⟩
  rw [hG] at hmk HO HB
  have HG : Hid (w.heap.size = G) := hG
  rw [hG] at hA
  clear hown0 hgr0 hz hz0 hz1 hz2 hi hG
  go_enter Tryz.func113, Tryz.ntmps113
  go_wp2
  go_loopw [11] (fun i wr => Box (∃ (k : Nat), k ≤ L.length ∧ i = .int .i64 k ∧ Hid (OwnV wr G 9 (.slice (some ⟨G, 0, none⟩) L.length L.length) (strs (L.take k) ++ List.replicate (L.length - k) (.string ⟨#[]⟩))) ∧ Hid (Below G w wr)))
    (fun i _ => L.length - (intOf i).toNat)
  case atStart => exact ⟨⟨0, by omega, rfl, HO, HB⟩⟩
  case round =>
    obtain ⟨k, hk, rfl, HO1, HB1⟩ := hrel.out
    clear hrel HO HB hmk
    by_cases hlt : k < L.length
    · obtain ⟨g, off, hga, _, q0⟩ := (hA.below HB1.out (Nat.le_refl _)) k hlt
      have hsz := HZ.out _ (List.getElem_mem hlt)
      have HS := fun (W : World) (h : OwnV W G 9 (.slice (some ⟨G, 0, none⟩) L.length L.length) (strs (L.take k) ++ List.replicate (L.length - k) (.string ⟨#[]⟩))) => (h.stored (by rw [List.length_append, strs_length, List.length_take, List.length_replicate]; omega) k (.string L[k]))
      rw [set_part hlt] at HS
      obtain ⟨f, hf⟩ : ∃ f, L[k] = f := ⟨_, rfl⟩
      rw [hf] at q0 hsz HS
      have HSS : Hid _ := HS
      subst hga
      have HC : Hid (∀ wi, Calls Tryz.prog 78 #[.string f] wi fun e w' => e = .returned (.string f) ∧ Below wi.heap.size wi w') := fun wi => cloneS_any f wi hsz
      have hi1 : (0 : Int) ≤ (k : Int) := by omega
      have hi2 : (k : Int) < (L.length : Int) := by omega
      have HK : Hid (k < L.length) := hlt
      have hkb : k ≤ 1048576 := by omega
      clear hf hsz hlt hk HS
      go_wp2_with fail
      refine (HC.out _).mono ?_
      rintro e w3 ⟨rfl, hb3⟩
      have hO3 := HO1.out.below hb3 (Nat.le_refl _)
      have HB3 : Hid (Below G w w3) := HB1.out.trans (hb3.mono (by have := HB1.out.size; have := HG.out; omega))
      have HN := HSS.out w3 hO3
      have s0 : w3.cell? ⟨G, k, none⟩ = some (.string ⟨#[]⟩) := by
        obtain ⟨a', c', e', h'⟩ := hO3.shape
        have hlen : (strs (L.take k) ++ List.replicate (L.length - k) (Value.string ⟨#[]⟩)).length = L.length := by rw [List.length_append, strs_length, List.length_take, List.length_replicate]; have := HK.out; omega
        obtain ⟨g', e1, h1, _⟩ := h' k (by rw [hlen]; exact HK.out)
        simp only [Value.slice.injEq] at e'
        rw [← e'.1] at e1
        simp only [Option.some.injEq, Addr.mk.injEq, and_true] at e1
        rw [e1, h1, List.getElem_append_right (by rw [strs_length, List.length_take]; omega)]
        simp
      have s1 : w3.frozen? ⟨G, k, none⟩ = false := by
        obtain ⟨a', c', e', h'⟩ := hO3.shape
        have hlen : (strs (L.take k) ++ List.replicate (L.length - k) (Value.string ⟨#[]⟩)).length = L.length := by rw [List.length_append, strs_length, List.length_take, List.length_replicate]; have := HK.out; omega
        obtain ⟨g', e1, _, h1, _⟩ := h' k (by rw [hlen]; exact HK.out)
        simp only [Value.slice.injEq] at e'
        rw [← e'.1] at e1
        simp only [Option.some.injEq, Addr.mk.injEq, and_true] at e1
        rw [e1]
        exact h1
      have HNN : Hid _ := HN
      clear HN hO3 hb3 HC HO1 q0 HSS
      go_wp2_with fail
      go_roundw
      case rel =>
        try ((repeat apply Exists.intro); refine ⟨?_, rfl⟩)
        exact ⟨⟨k + 1, HK.out, by go_num, HNN.out.1, HB3.out.setCell (Nat.le_refl _) _⟩⟩
      case measure => have := HK.out; simp [intOf]; omega
    · have hke : k = L.length := by omega
      have HO2 : Hid (OwnV wr w.heap.size 9 (.slice (some ⟨G, 0, none⟩) L.length L.length) (strs L)) := by
        have := HO1.out
        rw [hke, List.take_length, Nat.sub_self, List.replicate_zero, List.append_nil] at this
        rw [HG.out]
        exact this
      clear hA HO1
      go_wp2_with fail
      go_ret
      exact ⟨_, rfl, HO2.out, by rw [HG.out]; exact HB1.out⟩
end Go.Proofs.YtcaakommnglnbaaGreatDoor

namespace Go.Proofs.YtcaakommnglnbaaGreatDoor
open Go.RowKit
/-- A policy put together: lists and rows that were made one behind the other, in any order. -/
theorem POwn.mk3 {w : World} {lo B1 B2 B3 : Nat} {v1 v2 v3 : Value} {P : Pol} (h1 : OwnV w B1 9 v1 (strs P.win)) (h2 : OwnV w B2 9 v2 (strs P.main)) (h3 : OwnSS w B3 w.heap.size v3 P.sk.rows) (l1 : lo ≤ B1) (l2 : lo ≤ B2) (l3 : lo ≤ B3) (hn : ∀ k, v1.ownBlock = some k → v2.ownBlock ≠ some k) :
    POwn w lo w.heap.size (.agg #[v1, v2, v3, .int .i64 P.sk.added]) P :=
  ⟨v1, v2, v3, rfl, h1.mono l1, h2.mono l2, fun k hk => ⟨(h1.lt k hk).2, hn k hk⟩, fun k hk => (h2.lt k hk).2, h3.mono l3 (Nat.le_refl _)⟩
end Go.Proofs.YtcaakommnglnbaaGreatDoor

namespace Go.Proofs.YtcaakommnglnbaaGreatDoor
open Go.RowKit

/-- A number that a cell may hold. -/
def nOkC (n : Int) : Bool := decide (0 ≤ n ∧ n ≤ 1000000000)
/-- There is such a place. -/
def inC (l : List Int) (p : Int) : Bool := decide (0 ≤ p ∧ p < l.length)
def ldC (l : List Int) (p : Int) : Int × Bool := if inC l p then (l.getD p.toNat 0, true) else (0, false)
def stC (l : List Int) (p n : Int) : List Int × Bool := if inC l p && nOkC n then (l.set p.toNat n, true) else (l, false)
def swC (l : List Int) (p o n : Int) : List Int × Bool := if inC l p && nOkC n && decide (l.getD p.toNat 0 = o) then (l.set p.toNat n, true) else (l, false)
def adC (l : List Int) (p n : Int) : List Int × Int := if inC l p then (l.set p.toNat ((l.getD p.toNat 0 + n) % 1000000001), l.getD p.toNat 0) else (l, 0)
def okC (l : List Int) : Bool := decide (1 ≤ l.length ∧ l.length ≤ 80) && l.all nOkC

theorem inC_iff {l : List Int} {p : Int} : inC l p = true ↔ 0 ≤ p ∧ p < l.length := by simp [inC]
theorem inC_nat {l : List Int} {p : Nat} (h : p < l.length) : inC l p = true := inC_iff.2 (by omega)
theorem inC_out {l : List Int} {p : Int} (h : p < 0 ∨ (l.length : Int) ≤ p) : inC l p = false := by
  unfold inC; exact decide_eq_false (by omega)
theorem stC_out {l : List Int} {p n : Int} (h : p < 0 ∨ (l.length : Int) ≤ p) : stC l p n = (l, false) := by simp [stC, inC_out h]
theorem swC_out {l : List Int} {p o n : Int} (h : p < 0 ∨ (l.length : Int) ≤ p) : swC l p o n = (l, false) := by simp [swC, inC_out h]
theorem adC_out {l : List Int} {p n : Int} (h : p < 0 ∨ (l.length : Int) ≤ p) : adC l p n = (l, 0) := by simp [adC, inC_out h]
theorem ldC_out {l : List Int} {p : Int} (h : p < 0 ∨ (l.length : Int) ≤ p) : ldC l p = (0, false) := by simp [ldC, inC_out h]
theorem stC_bad {l : List Int} {p n : Int} (h : nOkC n = false) : stC l p n = (l, false) := by simp [stC, h]
theorem swC_bad {l : List Int} {p o n : Int} (h : nOkC n = false) : swC l p o n = (l, false) := by simp [swC, h]
theorem stC_in {l : List Int} {p : Nat} {n : Int} (hp : p < l.length) (h : nOkC n = true) : stC l p n = (l.set p n, true) := by simp [stC, inC_nat hp, h]
theorem swC_miss {l : List Int} {p : Nat} {o n : Int} (h : ¬ l.getD p 0 = o) : swC l p o n = (l, false) := by simp [swC] at *; simp [h]
theorem swC_hit {l : List Int} {p : Nat} {o n : Int} (hp : p < l.length) (hn : nOkC n = true) (h : l.getD p 0 = o) : swC l p o n = (l.set p n, true) := by simp [swC, inC_nat hp, hn] at *; simp [h]
theorem adC_in {l : List Int} {p : Nat} {n : Int} (hp : p < l.length) : adC l p n = (l.set p ((l.getD p 0 + n) % 1000000001), l.getD p 0) := by simp [adC, inC_nat hp]
theorem ldC_in {l : List Int} {p : Nat} (hp : p < l.length) : ldC l p = (l.getD p 0, true) := by simp [ldC, inC_nat hp]

theorem stC_len (l : List Int) (p n : Int) : (stC l p n).1.length = l.length := by unfold stC; split <;> simp
theorem swC_len (l : List Int) (p o n : Int) : (swC l p o n).1.length = l.length := by unfold swC; split <;> simp
theorem adC_len (l : List Int) (p n : Int) : (adC l p n).1.length = l.length := by unfold adC; split <;> simp

theorem range_getD (l : List Int) : (List.range l.length).map (fun j => l.getD j 0) = l := by
  apply List.ext_getElem (by simp)
  intro i h1 h2
  simp [List.getD, h2]
theorem range_set (l : List Int) (p : Nat) (z : Int) : (List.range l.length).map (fun i => if i = p then z else l.getD i 0) = l.set p z := by
  apply List.ext_getElem (by simp)
  intro i h1 h2
  have h3 : i < l.length := by simpa using h2
  by_cases h : p = i
  · subst h; simp
  · have h' : ¬ i = p := fun e => h e.symm
    simp [List.getD, h3, h, h']
theorem okC_short {l : List Int} (h : l.length < 1) : okC l = false := by
  unfold okC; rw [decide_eq_false (by omega)]; rfl
theorem okC_long {l : List Int} (h : 80 < l.length) : okC l = false := by
  unfold okC; rw [decide_eq_false (by omega)]; rfl
theorem okC_bad {l : List Int} {k : Nat} (hk : k < l.length) (h : nOkC l[k] = false) : okC l = false := by
  have : l.all nOkC = false := List.all_eq_false.2 ⟨l[k], List.getElem_mem hk, by simp [h]⟩
  unfold okC; rw [this, Bool.and_false]
theorem okC_true {l : List Int} (h1 : 1 ≤ l.length) (h2 : l.length ≤ 80) (h : l.all nOkC = true) : okC l = true := by
  unfold okC; rw [decide_eq_true ⟨h1, h2⟩, h]; rfl
theorem all_step {l : List Int} {k : Nat} (hk : k < l.length) (h : (l.take k).all nOkC = true) (h2 : nOkC l[k] = true) : (l.take (k + 1)).all nOkC = true := by
  rw [List.take_succ_eq_append_getElem hk, List.all_append, h]
  simp [h2]
theorem tmod_cases (n : Int) : (0 ≤ n ∧ n.tmod 1000000001 = n % 1000000001) ∨ (n < 0 ∧ n.tmod 1000000001 = -((-n) % 1000000001)) := by
  by_cases h : 0 ≤ n
  · exact .inl ⟨h, Int.tmod_eq_emod_of_nonneg h⟩
  · refine .inr ⟨by omega, ?_⟩
    have e : n.tmod 1000000001 = -((-n).tmod 1000000001) := by rw [Int.neg_tmod, Int.neg_neg]
    rw [e, Int.tmod_eq_emod_of_nonneg (by omega)]
theorem round_one (n : Int) : (wrap64 (n.tmod 1000000001 + 1000000001)).tmod 1000000001 = n % 1000000001 := by
  have e : wrap64 (n.tmod 1000000001 + 1000000001) = n.tmod 1000000001 + 1000000001 := by
    rcases tmod_cases n with ⟨_, h⟩ | ⟨_, h⟩ <;> unfold wrap64 <;> omega
  rw [e]
  have h2 : 0 ≤ n.tmod 1000000001 + 1000000001 := by rcases tmod_cases n with ⟨_, h⟩ | ⟨_, h⟩ <;> omega
  rw [Int.tmod_eq_emod_of_nonneg h2]
  rcases tmod_cases n with ⟨_, h⟩ | ⟨_, h⟩ <;> omega
end Go.Proofs.YtcaakommnglnbaaGreatDoor

namespace Go.Proofs.YtcaakommnglnbaaGreatDoor
open Go.RowKit Go.Sort

theorem inN_place (l : List Int) (p : Int) : inN p 0 ((l.length : Int) - 1) = inC l p := by
  unfold inN inC
  by_cases h : 0 ≤ p ∧ p < (l.length : Int)
  · rw [decide_eq_true h, decide_eq_true (by omega)]
  · rw [decide_eq_false h, decide_eq_false (by omega)]
theorem inN_number (n : Int) : inN n 0 1000000000 = nOkC n := rfl

theorem ints_one' (l : List Int) : ∀ u ∈ ints l, u.oneCell' = true := by
  intro u hu
  simp only [ints, List.mem_map] at hu
  obtain ⟨x, _, rfl⟩ := hu
  rfl

/-- 'append(v, all...)' of numbers onto a slice of the call's own that holds none. -/
theorem wpList_allI {P : Program} {ops : Array Oper} {rest : List Oper} {o : Oper} {a : Act} {Q : Exit → Act → World → Prop} {w : World} (hgd : o.guard = none) (s x : Operand) (t : TypeId)
    (ho : o.op = .call { callee := .builtin .append, args := #[s, x], argTypes := #[t, t] }) (base : Nat) (e : TypeId) (ht : P.underlying t = some (.slice e))
    (hinfo : (P.info? e).map (fun i => (i.zero, i.size, i.bytes)) = some (some (.int .i64 0), 1, 8)) (E : Nat) (hs : a.eval s = .slice (some ⟨E, 0, none⟩) 0 0) (hown : OwnV w base e (.slice (some ⟨E, 0, none⟩) 0 0) [])
    (ad : Addr) (cap : Nat) (l : List Int) (B : Nat) (hx : a.eval x = .slice (some ad) l.length cap) (hI : IAt w (some ad) l B) (hlen : l.length ≤ 1048576) (hbase : base ≤ w.heap.size)
    (h : ∀ v' w', OwnV w' base e v' (ints l) → w.grownBy w' (some E) → wpList P ops Q rest (a.put o.dst v') w') :
    wpList P ops Q (o :: rest) a w := by
  obtain ⟨i0, hi, hz0, hz1, hz2⟩ := info_parts hinfo
  refine wpList_append_own _ hgd s x t ho base e i0 _ 1 8 ht hi hz0 hz1 hz2 rfl (by decide) _ 0 [] hs hown ad l.length cap (ints l) hx (by rw [ints_length, Nat.mul_one]) ?_ (ints_one' l) (by unfold maxLen; omega) (by omega) hbase ?_
  · intro j u hu
    obtain ⟨hj, hu'⟩ := List.getElem?_eq_some_iff.1 hu
    have hj' : j < l.length := by rw [ints_length] at hj; exact hj
    obtain ⟨g, off, ha, _, hc⟩ := hI j hj'
    simp only [Option.some.injEq] at ha
    subst ha
    rw [Addr.add_mid, hc, ← hu', ints_at hj']
  · intro v' w' h1 h2 _
    exact h v' w' (by unfold OwnV; rw [ints_length]; simpa using h1) h2

theorem IAt.alloc {w : World} {a : Option Addr} {l : List Int} (h : IAt w a l w.heap.size) (o : Obj) : IAt (w.alloc o) a l (w.alloc o).heap.size := h.on ((Below.refl _ _).alloc (Nat.le_refl _) o)
theorem IAt.none_nil {w : World} {l : List Int} {B : Nat} (h : IAt w none l B) : l = [] := by
  cases l with
  | nil => rfl
  | cons x r => obtain ⟨g, off, ha, _⟩ := h 0 (by simp); simp at ha
theorem own_empty (w : World) : OwnV (w.alloc (.cells #[] 3)) w.heap.size 3 (.slice (some ⟨w.heap.size, 0, none⟩) 0 0) [] := ⟨rfl, .inr ⟨w.heap.size, 0, #[], rfl, Nat.le_refl _, heap_alloc_new _ _, Nat.le_refl _, by simp [maxLen], by simp, rfl⟩⟩

/-- A store into numbers of one's own. -/
theorem own_seti {w : World} {base : Nat} {e : TypeId} {v : Value} {l : List Int} (h : OwnV w base e v (ints l)) {k : Nat} (hk : k < l.length) (z : Int) :
    ∃ g cap, v = .slice (some ⟨g, 0, none⟩) l.length cap ∧ w.cell? ⟨g, k, none⟩ = some (.int .i64 l[k]) ∧ w.frozen? ⟨g, k, none⟩ = false ∧ base ≤ g ∧
      OwnV (w.setCell ⟨g, k, none⟩ (.int .i64 z)) base e v (ints (l.set k z)) := by
  obtain ⟨a, cap, hv, hc⟩ := h.shape
  rw [ints_length] at hv
  obtain ⟨g, ha, hcell, hfr, hb, _⟩ := hc k (by rw [ints_length]; exact hk)
  rw [ints_at hk] at hcell
  subst ha
  subst hv
  refine ⟨g, cap, rfl, hcell, hfr, hb, ?_⟩
  have hs := (h.stored (by rw [ints_length]) k (.int .i64 z)).1
  have e2 : (ints l).set k (.int .i64 z) = ints (l.set k z) := by simp [ints, List.map_set]
  rw [e2] at hs
  exact hs

end Go.Proofs.YtcaakommnglnbaaGreatDoor
