/- Texts that stand in one: FetPlus, CliPlus, PolSpec, SkStep, PolStep. -/
import Derived.Test.YtcaakommnglnbaaGreatDoorFetRowsJ
import Derived.Test.YtcaakommnglnbaaGreatDoorFilesJ
import Derived.Test.YtcaakommnglnbaaGreatDoorStrsJ
import Derived.Test.YtcaakommnglnbaaGreatDoorIntsJ
import Derived.Deep.AppendLies
import Derived.Deep.RegionHeld3
import Derived.Deep.RegionLaw
namespace Go.Proofs.YtcaakommnglnbaaGreatDoor
open Go.RowKit
theorem OwnFet.new (w : World) (e : TypeId) (L : List Fet) (cs : Array Value) (hc : cs = (ftl L).toArray) (hl : L.length ≤ maxLen) : OwnFet (w.alloc (.cells cs e)) w.heap.size e (.slice (some ⟨w.heap.size, 0, none⟩) L.length L.length) L := by
  subst hc
  refine ⟨by rw [ftl_length], .inr ⟨w.heap.size, L.length, _, rfl, Nat.le_refl _, heap_alloc_new w _, Nat.le_refl _, hl, by simp [ftl_length], ?_⟩⟩
  exact List.take_of_length_le (by simp [ftl_length])
theorem FetAt.src {w : World} {a0 : Option Addr} {l : List Fet} {B : Nat} (hI : FetAt w a0 l B) : (a0 = none → l.length = 0) ∧ ∀ ad, a0 = some ad → ∀ j u, (ftl l)[j]? = some u → w.cell? (ad.add j) = some u := by
  refine ⟨fun e => ?_, fun ad e j u hu => ?_⟩
  · cases l with
    | nil => rfl
    | cons x r => obtain ⟨g, off, ha, _⟩ := hI 0 (by simp); rw [e] at ha; cases ha
  · obtain ⟨hj, _⟩ := List.getElem?_eq_some_iff.1 hu
    rw [ftl_length] at hj
    obtain ⟨g, off, ha, _, h0, h1, h2, h3, h4⟩ := hI (j / 5) (by omega)
    rw [e] at ha
    simp only [Option.some.injEq] at ha
    subst ha
    have hat := ftl_at l (j / 5) (by omega)
    rw [Addr.add_mid]
    rcases (by omega : j % 5 = 0 ∨ j % 5 = 1 ∨ j % 5 = 2 ∨ j % 5 = 3 ∨ j % 5 = 4) with h | h | h | h | h
    · have e : j = 5 * (j / 5) := by omega
      rw [e, hat.1] at hu
      rw [show off + j = off + j / 5 * 5 by omega, h0]
      exact hu
    · have e : j = 5 * (j / 5) + 1 := by omega
      rw [e, hat.2.1] at hu
      rw [show off + j = off + j / 5 * 5 + 1 by omega, h1]
      exact hu
    · have e : j = 5 * (j / 5) + 2 := by omega
      rw [e, hat.2.2.1] at hu
      rw [show off + j = off + j / 5 * 5 + 2 by omega, h2]
      exact hu
    · have e : j = 5 * (j / 5) + 3 := by omega
      rw [e, hat.2.2.2.1] at hu
      rw [show off + j = off + j / 5 * 5 + 3 by omega, h3]
      exact hu
    · have e : j = 5 * (j / 5) + 4 := by omega
      rw [e, hat.2.2.2.2] at hu
      rw [show off + j = off + j / 5 * 5 + 4 by omega, h4]
      exact hu
theorem ftl_one (l : List Fet) : ∀ v ∈ ftl l, v.oneCell' = true := by
  intro v hv
  simp only [ftl, List.mem_flatMap, Fet.cells] at hv
  obtain ⟨a, _, h⟩ := hv
  simp at h
  rcases h with rfl | rfl | rfl | rfl | rfl <;> rfl
/-- The row is a block that has just been laid. -/
theorem wpList_plusFet {P : Program} {ops : Array Oper} {rest : List Oper} {o : Oper} {a : Act} {Q : Exit → Act → World → Prop} {w : World} (hgd : o.guard = none) (s x : Operand) (t : TypeId)
    (ho : o.op = .call { callee := .builtin .append, args := #[s, x], argTypes := #[t, t] }) (base : Nat) (e : TypeId) (ht : P.underlying t = some (.slice e))
    (hinfo : (P.info? e).map (fun i => (i.zero, i.size, i.bytes)) = some (some (.agg #[.string ⟨#[]⟩, .string ⟨#[]⟩, .int .i64 0, .int .i64 0, .int .i64 0]), 5, 56)) (v : Value) (A : List Fet) (hs : a.eval s = v) (hown : OwnFet w base e v A)
    (l : List Fet) (cs : Array Value) (hc : cs = (ftl l).toArray) (hx : a.eval x = .slice (some ⟨w.heap.size, 0, none⟩) l.length l.length) (hlen : A.length + l.length ≤ 1800000) (hbase : base ≤ w.heap.size)
    (h : ∀ v' w', OwnFet w' base e v' (A ++ l) → w.grownBy w' v.ownBlock → wpList P ops Q rest (a.put o.dst v') w') :
    wpList P ops Q (o :: rest) a (w.alloc (.cells cs e)) := by
  obtain ⟨i0, hi, hz0, hz1, hz2⟩ := info_parts hinfo
  have hA : FetAt (w.alloc (.cells cs e)) (some ⟨w.heap.size, 0, none⟩) l (w.alloc (.cells cs e)).heap.size := by
    obtain ⟨a', c', hv, hA⟩ := (OwnFet.new w e l cs hc (by unfold maxLen; omega)).at
    simp only [Value.slice.injEq, true_and] at hv
    rw [hv.1]
    exact hA
  refine wpList_append_own _ hgd s x t ho base e i0 _ 5 56 ht hi hz0 hz1 hz2 rfl (by decide) v A.length (ftl A) hs (World.ownsRow.alloc hown _) ⟨w.heap.size, 0, none⟩ l.length l.length (ftl l) hx (ftl_length l) (hA.src.2 _ rfl) (ftl_one l) (by unfold maxLen; omega) (by omega) (by simp; omega) ?_
  intro v' w' h1 h2 _
  refine h v' w' ?_ (grownBy_trans (grownBy_below ((Below.refl _ _).alloc (Nat.le_refl _) _)) h2)
  unfold OwnFet
  rw [ftl_append, List.length_append]
  exact h1
theorem OwnFet.alloc' {w : World} {base : Nat} {e : TypeId} {v : Value} {L : List Fet} (h : OwnFet w base e v L) (o : Obj) : OwnFet (w.alloc o) base e v L := World.ownsRow.alloc h o
end Go.Proofs.YtcaakommnglnbaaGreatDoor

namespace Go.Proofs.YtcaakommnglnbaaGreatDoor
open Go.RowKit
theorem OwnCli.new (w : World) (e : TypeId) (L : List Cli) (cs : Array Value) (hc : cs = (cltl L).toArray) (hl : L.length ≤ maxLen) : OwnCli (w.alloc (.cells cs e)) w.heap.size e (.slice (some ⟨w.heap.size, 0, none⟩) L.length L.length) L := by
  subst hc
  refine ⟨by rw [cltl_length], .inr ⟨w.heap.size, L.length, _, rfl, Nat.le_refl _, heap_alloc_new w _, Nat.le_refl _, hl, by simp [cltl_length], ?_⟩⟩
  exact List.take_of_length_le (by simp [cltl_length])
theorem CliAt.src {w : World} {a0 : Option Addr} {l : List Cli} {B : Nat} (hI : CliAt w a0 l B) : (a0 = none → l.length = 0) ∧ ∀ ad, a0 = some ad → ∀ j u, (cltl l)[j]? = some u → w.cell? (ad.add j) = some u := by
  refine ⟨fun e => ?_, fun ad e j u hu => ?_⟩
  · cases l with
    | nil => rfl
    | cons x r => obtain ⟨g, off, ha, _⟩ := hI 0 (by simp); rw [e] at ha; cases ha
  · obtain ⟨hj, _⟩ := List.getElem?_eq_some_iff.1 hu
    rw [cltl_length] at hj
    obtain ⟨g, off, ha, _, h0, h1, h2, h3, h4, h5, h6⟩ := hI (j / 7) (by omega)
    rw [e] at ha
    simp only [Option.some.injEq] at ha
    subst ha
    have hat := cltl_at l (j / 7) (by omega)
    rw [Addr.add_mid]
    rcases (by omega : j % 7 = 0 ∨ j % 7 = 1 ∨ j % 7 = 2 ∨ j % 7 = 3 ∨ j % 7 = 4 ∨ j % 7 = 5 ∨ j % 7 = 6) with h | h | h | h | h | h | h
    · have e : j = 7 * (j / 7) := by omega
      rw [e, hat.1] at hu
      rw [show off + j = off + j / 7 * 7 by omega, h0]
      exact hu
    · have e : j = 7 * (j / 7) + 1 := by omega
      rw [e, hat.2.1] at hu
      rw [show off + j = off + j / 7 * 7 + 1 by omega, h1]
      exact hu
    · have e : j = 7 * (j / 7) + 2 := by omega
      rw [e, hat.2.2.1] at hu
      rw [show off + j = off + j / 7 * 7 + 2 by omega, h2]
      exact hu
    · have e : j = 7 * (j / 7) + 3 := by omega
      rw [e, hat.2.2.2.1] at hu
      rw [show off + j = off + j / 7 * 7 + 3 by omega, h3]
      exact hu
    · have e : j = 7 * (j / 7) + 4 := by omega
      rw [e, hat.2.2.2.2.1] at hu
      rw [show off + j = off + j / 7 * 7 + 4 by omega, h4]
      exact hu
    · have e : j = 7 * (j / 7) + 5 := by omega
      rw [e, hat.2.2.2.2.2.1] at hu
      rw [show off + j = off + j / 7 * 7 + 5 by omega, h5]
      exact hu
    · have e : j = 7 * (j / 7) + 6 := by omega
      rw [e, hat.2.2.2.2.2.2] at hu
      rw [show off + j = off + j / 7 * 7 + 6 by omega, h6]
      exact hu
theorem cltl_one (l : List Cli) : ∀ v ∈ cltl l, v.oneCell' = true := by
  intro v hv
  simp only [cltl, List.mem_flatMap, Cli.cells] at hv
  obtain ⟨a, _, h⟩ := hv
  simp at h
  rcases h with rfl | rfl | rfl | rfl | rfl | rfl | rfl <;> rfl
/-- The row is a block that has just been laid. -/
theorem wpList_plusCli {P : Program} {ops : Array Oper} {rest : List Oper} {o : Oper} {a : Act} {Q : Exit → Act → World → Prop} {w : World} (hgd : o.guard = none) (s x : Operand) (t : TypeId)
    (ho : o.op = .call { callee := .builtin .append, args := #[s, x], argTypes := #[t, t] }) (base : Nat) (e : TypeId) (ht : P.underlying t = some (.slice e))
    (hinfo : (P.info? e).map (fun i => (i.zero, i.size, i.bytes)) = some (some (.agg #[.int .i64 0, .string ⟨#[]⟩, .int .i64 0, .int .i64 0, .int .i64 0, .string ⟨#[]⟩, .int .i64 0]), 7, 72)) (v : Value) (A : List Cli) (hs : a.eval s = v) (hown : OwnCli w base e v A)
    (l : List Cli) (cs : Array Value) (hc : cs = (cltl l).toArray) (hx : a.eval x = .slice (some ⟨w.heap.size, 0, none⟩) l.length l.length) (hlen : A.length + l.length ≤ 1800000) (hbase : base ≤ w.heap.size)
    (h : ∀ v' w', OwnCli w' base e v' (A ++ l) → w.grownBy w' v.ownBlock → wpList P ops Q rest (a.put o.dst v') w') :
    wpList P ops Q (o :: rest) a (w.alloc (.cells cs e)) := by
  obtain ⟨i0, hi, hz0, hz1, hz2⟩ := info_parts hinfo
  have hA : CliAt (w.alloc (.cells cs e)) (some ⟨w.heap.size, 0, none⟩) l (w.alloc (.cells cs e)).heap.size := by
    obtain ⟨a', c', hv, hA⟩ := (OwnCli.new w e l cs hc (by unfold maxLen; omega)).at
    simp only [Value.slice.injEq, true_and] at hv
    rw [hv.1]
    exact hA
  refine wpList_append_own _ hgd s x t ho base e i0 _ 7 72 ht hi hz0 hz1 hz2 rfl (by decide) v A.length (cltl A) hs (World.ownsRow.alloc hown _) ⟨w.heap.size, 0, none⟩ l.length l.length (cltl l) hx (cltl_length l) (hA.src.2 _ rfl) (cltl_one l) (by unfold maxLen; omega) (by omega) (by simp; omega) ?_
  intro v' w' h1 h2 _
  refine h v' w' ?_ (grownBy_trans (grownBy_below ((Below.refl _ _).alloc (Nat.le_refl _) _)) h2)
  unfold OwnCli
  rw [cltl_append, List.length_append]
  exact h1
theorem OwnCli.alloc' {w : World} {base : Nat} {e : TypeId} {v : Value} {L : List Cli} (h : OwnCli w base e v L) (o : Obj) : OwnCli (w.alloc o) base e v L := World.ownsRow.alloc h o
end Go.Proofs.YtcaakommnglnbaaGreatDoor

namespace Go.Proofs.YtcaakommnglnbaaGreatDoor
open Go.RowKit Go.Sort

theorem bytes_nk {z key : ByteArray} (h : ¬ z = key) : (z.toList == key.toList) = false := by
  rw [ByteArray.toList_eq, ByteArray.toList_eq, beq_eq_false_iff_ne]
  intro e
  exact h (ByteArray.ext (Array.toList_inj.1 e))
theorem inL_take {l : List ByteArray} {s : ByteArray} {k : Nat} (hk : k < l.length) (h : inL (l.take k) s = false) (hn : ¬ l[k] = s) : inL (l.take (k + 1)) s = false := by
  rw [inL_false] at h ⊢
  rw [List.take_succ_eq_append_getElem hk]
  intro hm
  rcases List.mem_append.1 hm with hm | hm
  · exact h hm
  · exact hn (List.mem_singleton.1 hm).symm
theorem Tryz.infoSK : (Tryz.prog.info? 9).map (fun i => (i.zero, i.size, i.bytes)) = some (some (.string ⟨#[]⟩), 1, 16) := by kernel_rfl
set_option maxHeartbeats 2000000 in
theorem l13In_any (w : World) (a : Option Addr) (c : Nat) (L : List ByteArray) (s : ByteArray) (hA : LAt w a L w.heap.size) (hm : L.length ≤ 10000000) :
    Calls Tryz.prog 111 #[.slice a L.length c, .string s] w fun e w' => e = .returned (.bool (inL L s)) ∧ w' = w := by
  go_enter Tryz.func111, Tryz.ntmps111
  go_wp2
  go_loopw [5] (fun i wr => Box (∃ (k : Nat), k ≤ L.length ∧ i = .int .i64 k ∧ Hid (inL (L.take k) s = false) ∧ w = wr))
    (fun i _ => L.length - (intOf i).toNat)
  case atStart => exact ⟨⟨0, by omega, rfl, rfl, rfl⟩⟩
  case round =>
    obtain ⟨k, hk, rfl, HN, rfl⟩ := hrel.out
    by_cases hlt : k < L.length
    · obtain ⟨g, off, rfl, hg, hc⟩ := hA k hlt
      have hi1 : (0 : Int) ≤ (k : Int) := by omega
      have hi2 : (k : Int) < (L.length : Int) := by omega
      by_cases hz : L[k] = s
      · have HT : Hid (inL L s = true) := inL_iff.2 (by rw [← hz]; exact List.getElem_mem hlt)
        rw [hz] at hc
        clear hrel hz hA
        go_wp2
        go_ret
        exact ⟨by rw [HT.out]; rfl, rfl⟩
      · have HT : Hid (inL (L.take (k + 1)) s = false) := inL_take hlt HN.out hz
        have hz1 := bytes_nk hz
        obtain ⟨z, hzz⟩ : ∃ z, L[k] = z := ⟨_, rfl⟩
        rw [hzz] at hc hz1
        clear hrel hz hzz hA
        go_wp2
        go_roundw
        case rel =>
          try ((repeat apply Exists.intro); refine ⟨?_, rfl⟩)
          exact ⟨⟨k + 1, by omega, by go_num, HT, by first | rfl | trivial⟩⟩
        case measure => simp [intOf]; omega
    · go_wp2
      go_ret
      have hke : k = L.length := by omega
      have := HN.out
      rw [hke, List.take_length] at this
      exact ⟨by rw [this]; rfl, rfl⟩
theorem l13Key_any (w : World) (s : ByteArray) (hs : s.size ≤ 10000000) :
    Calls Tryz.prog 68 #[.string s] w fun e w' => e = .returned (.bool (keyOk s)) ∧ w' = w := by
  have c := in_any (s.size : Int) 1 30 w
  have e : inN (s.size : Int) 1 30 = keyOk s := by
    unfold inN keyOk
    by_cases h : 1 ≤ s.size ∧ s.size ≤ 30
    · rw [decide_eq_true h, decide_eq_true (by omega)]
    · rw [decide_eq_false h, decide_eq_false (by omega)]
  rw [e] at c
  clear e
  go_enter Tryz.func68, Tryz.ntmps68
  go_wp2_with (go_at_call 43; refine c.mono ?_; rintro e w' ⟨rfl, rfl⟩)
  go_ret
  exact ⟨rfl, rfl⟩
theorem without_take {l : List ByteArray} {s : ByteArray} {k : Nat} (hk : k < l.length) : without (l.take (k + 1)) s = without (l.take k) s ++ if l[k] = s then [] else [l[k]] := by
  unfold without
  rw [List.take_succ_eq_append_getElem hk, List.filter_append]
  by_cases h : l[k] = s <;> simp [h]
set_option maxHeartbeats 2000000 in
theorem specPolicyHas_any (w : World) (aw am ak : Option Addr) (cw cm ck : Nat) (P : Pol) (key : ByteArray) (hA : PolAt w aw am ak P w.heap.size) (hm : P.win.length ≤ 10000000) (hm' : P.main.length ≤ 10000000) :
    Calls Tryz.prog 88 #[.agg #[.slice aw P.win.length cw, .slice am P.main.length cm, .slice ak P.sk.rows.length ck, .int .i64 P.sk.added], .string key] w fun e w' => e = .returned (.bool (hasP P key)) ∧ Below w.heap.size w w' := by
  obtain ⟨w1, hw1⟩ : ∃ x, w.alloc (.cells #[.slice aw P.win.length cw, .slice am P.main.length cm, .slice ak P.sk.rows.length ck, .int .i64 P.sk.added] 37) = x := ⟨_, rfl⟩
  have hb1 : Below w.heap.size w w1 := by rw [← hw1]; exact (Below.refl _ _).alloc (Nat.le_refl _) _
  have hB : PBox w1 w.heap.size (.slice aw P.win.length cw) (.slice am P.main.length cm) (.slice ak P.sk.rows.length ck) (.int .i64 P.sk.added) := by rw [← hw1]; exact PBox.new _ _ _ _ _
  have hA1 := hA.on hb1
  obtain ⟨b0, b1, b2, b3⟩ := hB.cells
  have c1 := l13In_any w1 aw cw P.win key hA1.1 hm
  have c2 := l13In_any w1 am cm P.main key hA1.2.1 hm'
  have HW : Hid (w.alloc (.cells #[.slice aw P.win.length cw, .slice am P.main.length cm, .slice ak P.sk.rows.length ck, .int .i64 P.sk.added] 37) = w1) := hw1
  rw [← hw1] at b0 b1 b2 b3
  clear hw1 hB hA1 hA
  go_enter Tryz.func88, Tryz.ntmps88
  cases h : inL P.win key with
  | true =>
    rw [h] at c1
    have HH : Hid (hasP P key = true) := by show _ = _; simp [hasP, h]
    clear h
    go_wp2_with fail
    rw [HW.out] at b0 b1 b2 b3 ⊢
    refine c1.mono ?_
    rintro e w' ⟨rfl, rfl⟩
    go_wp2_with fail
    go_ret
    exact ⟨by rw [HH.out]; rfl, hb1⟩
  | false =>
    rw [h] at c1
    have HH : Hid (hasP P key = inL P.main key) := by show _ = _; simp [hasP, h]
    clear h
    go_wp2_with fail
    rw [HW.out] at b0 b1 b2 b3 ⊢
    refine c1.mono ?_
    rintro e w' ⟨rfl, rfl⟩
    generalize inL P.main key = q at c2 HH
    go_wp2_with fail
    refine c2.mono ?_
    rintro e w' ⟨rfl, rfl⟩
    go_wp2_with fail
    go_ret
    exact ⟨by rw [HH.out]; rfl, hb1⟩
end Go.Proofs.YtcaakommnglnbaaGreatDoor

namespace Go.Proofs.YtcaakommnglnbaaGreatDoor
open Go.RowKit Go.Sort

/-- An append of all onto an empty row without room: a row of its own, or the same. -/
theorem step_allI {P : Program} {ops : Array Oper} {o : Oper} {a : Act} {K : Act → World → Prop} {Q : Exit → Act → World → Prop} {E' : Prop} {w : World} (hgd : o.guard = none) (s x : Operand) (t : TypeId)
    (ho : o.op = .call { callee := .builtin .append, args := #[s, x], argTypes := #[t, t] }) (e : TypeId) (ht : P.underlying t = some (.slice e)) (z : Value) (size bytes : Nat)
    (hinfo : (P.info? e).map (fun i => (i.zero, i.size, i.bytes)) = some (some z, size, bytes)) (hzs : z.cells.size = size) (hsz : 0 < size) (hby : bytes ≤ 1000)
    (G : Nat) (hs : a.eval s = .slice (some ⟨G, 0, none⟩) 0 0) (hG : w.heap[G]? = some (.cells #[] e (0, 0)))
    (a0 : Option Addr) (n cap : Nat) (news : List Value) (hx : a.eval x = .slice a0 n cap) (hl : news.length = n * size) (hnone : a0 = none → n = 0) (hnews : ∀ ad, a0 = some ad → ∀ j u, news[j]? = some u → w.cell? (ad.add j) = some u) (h1 : ∀ u ∈ news, u.oneCell' = true) (hn : n ≤ 1048576)
    (h : ∀ g c w', w'.ownsRow G e size (.slice (some ⟨g, 0, none⟩) n c) n news → Below G w w' → (g = G ∨ w.heap.size ≤ g) → (∀ k, k < w.heap.size → k ≠ G → w'.heap[k]? = w.heap[k]?) → K (a.put o.dst (.slice (some ⟨g, 0, none⟩) n c)) w') :
    if Region.wanted o (yielded ops a.tmps) = true then Oper.wp P o a w K Q else E' := by
  obtain ⟨i0, hi, hz0, hz1, hz2⟩ := info_parts hinfo
  have hGs : G < w.heap.size := (Array.getElem?_eq_some_iff.1 hG).1
  by_cases h0 : n = 0
  · subst h0
    have hnil : news = [] := List.length_eq_zero_iff.1 (by simpa using hl)
    subst hnil
    have hw : Region.wanted o (yielded ops a.tmps) = true := by simp [Region.wanted, hgd]
    rw [if_pos hw]
    have hrun : (Builtin.append_ #[t, t] o.type #[.slice (some ⟨G, 0, none⟩) 0 0, .slice a0 0 cap]).run P w = .ok (.slice (some ⟨G, 0, none⟩) 0 0) w := by
      cases a0 with
      | none => simp [Builtin.append_, run_underlying ht, sizeOf, typeInfo, hi, Builtin.lenOf, Builtin.firstCells, storeCells]
      | some ad =>
        have hld := run_loadCells_list (P := P) w ad [] (fun j u hu => by simp at hu)
        simp at hld
        simp [Builtin.append_, run_underlying ht, sizeOf, typeInfo, hi, Builtin.lenOf, Builtin.firstCells, storeCells, hld]
    unfold Oper.wp
    simp [execOp, ho, resolve, invoke, builtin, hs, hx, hrun, Result.andThen]
    exact h G 0 w ⟨by simp, .inr ⟨G, 0, #[], rfl, Nat.le_refl _, hG, Nat.le_refl _, by simp [maxLen], by simp, by simp⟩⟩ (Below.refl _ _) (.inl rfl) (fun _ _ _ => rfl)
  · obtain ⟨ad, rfl⟩ : ∃ ad, a0 = some ad := by
      cases a0 with
      | none => exact absurd (hnone rfl) h0
      | some ad => exact ⟨ad, rfl⟩
    have hown : w.ownsRow G e size (.slice (some ⟨G, 0, none⟩) 0 0) 0 [] := ⟨by simp, .inr ⟨G, 0, #[], rfl, Nat.le_refl _, hG, Nat.le_refl _, by simp [maxLen], by simp, by simp⟩⟩
    have hbs : (0 + n) * bytes ≤ 140737488355328 := by
      have : (0 + n) * bytes ≤ 1048576 * 1000 := by rw [Nat.zero_add]; exact Nat.mul_le_mul hn hby
      omega
    refine step_append_lies w hgd s x t ho G e i0 z size bytes ht hi hz0 hz1 hz2 hzs hsz _ 0 [] hs hown ad n cap news hx hl (hnews ad rfl) h1 (by omega) (by unfold maxLen; omega) hbs (by omega) w.heap.size rfl ?_
    intro g c w' ho' hgr hg hgl
    rw [Nat.zero_add, List.nil_append] at ho'
    rw [Nat.zero_add]
    refine h g c w' ho' ((Below.refl _ w).grown hgr (by omega) (fun k e => by cases e; exact Nat.le_refl _)) ?_ (fun k hk hne => hgr.block k hk (fun e => hne (by cases e; rfl)))
    rcases hg with hg | hg
    · left; cases hg; rfl
    · right; omega

theorem IAt.srcI {w : World} {a0 : Option Addr} {l : List Int} {B : Nat} (h : IAt w a0 l B) : (a0 = none → l.length = 0) ∧ ∀ ad, a0 = some ad → ∀ j u, (ints l)[j]? = some u → w.cell? (ad.add j) = some u := by
  refine ⟨fun e => ?_, fun ad e j u hu => ?_⟩
  · cases l with
    | nil => rfl
    | cons x r => obtain ⟨g, off, ha, _⟩ := h 0 (by simp); rw [e] at ha; cases ha
  · have hj := (List.getElem?_eq_some_iff.1 hu).1
    rw [ints_length] at hj
    obtain ⟨g, off, ha, _, hc⟩ := h j hj
    rw [e] at ha
    simp only [Option.some.injEq] at ha
    subst ha
    rw [Addr.add_mid, hc]
    rw [List.getElem?_eq_getElem (by rw [ints_length]; exact hj), ints_at hj] at hu
    exact hu
theorem bdrewS (w : World) : Below w.heap.size w w.drew := ⟨rfl, rfl, rfl, Nat.le_refl _, fun _ _ => rfl⟩
/-- One value more is appended to a row that is owned. -/
theorem step_snocO {P : Program} {ops : Array Oper} {o : Oper} {a : Act} {K : Act → World → Prop} {Q : Exit → Act → World → Prop} {E : Prop} {w : World} (hgd : o.guard = none) (s x : Operand) (t : TypeId)
    (ho : o.op = .call { callee := .builtin .append, args := #[s, x], argTypes := #[t, t] }) (base : Nat) (e : TypeId) (ht : P.underlying t = some (.slice e)) (z : Value) (bytes : Nat)
    (hinfo : (P.info? e).map (fun i => (i.zero, i.size, i.bytes)) = some (some z, 1, bytes)) (hzc : z.cells.size = 1) (v : Value) (xs : List Value) (hs : a.eval s = v) (hown : OwnV w base e v xs)
    (B : Nat) (y : Value) (fr : Nat × Nat) (hx : a.eval x = .slice (some ⟨B, 0, none⟩) 1 1) (hB : w.heap[B]? = some (.cells #[y] e fr)) (hy : y.oneCell' = true) (hlen : (xs.length + 1) * bytes ≤ 140737488355328) (hlen2 : xs.length < 140737488355328) (hbase : base ≤ w.heap.size)
    (h : ∀ g cap w', OwnV w' base e (.slice (some ⟨g, 0, none⟩) (xs.length + 1) cap) (xs ++ [y]) → w.grownBy w' v.ownBlock → K (a.put o.dst (.slice (some ⟨g, 0, none⟩) (xs.length + 1) cap)) w') :
    if Region.wanted o (yielded ops a.tmps) = true then Oper.wp P o a w K Q else E := by
  obtain ⟨i0, hi, hz0, hz1, hz2⟩ := info_parts hinfo
  refine step_append_lies w hgd s x t ho base e i0 z 1 bytes ht hi hz0 hz1 hz2 hzc (by decide) v xs.length xs hs hown ⟨B, 0, none⟩ 1 1 [y] hx rfl (fun j u hu => World.news_of_block hB j u (by simpa using hu)) ?_ (by decide) (by unfold maxLen; omega) hlen hbase w.heap.size rfl ?_
  · intro u hu
    simp at hu
    subst hu
    exact hy
  · intro g cap w' h1 h2 _ _
    refine h g cap w' ?_ h2
    unfold OwnV
    rw [List.length_append, List.length_singleton]
    exact h1
/-- Rows of numbers are no rows of rows. -/
theorem ownVS_ne {w : World} {b1 b2 : Nat} {v u : Value} {xs ys : List Value} (h1 : OwnV w b1 3 v xs) (h2 : OwnV w b2 139 u ys) : ∀ k, v.ownBlock = some k → u.ownBlock ≠ some k := by
  intro k hk hu
  rcases h1.2 with ⟨rfl, _⟩ | ⟨g, cap, cur, rfl, _, hg, _⟩
  · simp [Value.ownBlock] at hk
  · rcases h2.2 with ⟨rfl, _⟩ | ⟨g', cap', cur', rfl, _, hg', _⟩
    · simp [Value.ownBlock] at hu
    · simp [Value.ownBlock] at hk hu
      subst hk
      subst hu
      have := hg.symm.trans hg'
      simp at this
/-- One row more, just made, is appended. -/
theorem OwnSS.grow {wr wx w' : World} {lo : Nat} {v v' u : Value} {LL : List (List Int)} {l : List Int} {vs : List Value} (hv : OwnV wr lo 139 v vs) (hl : vs.length = LL.length)
    (hr : ∀ (i : Nat) (u : Value) (l : List Int), vs[i]? = some u → LL[i]? = some l → OwnV wr lo 3 u (ints l) ∧ ∀ k, u.ownBlock = some k → k < wr.heap.size)
    (hd : ∀ (i j : Nat) (u u' : Value) (k : Nat), vs[i]? = some u → vs[j]? = some u' → u.ownBlock = some k → u'.ownBlock = some k → i = j)
    (hx : Below wr.heap.size wr wx) (hu : OwnV wx wr.heap.size 3 u (ints l)) (hg : wx.grownBy w' v.ownBlock) (hv' : OwnV w' lo 139 v' (vs ++ [u])) (hlo : lo ≤ wr.heap.size) : OwnSS w' lo w'.heap.size v' (LL ++ [l]) := by
  have hvx := hv.below hx (Nat.le_refl _)
  refine OwnSS.snoc (hi := wr.heap.size) hl (fun i x m hx' hm => ?_) hd hv' (hu.grown hg fun k hk e => ownVS_ne hu hvx k hk e) hlo
  obtain ⟨h1, h2⟩ := hr i x m hx' hm
  have h1x := h1.below hx (Nat.le_refl _)
  exact ⟨h1x.grown hg fun k hk e => ownVS_ne h1x hvx k hk e, h2⟩
/-- A variable T that gathers rows: one more, just made, is appended and stored back. -/
theorem gatherSS {w wr wx w3 : World} {B T lo : Nat} {v v' u n : Value} {LL : List (List Int)} {l : List Int} {vs : List Value} (hT : SkBox wr T v n) (hTl : T < lo) (hlo : lo ≤ wr.heap.size) (hbel : Below B w wr) (hBT : B ≤ T)
    (hv : OwnV wr lo 139 v vs) (hl : vs.length = LL.length)
    (hr : ∀ (i : Nat) (u : Value) (l : List Int), vs[i]? = some u → LL[i]? = some l → OwnV wr lo 3 u (ints l) ∧ ∀ k, u.ownBlock = some k → k < wr.heap.size)
    (hd : ∀ (i j : Nat) (u u' : Value) (k : Nat), vs[i]? = some u → vs[j]? = some u' → u.ownBlock = some k → u'.ownBlock = some k → i = j)
    (hx : Below wr.heap.size wr wx) (hu : OwnV wx wr.heap.size 3 u (ints l)) (hg : wx.grownBy w3 v.ownBlock) (hv' : OwnV w3 lo 139 v' (vs ++ [u])) :
    w3.cell? ⟨T, 0, none⟩ = some v ∧ w3.frozen? ⟨T, 0, none⟩ = false ∧ SkBox (w3.setCell ⟨T, 0, none⟩ v') T v' n ∧ OwnSS (w3.setCell ⟨T, 0, none⟩ v') lo (w3.setCell ⟨T, 0, none⟩ v').heap.size v' (LL ++ [l]) ∧
      (∀ j, j < lo → j ≠ T → (w3.setCell ⟨T, 0, none⟩ v').heap[j]? = wr.heap[j]?) ∧ Below B w (w3.setCell ⟨T, 0, none⟩ v') := by
  have hvb : ∀ k, v.ownBlock = some k → lo ≤ k := fun k hk => (hv.lt k hk).1
  have hxs := hx.size
  have keep : ∀ j, j < lo → w3.heap[j]? = wr.heap[j]? := fun j hj => (hg.block j (by omega) (fun e => by have := hvb j e.symm; omega)).trans (hx.block j (by omega))
  have hT3 : SkBox w3 T v n := hT.kept (keep T hTl)
  have hO := OwnSS.grow hv hl hr hd hx hu hg hv' hlo
  have hbs := hT.lt
  refine ⟨hT3.cells.1, hT3.thaw 0, hT3.set0 v', by simpa using hO.far hT3 0 v', fun j hj hn => ?_, ?_⟩
  · rw [Below.heap_setCell _ _ _ _ (by exact hn)]
    exact keep j hj
  · exact ((hbel.trans (hx.mono (by omega))).grown hg (by omega) (fun k hk => by have := hvb k hk; omega)).setCell (show B ≤ T from hBT) _
end Go.Proofs.YtcaakommnglnbaaGreatDoor

namespace Go.Proofs.YtcaakommnglnbaaGreatDoor
open Go.RowKit Go.Sort

/-- An append of all onto an owned row. -/
theorem step_plusO {P : Program} {ops : Array Oper} {o : Oper} {a : Act} {K : Act → World → Prop} {Q : Exit → Act → World → Prop} {E' : Prop} {w : World} (hgd : o.guard = none) (s x : Operand) (t : TypeId)
    (ho : o.op = .call { callee := .builtin .append, args := #[s, x], argTypes := #[t, t] }) (base : Nat) (e : TypeId) (ht : P.underlying t = some (.slice e)) (z : Value) (bytes : Nat)
    (hinfo : (P.info? e).map (fun i => (i.zero, i.size, i.bytes)) = some (some z, 1, bytes)) (hzs : z.cells.size = 1) (hby : bytes ≤ 1000)
    (G m c0 : Nat) (xs : List Value) (hs : a.eval s = .slice (some ⟨G, 0, none⟩) m c0) (hown : OwnV w base e (.slice (some ⟨G, 0, none⟩) m c0) xs) (hm : m = xs.length) (hmb : m ≤ 10000000) (hbase : base ≤ w.heap.size)
    (a0 : Option Addr) (n cap : Nat) (news : List Value) (hx : a.eval x = .slice a0 n cap) (hl : news.length = n) (hnone : a0 = none → n = 0) (hnews : ∀ ad, a0 = some ad → ∀ j u, news[j]? = some u → w.cell? (ad.add j) = some u) (h1 : ∀ u ∈ news, u.oneCell' = true) (hn : n ≤ 10000000)
    (h : ∀ g c w', OwnV w' base e (.slice (some ⟨g, 0, none⟩) (m + n) c) (xs ++ news) → w.grownBy w' (some G) → K (a.put o.dst (.slice (some ⟨g, 0, none⟩) (m + n) c)) w') :
    if Region.wanted o (yielded ops a.tmps) = true then Oper.wp P o a w K Q else E' := by
  obtain ⟨i0, hi, hz0, hz1, hz2⟩ := info_parts hinfo
  by_cases h0 : n = 0
  · subst h0
    have hnil : news = [] := List.length_eq_zero_iff.1 hl
    subst hnil
    have hw : Region.wanted o (yielded ops a.tmps) = true := by simp [Region.wanted, hgd]
    rw [if_pos hw]
    have hmc : m ≤ c0 := by
      rcases hown.2 with ⟨e1, _⟩ | ⟨g, cp, cur, e1, _, _, hle, _⟩
      · cases e1
      · simp only [Value.slice.injEq] at e1
        omega
    have hrun : (Builtin.append_ #[t, t] o.type #[.slice (some ⟨G, 0, none⟩) m c0, .slice a0 0 cap]).run P w = .ok (.slice (some ⟨G, 0, none⟩) m c0) w := by
      cases a0 with
      | none => simp [Builtin.append_, run_underlying ht, sizeOf, typeInfo, hi, Builtin.lenOf, Builtin.firstCells, storeCells, hmc]
      | some ad =>
        have hld := run_loadCells_list (P := P) w ad [] (fun j u hu => by simp at hu)
        simp at hld
        simp [Builtin.append_, run_underlying ht, sizeOf, typeInfo, hi, Builtin.lenOf, Builtin.firstCells, storeCells, hld, hmc]
    unfold Oper.wp
    simp [execOp, ho, resolve, invoke, builtin, hs, hx, hrun, Result.andThen]
    exact h G c0 w (by rw [List.append_nil]; exact hown) (grownBy_refl _ _)
  · obtain ⟨ad, rfl⟩ : ∃ ad, a0 = some ad := by
      cases a0 with
      | none => exact absurd (hnone rfl) h0
      | some ad => exact ⟨ad, rfl⟩
    subst hm
    have hbs : (xs.length + n) * bytes ≤ 140737488355328 := by
      have : (xs.length + n) * bytes ≤ 20000000 * 1000 := Nat.mul_le_mul (by omega) hby
      omega
    refine step_append_lies w hgd s x t ho base e i0 z 1 bytes ht hi hz0 hz1 hz2 hzs (by decide) _ xs.length xs hs hown ad n cap news hx (by omega) (hnews ad rfl) h1 (by omega) (by unfold maxLen; omega) hbs hbase w.heap.size rfl ?_
    intro g c w' ho' hgr _ _
    refine h g c w' ?_ hgr
    unfold OwnV
    rw [List.length_append, hl]
    exact ho'
theorem LAt.srcS {w : World} {a0 : Option Addr} {l : List ByteArray} {B : Nat} (h : LAt w a0 l B) : (a0 = none → l.length = 0) ∧ ∀ ad, a0 = some ad → ∀ j u, (strs l)[j]? = some u → w.cell? (ad.add j) = some u := by
  refine ⟨fun e => ?_, fun ad e j u hu => ?_⟩
  · cases l with
    | nil => rfl
    | cons x r => obtain ⟨g, off, ha, _⟩ := h 0 (by simp); rw [e] at ha; cases ha
  · have hj := (List.getElem?_eq_some_iff.1 hu).1
    rw [strs_length] at hj
    obtain ⟨g, off, ha, _, hc⟩ := h j hj
    rw [e] at ha
    simp only [Option.some.injEq] at ha
    subst ha
    rw [Addr.add_mid, hc]
    simp [strs, List.getElem?_eq_getElem hj] at hu
    rw [hu]
theorem strs_one (l : List ByteArray) : ∀ u ∈ strs l, u.oneCell' = true := by
  intro u hu
  simp only [strs, List.mem_map] at hu
  obtain ⟨b, _, rfl⟩ := hu
  rfl
theorem ownV_of_rowS {w : World} {base : Nat} {v : Value} {l : List ByteArray} (h : w.ownsRow base 9 1 v l.length (strs l)) : OwnV w base 9 v (strs l) := by unfold OwnV; rw [strs_length]; exact h
end Go.Proofs.YtcaakommnglnbaaGreatDoor
