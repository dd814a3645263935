/- Texts that stand in one: FetPlus, CliPlus, PolSpec. -/
import Derived.Test.YtonaaimefcgcnaaFetRows
import Derived.Test.YtonaaimefcgcnaaEnRowsJ
import Derived.Test.YtonaaimefcgcnaaCliRows
import Derived.Test.YtonaaimefcgcnaaStrsJ
import Derived.Test.YtonaaimefcgcnaaRowedJ
namespace Go.Proofs.Ytonaaimefcgcnaa
open Go.RowKit
theorem OwnFet.new (w : World) (e : TypeId) (L : List Fet) (cs : Array Value) (hc : cs = (ftl L).toArray) (hl : L.length ≤ maxLen) : OwnFet (w.alloc (.cells cs e)) w.heap.size e (.slice (some ⟨w.heap.size, 0, none⟩) L.length L.length) L := by
  subst hc
  refine ⟨by rw [ftl_length], .inr ⟨w.heap.size, L.length, _, rfl, Nat.le_refl _, heap_alloc_new w _, Nat.le_refl _, hl, by simp [ftl_length], ?_⟩⟩
  exact List.take_of_length_le (by simp [ftl_length])
theorem FetAt.src {w : World} {a0 : Option Addr} {l : List Fet} {B : Nat} (hI : FetAt w a0 l B) : (a0 = none → l.length = 0) ∧ ∀ ad, a0 = some ad → ∀ j u, (ftl l)[j]? = some u → w.cell? (ad.add j) = some u := by
  refine ⟨fun e => ?_, fun ad e j u hu => ?_⟩
  · cases l with
    | nil => rfl
    | cons x r => obtain ⟨g, off, ha, _⟩ := hI 0 (by simp); rw [e] at ha; cases ha
  · obtain ⟨hj, _⟩ := List.getElem?_eq_some_iff.1 hu
    rw [ftl_length] at hj
    obtain ⟨g, off, ha, _, h0, h1, h2, h3, h4⟩ := hI (j / 5) (by omega)
    rw [e] at ha
    simp only [Option.some.injEq] at ha
    subst ha
    have hat := ftl_at l (j / 5) (by omega)
    rw [Addr.add_mid]
    rcases (by omega : j % 5 = 0 ∨ j % 5 = 1 ∨ j % 5 = 2 ∨ j % 5 = 3 ∨ j % 5 = 4) with h | h | h | h | h
    · have e : j = 5 * (j / 5) := by omega
      rw [e, hat.1] at hu
      rw [show off + j = off + j / 5 * 5 by omega, h0]
      exact hu
    · have e : j = 5 * (j / 5) + 1 := by omega
      rw [e, hat.2.1] at hu
      rw [show off + j = off + j / 5 * 5 + 1 by omega, h1]
      exact hu
    · have e : j = 5 * (j / 5) + 2 := by omega
      rw [e, hat.2.2.1] at hu
      rw [show off + j = off + j / 5 * 5 + 2 by omega, h2]
      exact hu
    · have e : j = 5 * (j / 5) + 3 := by omega
      rw [e, hat.2.2.2.1] at hu
      rw [show off + j = off + j / 5 * 5 + 3 by omega, h3]
      exact hu
    · have e : j = 5 * (j / 5) + 4 := by omega
      rw [e, hat.2.2.2.2] at hu
      rw [show off + j = off + j / 5 * 5 + 4 by omega, h4]
      exact hu
theorem ftl_one (l : List Fet) : ∀ v ∈ ftl l, v.oneCell' = true := by
  intro v hv
  simp only [ftl, List.mem_flatMap, Fet.cells] at hv
  obtain ⟨a, _, h⟩ := hv
  simp at h
  rcases h with rfl | rfl | rfl | rfl | rfl <;> rfl
/-- The row is a block that has just been laid. -/
theorem wpList_plusFet {P : Program} {ops : Array Oper} {rest : List Oper} {o : Oper} {a : Act} {Q : Exit → Act → World → Prop} {w : World} (hgd : o.guard = none) (s x : Operand) (t : TypeId)
    (ho : o.op = .call { callee := .builtin .append, args := #[s, x], argTypes := #[t, t] }) (base : Nat) (e : TypeId) (ht : P.underlying t = some (.slice e))
    (hinfo : (P.info? e).map (fun i => (i.zero, i.size, i.bytes)) = some (some (.agg #[.string ⟨#[]⟩, .string ⟨#[]⟩, .int .i64 0, .int .i64 0, .int .i64 0]), 5, 56)) (v : Value) (A : List Fet) (hs : a.eval s = v) (hown : OwnFet w base e v A)
    (l : List Fet) (cs : Array Value) (hc : cs = (ftl l).toArray) (hx : a.eval x = .slice (some ⟨w.heap.size, 0, none⟩) l.length l.length) (hlen : A.length + l.length ≤ 1800000) (hbase : base ≤ w.heap.size)
    (h : ∀ v' w', OwnFet w' base e v' (A ++ l) → w.grownBy w' v.ownBlock → wpList P ops Q rest (a.put o.dst v') w') :
    wpList P ops Q (o :: rest) a (w.alloc (.cells cs e)) := by
  obtain ⟨i0, hi, hz0, hz1, hz2⟩ := info_parts hinfo
  have hA : FetAt (w.alloc (.cells cs e)) (some ⟨w.heap.size, 0, none⟩) l (w.alloc (.cells cs e)).heap.size := by
    obtain ⟨a', c', hv, hA⟩ := (OwnFet.new w e l cs hc (by unfold maxLen; omega)).at
    simp only [Value.slice.injEq, true_and] at hv
    rw [hv.1]
    exact hA
  refine wpList_append_own _ hgd s x t ho base e i0 _ 5 56 ht hi hz0 hz1 hz2 rfl (by decide) v A.length (ftl A) hs (World.ownsRow.alloc hown _) ⟨w.heap.size, 0, none⟩ l.length l.length (ftl l) hx (ftl_length l) (hA.src.2 _ rfl) (ftl_one l) (by unfold maxLen; omega) (by omega) (by simp; omega) ?_
  intro v' w' h1 h2 _
  refine h v' w' ?_ (grownBy_trans (grownBy_below ((Below.refl _ _).alloc (Nat.le_refl _) _)) h2)
  unfold OwnFet
  rw [ftl_append, List.length_append]
  exact h1
theorem OwnFet.alloc' {w : World} {base : Nat} {e : TypeId} {v : Value} {L : List Fet} (h : OwnFet w base e v L) (o : Obj) : OwnFet (w.alloc o) base e v L := World.ownsRow.alloc h o
end Go.Proofs.Ytonaaimefcgcnaa

namespace Go.Proofs.Ytonaaimefcgcnaa
open Go.RowKit
theorem OwnCli.new (w : World) (e : TypeId) (L : List Cli) (cs : Array Value) (hc : cs = (cltl L).toArray) (hl : L.length ≤ maxLen) : OwnCli (w.alloc (.cells cs e)) w.heap.size e (.slice (some ⟨w.heap.size, 0, none⟩) L.length L.length) L := by
  subst hc
  refine ⟨by rw [cltl_length], .inr ⟨w.heap.size, L.length, _, rfl, Nat.le_refl _, heap_alloc_new w _, Nat.le_refl _, hl, by simp [cltl_length], ?_⟩⟩
  exact List.take_of_length_le (by simp [cltl_length])
theorem CliAt.src {w : World} {a0 : Option Addr} {l : List Cli} {B : Nat} (hI : CliAt w a0 l B) : (a0 = none → l.length = 0) ∧ ∀ ad, a0 = some ad → ∀ j u, (cltl l)[j]? = some u → w.cell? (ad.add j) = some u := by
  refine ⟨fun e => ?_, fun ad e j u hu => ?_⟩
  · cases l with
    | nil => rfl
    | cons x r => obtain ⟨g, off, ha, _⟩ := hI 0 (by simp); rw [e] at ha; cases ha
  · obtain ⟨hj, _⟩ := List.getElem?_eq_some_iff.1 hu
    rw [cltl_length] at hj
    obtain ⟨g, off, ha, _, h0, h1, h2, h3, h4, h5, h6⟩ := hI (j / 7) (by omega)
    rw [e] at ha
    simp only [Option.some.injEq] at ha
    subst ha
    have hat := cltl_at l (j / 7) (by omega)
    rw [Addr.add_mid]
    rcases (by omega : j % 7 = 0 ∨ j % 7 = 1 ∨ j % 7 = 2 ∨ j % 7 = 3 ∨ j % 7 = 4 ∨ j % 7 = 5 ∨ j % 7 = 6) with h | h | h | h | h | h | h
    · have e : j = 7 * (j / 7) := by omega
      rw [e, hat.1] at hu
      rw [show off + j = off + j / 7 * 7 by omega, h0]
      exact hu
    · have e : j = 7 * (j / 7) + 1 := by omega
      rw [e, hat.2.1] at hu
      rw [show off + j = off + j / 7 * 7 + 1 by omega, h1]
      exact hu
    · have e : j = 7 * (j / 7) + 2 := by omega
      rw [e, hat.2.2.1] at hu
      rw [show off + j = off + j / 7 * 7 + 2 by omega, h2]
      exact hu
    · have e : j = 7 * (j / 7) + 3 := by omega
      rw [e, hat.2.2.2.1] at hu
      rw [show off + j = off + j / 7 * 7 + 3 by omega, h3]
      exact hu
    · have e : j = 7 * (j / 7) + 4 := by omega
      rw [e, hat.2.2.2.2.1] at hu
      rw [show off + j = off + j / 7 * 7 + 4 by omega, h4]
      exact hu
    · have e : j = 7 * (j / 7) + 5 := by omega
      rw [e, hat.2.2.2.2.2.1] at hu
      rw [show off + j = off + j / 7 * 7 + 5 by omega, h5]
      exact hu
    · have e : j = 7 * (j / 7) + 6 := by omega
      rw [e, hat.2.2.2.2.2.2] at hu
      rw [show off + j = off + j / 7 * 7 + 6 by omega, h6]
      exact hu
theorem cltl_one (l : List Cli) : ∀ v ∈ cltl l, v.oneCell' = true := by
  intro v hv
  simp only [cltl, List.mem_flatMap, Cli.cells] at hv
  obtain ⟨a, _, h⟩ := hv
  simp at h
  rcases h with rfl | rfl | rfl | rfl | rfl | rfl | rfl <;> rfl
/-- The row is a block that has just been laid. -/
theorem wpList_plusCli {P : Program} {ops : Array Oper} {rest : List Oper} {o : Oper} {a : Act} {Q : Exit → Act → World → Prop} {w : World} (hgd : o.guard = none) (s x : Operand) (t : TypeId)
    (ho : o.op = .call { callee := .builtin .append, args := #[s, x], argTypes := #[t, t] }) (base : Nat) (e : TypeId) (ht : P.underlying t = some (.slice e))
    (hinfo : (P.info? e).map (fun i => (i.zero, i.size, i.bytes)) = some (some (.agg #[.int .i64 0, .string ⟨#[]⟩, .int .i64 0, .int .i64 0, .int .i64 0, .string ⟨#[]⟩, .int .i64 0]), 7, 72)) (v : Value) (A : List Cli) (hs : a.eval s = v) (hown : OwnCli w base e v A)
    (l : List Cli) (cs : Array Value) (hc : cs = (cltl l).toArray) (hx : a.eval x = .slice (some ⟨w.heap.size, 0, none⟩) l.length l.length) (hlen : A.length + l.length ≤ 1800000) (hbase : base ≤ w.heap.size)
    (h : ∀ v' w', OwnCli w' base e v' (A ++ l) → w.grownBy w' v.ownBlock → wpList P ops Q rest (a.put o.dst v') w') :
    wpList P ops Q (o :: rest) a (w.alloc (.cells cs e)) := by
  obtain ⟨i0, hi, hz0, hz1, hz2⟩ := info_parts hinfo
  have hA : CliAt (w.alloc (.cells cs e)) (some ⟨w.heap.size, 0, none⟩) l (w.alloc (.cells cs e)).heap.size := by
    obtain ⟨a', c', hv, hA⟩ := (OwnCli.new w e l cs hc (by unfold maxLen; omega)).at
    simp only [Value.slice.injEq, true_and] at hv
    rw [hv.1]
    exact hA
  refine wpList_append_own _ hgd s x t ho base e i0 _ 7 72 ht hi hz0 hz1 hz2 rfl (by decide) v A.length (cltl A) hs (World.ownsRow.alloc hown _) ⟨w.heap.size, 0, none⟩ l.length l.length (cltl l) hx (cltl_length l) (hA.src.2 _ rfl) (cltl_one l) (by unfold maxLen; omega) (by omega) (by simp; omega) ?_
  intro v' w' h1 h2 _
  refine h v' w' ?_ (grownBy_trans (grownBy_below ((Below.refl _ _).alloc (Nat.le_refl _) _)) h2)
  unfold OwnCli
  rw [cltl_append, List.length_append]
  exact h1
theorem OwnCli.alloc' {w : World} {base : Nat} {e : TypeId} {v : Value} {L : List Cli} (h : OwnCli w base e v L) (o : Obj) : OwnCli (w.alloc o) base e v L := World.ownsRow.alloc h o
end Go.Proofs.Ytonaaimefcgcnaa

namespace Go.Proofs.Ytonaaimefcgcnaa
open Go.RowKit Go.Sort

theorem bytes_nk {z key : ByteArray} (h : ¬ z = key) : (z.toList == key.toList) = false := by
  rw [ByteArray.toList_eq, ByteArray.toList_eq, beq_eq_false_iff_ne]
  intro e
  exact h (ByteArray.ext (Array.toList_inj.1 e))
theorem inL_take {l : List ByteArray} {s : ByteArray} {k : Nat} (hk : k < l.length) (h : inL (l.take k) s = false) (hn : ¬ l[k] = s) : inL (l.take (k + 1)) s = false := by
  rw [inL_false] at h ⊢
  rw [List.take_succ_eq_append_getElem hk]
  intro hm
  rcases List.mem_append.1 hm with hm | hm
  · exact h hm
  · exact hn (List.mem_singleton.1 hm).symm
theorem Try.infoSK : (Try.prog.info? 9).map (fun i => (i.zero, i.size, i.bytes)) = some (some (.string ⟨#[]⟩), 1, 16) := by kernel_rfl
set_option maxHeartbeats 2000000 in
theorem l13In_any (w : World) (a : Option Addr) (c : Nat) (L : List ByteArray) (s : ByteArray) (hA : LAt w a L w.heap.size) (hm : L.length ≤ 10000000) :
    Calls Try.prog 99 #[.slice a L.length c, .string s] w fun e w' => e = .returned (.bool (inL L s)) ∧ w' = w := by
  go_enter Try.func99, Try.ntmps99
  go_wp2
  go_loopw [5] (fun i wr => Box (∃ (k : Nat), k ≤ L.length ∧ i = .int .i64 k ∧ Hid (inL (L.take k) s = false) ∧ w = wr))
    (fun i _ => L.length - (intOf i).toNat)
  case atStart => exact ⟨⟨0, by omega, rfl, rfl, rfl⟩⟩
  case round =>
    obtain ⟨k, hk, rfl, HN, rfl⟩ := hrel.out
    by_cases hlt : k < L.length
    · obtain ⟨g, off, rfl, hg, hc⟩ := hA k hlt
      have hi1 : (0 : Int) ≤ (k : Int) := by omega
      have hi2 : (k : Int) < (L.length : Int) := by omega
      by_cases hz : L[k] = s
      · have HT : Hid (inL L s = true) := inL_iff.2 (by rw [← hz]; exact List.getElem_mem hlt)
        rw [hz] at hc
        clear hrel hz hA
        go_wp2
        go_ret
        exact ⟨by rw [HT.out]; rfl, rfl⟩
      · have HT : Hid (inL (L.take (k + 1)) s = false) := inL_take hlt HN.out hz
        have hz1 := bytes_nk hz
        obtain ⟨z, hzz⟩ : ∃ z, L[k] = z := ⟨_, rfl⟩
        rw [hzz] at hc hz1
        clear hrel hz hzz hA
        go_wp2
        go_roundw
        case rel =>
          try ((repeat apply Exists.intro); refine ⟨?_, rfl⟩)
          exact ⟨⟨k + 1, by omega, by go_num, HT, by first | rfl | trivial⟩⟩
        case measure => simp [intOf]; omega
    · go_wp2
      go_ret
      have hke : k = L.length := by omega
      have := HN.out
      rw [hke, List.take_length] at this
      exact ⟨by rw [this]; rfl, rfl⟩
theorem l13Key_any (w : World) (s : ByteArray) (hs : s.size ≤ 10000000) :
    Calls Try.prog 33 #[.string s] w fun e w' => e = .returned (.bool (keyOk s)) ∧ w' = w := by
  have c := in_any (s.size : Int) 1 30 w
  have e : inN (s.size : Int) 1 30 = keyOk s := by
    unfold inN keyOk
    by_cases h : 1 ≤ s.size ∧ s.size ≤ 30
    · rw [decide_eq_true h, decide_eq_true (by omega)]
    · rw [decide_eq_false h, decide_eq_false (by omega)]
  rw [e] at c
  clear e
  go_enter Try.func33, Try.ntmps33
  go_wp2_with (go_at_call 24; refine c.mono ?_; rintro e w' ⟨rfl, rfl⟩)
  go_ret
  exact ⟨rfl, rfl⟩
theorem without_take {l : List ByteArray} {s : ByteArray} {k : Nat} (hk : k < l.length) : without (l.take (k + 1)) s = without (l.take k) s ++ if l[k] = s then [] else [l[k]] := by
  unfold without
  rw [List.take_succ_eq_append_getElem hk, List.filter_append]
  by_cases h : l[k] = s <;> simp [h]
set_option maxHeartbeats 2000000 in
theorem specPolicyHas_any (w : World) (aw am ak : Option Addr) (cw cm ck : Nat) (P : Pol) (key : ByteArray) (hA : PolAt w aw am ak P w.heap.size) (hm : P.win.length ≤ 10000000) (hm' : P.main.length ≤ 10000000) :
    Calls Try.prog 66 #[.agg #[.slice aw P.win.length cw, .slice am P.main.length cm, .slice ak P.sk.rows.length ck, .int .i64 P.sk.added], .string key] w fun e w' => e = .returned (.bool (hasP P key)) ∧ Below w.heap.size w w' := by
  obtain ⟨w1, hw1⟩ : ∃ x, w.alloc (.cells #[.slice aw P.win.length cw, .slice am P.main.length cm, .slice ak P.sk.rows.length ck, .int .i64 P.sk.added] 47) = x := ⟨_, rfl⟩
  have hb1 : Below w.heap.size w w1 := by rw [← hw1]; exact (Below.refl _ _).alloc (Nat.le_refl _) _
  have hB : PBox w1 w.heap.size (.slice aw P.win.length cw) (.slice am P.main.length cm) (.slice ak P.sk.rows.length ck) (.int .i64 P.sk.added) := by rw [← hw1]; exact PBox.new _ _ _ _ _
  have hA1 := hA.on hb1
  obtain ⟨b0, b1, b2, b3⟩ := hB.cells
  have c1 := l13In_any w1 aw cw P.win key hA1.1 hm
  have c2 := l13In_any w1 am cm P.main key hA1.2.1 hm'
  have HW : Hid (w.alloc (.cells #[.slice aw P.win.length cw, .slice am P.main.length cm, .slice ak P.sk.rows.length ck, .int .i64 P.sk.added] 47) = w1) := hw1
  rw [← hw1] at b0 b1 b2 b3
  clear hw1 hB hA1 hA
  go_enter Try.func66, Try.ntmps66
  cases h : inL P.win key with
  | true =>
    rw [h] at c1
    have HH : Hid (hasP P key = true) := by show _ = _; simp [hasP, h]
    clear h
    go_wp2_with fail
    rw [HW.out] at b0 b1 b2 b3 ⊢
    refine c1.mono ?_
    rintro e w' ⟨rfl, rfl⟩
    go_wp2_with fail
    go_ret
    exact ⟨by rw [HH.out]; rfl, hb1⟩
  | false =>
    rw [h] at c1
    have HH : Hid (hasP P key = inL P.main key) := by show _ = _; simp [hasP, h]
    clear h
    go_wp2_with fail
    rw [HW.out] at b0 b1 b2 b3 ⊢
    refine c1.mono ?_
    rintro e w' ⟨rfl, rfl⟩
    generalize inL P.main key = q at c2 HH
    go_wp2_with fail
    refine c2.mono ?_
    rintro e w' ⟨rfl, rfl⟩
    go_wp2_with fail
    go_ret
    exact ⟨by rw [HH.out]; rfl, hb1⟩
end Go.Proofs.Ytonaaimefcgcnaa
