/- Texts that stand in one: StoredPlain, SpecIn, FetPlus. -/
import Derived.Test.YtpgcfgbhkodmeaaPxPlain
import Derived.Test.YtpgcfgbhkodmeaaEnsLaw
import Derived.Test.YtpgcfgbhkodmeaaIntsJ
import Derived.Laws.StructEq
import Derived.Test.YtpgcfgbhkodmeaaFetRows
import Derived.Test.YtpgcfgbhkodmeaaEnRowsJ
namespace Go.Proofs.Ytpgcfgbhkodmeaa
open Go.RowKit Go.Sort
def eqEn (x y : En) : Bool := (x.key.toList == y.key.toList) && ((x.st == y.st) && ((x.lf == y.lf) && (x.bd.toList == y.bd.toList)))
theorem toList_inj {a b : ByteArray} : a.toList = b.toList ↔ a = b := by
  constructor
  · intro h
    have := eqS_iff (a := a) (b := b)
    unfold eqS at this
    exact this.1 (by simp [h])
  · rintro rfl; rfl
theorem eqEn_iff {x y : En} : eqEn x y = true ↔ x = y := by
  obtain ⟨k, s, l, b⟩ := x
  obtain ⟨k', s', l', b'⟩ := y
  unfold eqEn
  simp only [Bool.and_eq_true, beq_iff_eq, toList_inj, En.mk.injEq]
theorem eqEn_symm (x y : En) : eqEn x y = eqEn y x := by
  rw [Bool.eq_iff_iff, eqEn_iff, eqEn_iff]
  exact ⟨Eq.symm, Eq.symm⟩
def storedF (E B : List En) (i : Nat) : Bool := B.any (eqEn (E.getD i zen))
def storedX (E B : List En) : Bool := allT (storedF E B) E.length
theorem any_take_succ {L : List En} {p : En → Bool} {k : Nat} (h : k < L.length) : (L.take (k + 1)).any p = ((L.take k).any p || p L[k]) := by
  rw [List.take_succ_eq_append_getElem h, List.any_append]
  simp
theorem any_of_take {L : List En} {p : En → Bool} {k : Nat} (h : (L.take k).any p = true) : L.any p = true := by
  rw [List.any_eq_true] at h ⊢
  obtain ⟨x, hx, hp⟩ := h
  exact ⟨x, List.mem_of_mem_take hx, hp⟩
end Go.Proofs.Ytpgcfgbhkodmeaa

namespace Go.Proofs.Ytpgcfgbhkodmeaa
open Go.RowKit Go.Sort
theorem enE_eqB (x y : En) (w : World) : (binOp .eql 81 (.agg #[.string x.key, .int .i64 x.st, .int .i64 x.lf, .string x.bd]) (.agg #[.string y.key, .int .i64 y.st, .int .i64 y.lf, .string y.bd])).run Try.prog w = .ok (.bool (eqEn x y)) w := by
  have h0 := Try.underlying81
  have h2 : Try.prog.stoodInHeld 81 = false := by kernel_rfl
  rw [run_eql_struct, run_equalIn_agg w 9999 81 _ _ (by unfold Program.fieldsOf; rw [h0]) h2]
  simp [go_sem, h0, Op.eqFields]
  unfold eqEn
  by_cases h1 : x.key.toList = y.key.toList <;> by_cases h3 : x.st = y.st <;> by_cases h4 : x.lf = y.lf <;> by_cases h5 : x.bd.toList = y.bd.toList <;> simp [h1, h3, h4, h5]
set_option maxHeartbeats 2000000 in
theorem l18In_any (w : World) (a : Option Addr) (cap : Nat) (L : List En) (e : En) (hL : NAt w a L w.heap.size) (hm : L.length ≤ 1048576) :
    Calls Try.prog 36 #[.slice a L.length cap, .agg #[.string e.key, .int .i64 e.st, .int .i64 e.lf, .string e.bd]] w fun e' w' => e' = .returned (.bool (L.any (eqEn e))) ∧ Below w.heap.size w w' := by
  obtain ⟨w1, hw1⟩ : ∃ x, w.alloc (.cells #[.string e.key, .int .i64 e.st, .int .i64 e.lf, .string e.bd] 81) = x := ⟨_, rfl⟩
  have hb1 : Below w.heap.size w w1 := by rw [← hw1]; exact (Below.refl _ _).alloc (Nat.le_refl _) _
  have hBB : EnB w1 w.heap.size 81 e := by rw [← hw1]; exact EnB.new w _ e
  have HA : Hid (NAt w1 a L w1.heap.size) := hL.on hb1
  have HBB : Hid (EnB w1 w.heap.size 81 e) := hBB
  have HB1 : Hid (Below w.heap.size w w1) := hb1
  have HL : Hid (L.length ≤ 1048576) := hm
  have HW : Hid (w.alloc (.cells #[.string e.key, .int .i64 e.st, .int .i64 e.lf, .string e.bd] 81) = w1) := hw1
  obtain ⟨res, hres⟩ : ∃ r, L.any (eqEn e) = r := ⟨_, rfl⟩
  have HE : Hid (L.any (eqEn e) = res) := hres
  rw [hres]
  clear hw1 hb1 hBB hL hres hm
  go_enter Try.func36, Try.ntmps36
  go_wp2_with fail
  rw [HW.out]
  go_loopw [5] (fun i wr => Box (∃ (k : Nat), k ≤ L.length ∧ i = .int .i64 k ∧ (L.take k).any (eqEn e) = false ∧ Below w1.heap.size w1 wr))
    (fun i _ => L.length - (intOf i).toNat)
  case atStart => exact ⟨⟨0, by omega, rfl, rfl, Below.refl _ _⟩⟩
  case round =>
    obtain ⟨k, hk, rfl, hno, hbr⟩ := hrel.out
    obtain ⟨wo, hwo⟩ : ∃ wo, wo = wr := ⟨_, rfl⟩
    subst hwo
    have HN : Hid ((L.take k).any (eqEn e) = false) := hno
    have HBO : Hid (Below w1.heap.size w1 wo) := hbr
    clear hrel hno hbr
    have hL20 := HL.out
    by_cases hlt : k < L.length
    · obtain ⟨g, off, rfl, hg, hc0, hc1, hc2, hc3⟩ := (HA.out.on HBO.out) k hlt
      obtain ⟨hd0, hd1, hd2, hd3⟩ := (HBB.out.on HBO.out).cells
      have hs := any_take_succ (p := eqEn e) hlt
      obtain ⟨f, hf⟩ : ∃ f, L[k] = f := ⟨_, rfl⟩
      rw [hf] at hc0 hc1 hc2 hc3 hs
      have hany : eqEn e f = true → L.any (eqEn e) = true := fun h => by rw [List.any_eq_true]; exact ⟨f, by rw [← hf]; exact List.getElem_mem hlt, h⟩
      have HS : Hid ((L.take (k + 1)).any (eqEn e) = eqEn e f ∧ (eqEn e f = true → res = true)) := ⟨by rw [hs, HN.out, Bool.false_or], fun h => by rw [← HE.out]; exact hany h⟩
      have HK : Hid (k < L.length) := hlt
      have hne := fun w => enE_eqB f e w
      have hsy := eqEn_symm f e
      rw [hsy] at hne
      obtain ⟨bb, hbb⟩ : ∃ bb, eqEn e f = bb := ⟨_, rfl⟩
      rw [hbb] at hne HS
      clear hf hlt hs hany hsy hbb
      have hi1 : (0 : Int) ≤ (k : Int) := by omega
      have hi2 : (k : Int) < (L.length : Int) := by have := HK.out; omega
      cases bb with
      | false =>
        go_wp2_with fail
        go_quiet (fail)
        go_wp2_with fail
        go_roundw
        case rel =>
          try ((repeat apply Exists.intro); refine ⟨?_, rfl⟩)
          exact ⟨⟨k + 1, by have := HK.out; omega, by go_num, HS.out.1, HBO.out.trans ⟨rfl, rfl, rfl, Nat.le_refl _, fun _ _ => rfl⟩⟩⟩
        case measure => have := HK.out; simp [intOf]; omega
      | true =>
        have HR : Hid (res = true) := HS.out.2 rfl
        go_wp2_with fail
        go_quiet (fail)
        go_wp2_with fail
        go_ret
        exact ⟨by rw [HR.out]; rfl, (HB1.out.trans (HBO.out.mono HB1.out.size)).trans ⟨rfl, rfl, rfl, Nat.le_refl _, fun _ _ => rfl⟩⟩
    · have hi3 : ¬ (k : Int) < (L.length : Int) := by omega
      have HR : Hid (res = false) := by
        show _ = _
        have h := HN.out
        rw [show k = L.length by omega, List.take_length, HE.out] at h
        exact h
      clear hlt hk
      go_wp2_with fail
      go_ret
      exact ⟨by rw [HR.out]; rfl, HB1.out.trans (HBO.out.mono HB1.out.size)⟩
end Go.Proofs.Ytpgcfgbhkodmeaa

namespace Go.Proofs.Ytpgcfgbhkodmeaa
open Go.RowKit
theorem OwnFet.new (w : World) (e : TypeId) (L : List Fet) (cs : Array Value) (hc : cs = (ftl L).toArray) (hl : L.length ≤ maxLen) : OwnFet (w.alloc (.cells cs e)) w.heap.size e (.slice (some ⟨w.heap.size, 0, none⟩) L.length L.length) L := by
  subst hc
  refine ⟨by rw [ftl_length], .inr ⟨w.heap.size, L.length, _, rfl, Nat.le_refl _, heap_alloc_new w _, Nat.le_refl _, hl, by simp [ftl_length], ?_⟩⟩
  exact List.take_of_length_le (by simp [ftl_length])
theorem FetAt.src {w : World} {a0 : Option Addr} {l : List Fet} {B : Nat} (hI : FetAt w a0 l B) : (a0 = none → l.length = 0) ∧ ∀ ad, a0 = some ad → ∀ j u, (ftl l)[j]? = some u → w.cell? (ad.add j) = some u := by
  refine ⟨fun e => ?_, fun ad e j u hu => ?_⟩
  · cases l with
    | nil => rfl
    | cons x r => obtain ⟨g, off, ha, _⟩ := hI 0 (by simp); rw [e] at ha; cases ha
  · obtain ⟨hj, _⟩ := List.getElem?_eq_some_iff.1 hu
    rw [ftl_length] at hj
    obtain ⟨g, off, ha, _, h0, h1, h2, h3, h4⟩ := hI (j / 5) (by omega)
    rw [e] at ha
    simp only [Option.some.injEq] at ha
    subst ha
    have hat := ftl_at l (j / 5) (by omega)
    rw [Addr.add_mid]
    rcases (by omega : j % 5 = 0 ∨ j % 5 = 1 ∨ j % 5 = 2 ∨ j % 5 = 3 ∨ j % 5 = 4) with h | h | h | h | h
    · have e : j = 5 * (j / 5) := by omega
      rw [e, hat.1] at hu
      rw [show off + j = off + j / 5 * 5 by omega, h0]
      exact hu
    · have e : j = 5 * (j / 5) + 1 := by omega
      rw [e, hat.2.1] at hu
      rw [show off + j = off + j / 5 * 5 + 1 by omega, h1]
      exact hu
    · have e : j = 5 * (j / 5) + 2 := by omega
      rw [e, hat.2.2.1] at hu
      rw [show off + j = off + j / 5 * 5 + 2 by omega, h2]
      exact hu
    · have e : j = 5 * (j / 5) + 3 := by omega
      rw [e, hat.2.2.2.1] at hu
      rw [show off + j = off + j / 5 * 5 + 3 by omega, h3]
      exact hu
    · have e : j = 5 * (j / 5) + 4 := by omega
      rw [e, hat.2.2.2.2] at hu
      rw [show off + j = off + j / 5 * 5 + 4 by omega, h4]
      exact hu
theorem ftl_one (l : List Fet) : ∀ v ∈ ftl l, v.oneCell' = true := by
  intro v hv
  simp only [ftl, List.mem_flatMap, Fet.cells] at hv
  obtain ⟨a, _, h⟩ := hv
  simp at h
  rcases h with rfl | rfl | rfl | rfl | rfl <;> rfl
/-- The row is a block that has just been laid. -/
theorem wpList_plusFet {P : Program} {ops : Array Oper} {rest : List Oper} {o : Oper} {a : Act} {Q : Exit → Act → World → Prop} {w : World} (hgd : o.guard = none) (s x : Operand) (t : TypeId)
    (ho : o.op = .call { callee := .builtin .append, args := #[s, x], argTypes := #[t, t] }) (base : Nat) (e : TypeId) (ht : P.underlying t = some (.slice e))
    (hinfo : (P.info? e).map (fun i => (i.zero, i.size, i.bytes)) = some (some (.agg #[.string ⟨#[]⟩, .string ⟨#[]⟩, .int .i64 0, .int .i64 0, .int .i64 0]), 5, 56)) (v : Value) (A : List Fet) (hs : a.eval s = v) (hown : OwnFet w base e v A)
    (l : List Fet) (cs : Array Value) (hc : cs = (ftl l).toArray) (hx : a.eval x = .slice (some ⟨w.heap.size, 0, none⟩) l.length l.length) (hlen : A.length + l.length ≤ 1800000) (hbase : base ≤ w.heap.size)
    (h : ∀ v' w', OwnFet w' base e v' (A ++ l) → w.grownBy w' v.ownBlock → wpList P ops Q rest (a.put o.dst v') w') :
    wpList P ops Q (o :: rest) a (w.alloc (.cells cs e)) := by
  obtain ⟨i0, hi, hz0, hz1, hz2⟩ := info_parts hinfo
  have hA : FetAt (w.alloc (.cells cs e)) (some ⟨w.heap.size, 0, none⟩) l (w.alloc (.cells cs e)).heap.size := by
    obtain ⟨a', c', hv, hA⟩ := (OwnFet.new w e l cs hc (by unfold maxLen; omega)).at
    simp only [Value.slice.injEq, true_and] at hv
    rw [hv.1]
    exact hA
  refine wpList_append_own _ hgd s x t ho base e i0 _ 5 56 ht hi hz0 hz1 hz2 rfl (by decide) v A.length (ftl A) hs (World.ownsRow.alloc hown _) ⟨w.heap.size, 0, none⟩ l.length l.length (ftl l) hx (ftl_length l) (hA.src.2 _ rfl) (ftl_one l) (by unfold maxLen; omega) (by omega) (by simp; omega) ?_
  intro v' w' h1 h2 _
  refine h v' w' ?_ (grownBy_trans (grownBy_below ((Below.refl _ _).alloc (Nat.le_refl _) _)) h2)
  unfold OwnFet
  rw [ftl_append, List.length_append]
  exact h1
theorem OwnFet.alloc' {w : World} {base : Nat} {e : TypeId} {v : Value} {L : List Fet} (h : OwnFet w base e v L) (o : Obj) : OwnFet (w.alloc o) base e v L := World.ownsRow.alloc h o
end Go.Proofs.Ytpgcfgbhkodmeaa
