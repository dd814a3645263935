/- Texts that stand in one: FetPlus, IdxFet, PxOpen, OnePlain. -/
import Derived.Test.YtpgcfgbhkodmeaaFetRows
import Derived.Test.YtpgcfgbhkodmeaaEnRowsJ
import Derived.Test.YtpgcfgbhkodmeaaSkStepJ
import Derived.Deep.RegionLaw
import Derived.Shelf.Abstract
import Derived.Test.YtpgcfgbhkodmeaaPxPlain
namespace Go.Proofs.Ytpgcfgbhkodmeaa
open Go.RowKit
theorem OwnFet.new (w : World) (e : TypeId) (L : List Fet) (cs : Array Value) (hc : cs = (ftl L).toArray) (hl : L.length ≤ maxLen) : OwnFet (w.alloc (.cells cs e)) w.heap.size e (.slice (some ⟨w.heap.size, 0, none⟩) L.length L.length) L := by
  subst hc
  refine ⟨by rw [ftl_length], .inr ⟨w.heap.size, L.length, _, rfl, Nat.le_refl _, heap_alloc_new w _, Nat.le_refl _, hl, by simp [ftl_length], ?_⟩⟩
  exact List.take_of_length_le (by simp [ftl_length])
theorem FetAt.src {w : World} {a0 : Option Addr} {l : List Fet} {B : Nat} (hI : FetAt w a0 l B) : (a0 = none → l.length = 0) ∧ ∀ ad, a0 = some ad → ∀ j u, (ftl l)[j]? = some u → w.cell? (ad.add j) = some u := by
  refine ⟨fun e => ?_, fun ad e j u hu => ?_⟩
  · cases l with
    | nil => rfl
    | cons x r => obtain ⟨g, off, ha, _⟩ := hI 0 (by simp); rw [e] at ha; cases ha
  · obtain ⟨hj, _⟩ := List.getElem?_eq_some_iff.1 hu
    rw [ftl_length] at hj
    obtain ⟨g, off, ha, _, h0, h1, h2, h3, h4⟩ := hI (j / 5) (by omega)
    rw [e] at ha
    simp only [Option.some.injEq] at ha
    subst ha
    have hat := ftl_at l (j / 5) (by omega)
    rw [Addr.add_mid]
    rcases (by omega : j % 5 = 0 ∨ j % 5 = 1 ∨ j % 5 = 2 ∨ j % 5 = 3 ∨ j % 5 = 4) with h | h | h | h | h
    · have e : j = 5 * (j / 5) := by omega
      rw [e, hat.1] at hu
      rw [show off + j = off + j / 5 * 5 by omega, h0]
      exact hu
    · have e : j = 5 * (j / 5) + 1 := by omega
      rw [e, hat.2.1] at hu
      rw [show off + j = off + j / 5 * 5 + 1 by omega, h1]
      exact hu
    · have e : j = 5 * (j / 5) + 2 := by omega
      rw [e, hat.2.2.1] at hu
      rw [show off + j = off + j / 5 * 5 + 2 by omega, h2]
      exact hu
    · have e : j = 5 * (j / 5) + 3 := by omega
      rw [e, hat.2.2.2.1] at hu
      rw [show off + j = off + j / 5 * 5 + 3 by omega, h3]
      exact hu
    · have e : j = 5 * (j / 5) + 4 := by omega
      rw [e, hat.2.2.2.2] at hu
      rw [show off + j = off + j / 5 * 5 + 4 by omega, h4]
      exact hu
theorem ftl_one (l : List Fet) : ∀ v ∈ ftl l, v.oneCell' = true := by
  intro v hv
  simp only [ftl, List.mem_flatMap, Fet.cells] at hv
  obtain ⟨a, _, h⟩ := hv
  simp at h
  rcases h with rfl | rfl | rfl | rfl | rfl <;> rfl
/-- The row is a block that has just been laid. -/
theorem wpList_plusFet {P : Program} {ops : Array Oper} {rest : List Oper} {o : Oper} {a : Act} {Q : Exit → Act → World → Prop} {w : World} (hgd : o.guard = none) (s x : Operand) (t : TypeId)
    (ho : o.op = .call { callee := .builtin .append, args := #[s, x], argTypes := #[t, t] }) (base : Nat) (e : TypeId) (ht : P.underlying t = some (.slice e))
    (hinfo : (P.info? e).map (fun i => (i.zero, i.size, i.bytes)) = some (some (.agg #[.string ⟨#[]⟩, .string ⟨#[]⟩, .int .i64 0, .int .i64 0, .int .i64 0]), 5, 56)) (v : Value) (A : List Fet) (hs : a.eval s = v) (hown : OwnFet w base e v A)
    (l : List Fet) (cs : Array Value) (hc : cs = (ftl l).toArray) (hx : a.eval x = .slice (some ⟨w.heap.size, 0, none⟩) l.length l.length) (hlen : A.length + l.length ≤ 1800000) (hbase : base ≤ w.heap.size)
    (h : ∀ v' w', OwnFet w' base e v' (A ++ l) → w.grownBy w' v.ownBlock → wpList P ops Q rest (a.put o.dst v') w') :
    wpList P ops Q (o :: rest) a (w.alloc (.cells cs e)) := by
  obtain ⟨i0, hi, hz0, hz1, hz2⟩ := info_parts hinfo
  have hA : FetAt (w.alloc (.cells cs e)) (some ⟨w.heap.size, 0, none⟩) l (w.alloc (.cells cs e)).heap.size := by
    obtain ⟨a', c', hv, hA⟩ := (OwnFet.new w e l cs hc (by unfold maxLen; omega)).at
    simp only [Value.slice.injEq, true_and] at hv
    rw [hv.1]
    exact hA
  refine wpList_append_own _ hgd s x t ho base e i0 _ 5 56 ht hi hz0 hz1 hz2 rfl (by decide) v A.length (ftl A) hs (World.ownsRow.alloc hown _) ⟨w.heap.size, 0, none⟩ l.length l.length (ftl l) hx (ftl_length l) (hA.src.2 _ rfl) (ftl_one l) (by unfold maxLen; omega) (by omega) (by simp; omega) ?_
  intro v' w' h1 h2 _
  refine h v' w' ?_ (grownBy_trans (grownBy_below ((Below.refl _ _).alloc (Nat.le_refl _) _)) h2)
  unfold OwnFet
  rw [ftl_append, List.length_append]
  exact h1
theorem OwnFet.alloc' {w : World} {base : Nat} {e : TypeId} {v : Value} {L : List Fet} (h : OwnFet w base e v L) (o : Obj) : OwnFet (w.alloc o) base e v L := World.ownsRow.alloc h o
end Go.Proofs.Ytpgcfgbhkodmeaa

namespace Go.Proofs.Ytpgcfgbhkodmeaa
open Go.RowKit Go.Sort

set_option maxHeartbeats 2000000 in
theorem indexFet_any (g : Nat) (lb : Array Value) (p : Fet → Bool) (eg : ∀ args w, (callFunc g args).run Try.prog w = .ok (.enter g args) w) (w : World) (a : Option Addr) (cap : Nat) (L : List (Fet)) (hL : FetAt w a L w.heap.size) (hm : L.length ≤ 10000000)
    (hp : ∀ (W : World) (x : Fet), Below w.heap.size w W → Calls Try.prog g (#[.agg #[.string x.key, .string x.tx, .int .i64 x.st, .int .i64 x.lf, .int .i64 x.sto]] ++ lb) W fun e w' => e = .returned (.bool (p x)) ∧ Below w.heap.size w w') :
    Calls Try.prog 89 #[.slice a L.length cap, .func (.func g) #[] lb] w fun e w' => e = .returned (.int .i64 (idxX p L)) ∧ Below w.heap.size w w' := by
  go_enter Try.func89, Try.ntmps89
  go_wp2
  go_loopw [5, 8] (fun _ i wr => Box (∃ k : Nat, k ≤ L.length ∧ i = .int .i64 k ∧ Below w.heap.size w wr ∧ ∀ j (hj : j < k) (hl : j < L.length), p L[j] = false))
    (fun _ i _ => L.length - (intOf i).toNat)
  case atStart => exact ⟨⟨0, by omega, rfl, Below.refl _ _, fun j hj => absurd hj (Nat.not_lt_zero _)⟩⟩
  case round =>
    obtain ⟨k, hk, rfl, hb, hno⟩ := hrel.out
    by_cases hlt : k < L.length
    · obtain ⟨g1, off, rfl, _, hc0, hc1, hc2, hc3, hc4⟩ := (hL.below hb (Nat.le_refl _)) k hlt
      obtain ⟨f, hf⟩ : ∃ f, L[k] = f := ⟨_, rfl⟩
      have HF : Hid (L[k] = f) := hf
      rw [hf] at hc0 hc1 hc2 hc3 hc4
      have hcall := hp wr f hb
      have HNO : Hid (∀ j (hj : j < k) (hl : j < L.length), p L[j] = false) := hno
      clear hL hp hf hno hrel
      have hi1 : (0 : Int) ≤ (k : Int) := by omega
      have hi2 : (k : Int) < (L.length : Int) := by omega
      cases hq : p f with
      | true =>
        rw [hq] at hcall
        go_wp2_with (go_at_fn g; refine hcall.mono ?_; rintro e w' ⟨rfl, hb'⟩)
        go_ret
        refine ⟨?_, hb'⟩
        rw [idxX_hit hlt (by rw [HF.out]; exact hq) (fun j hj => HNO.out j hj (by omega))]
        rfl
      | false =>
        rw [hq] at hcall
        go_wp2_with (go_at_fn g; refine hcall.mono ?_; rintro e w' ⟨rfl, hb'⟩)
        go_roundw
        case rel =>
          try ((repeat apply Exists.intro); refine ⟨?_, rfl⟩)
          refine ⟨⟨k + 1, by omega, by go_num, hb', fun j hj hl => ?_⟩⟩
          by_cases e : j = k
          · subst e
            rw [HF.out]; exact hq
          · exact HNO.out j (by omega) hl
        case measure => simp [intOf]; omega
    · have hi2 : ¬ (k : Int) < (L.length : Int) := by omega
      go_wp2
      go_ret
      refine ⟨?_, hb⟩
      rw [idxX_miss (fun x hx => by
        obtain ⟨j, hj, rfl⟩ := List.getElem_of_mem hx
        exact hno j (by omega) hj)]
      rfl
end Go.Proofs.Ytpgcfgbhkodmeaa

namespace Go.Proofs.Ytpgcfgbhkodmeaa
open Go.RowKit Go.Sort
theorem open1_eg : ∀ args w, (callFunc 90 args).run Try.prog w = .ok (.enter 90 args) w := enters_of Try.func90 (by kernel_rfl) rfl
set_option maxHeartbeats 2000000 in
theorem open1_any (T : Nat) (f : Fet) (key : ByteArray) (w : World) (hT : w.heap[T]? = some (.cells #[.string key] 9 (0, 0))) :
    Calls Try.prog 90 (#[.agg #[.string f.key, .string f.tx, .int .i64 f.st, .int .i64 f.lf, .int .i64 f.sto]] ++ #[.pointer (some ⟨T, 0, none⟩)]) w fun e w' => e = .returned (.bool (openP key f)) ∧ Below w.heap.size w w' := by
  show Calls _ _ #[.agg #[.string f.key, .string f.tx, .int .i64 f.st, .int .i64 f.lf, .int .i64 f.sto], .pointer (some ⟨T, 0, none⟩)] _ _
  have hb1 : Below w.heap.size w (w.alloc (.cells #[.string f.key, .string f.tx, .int .i64 f.st, .int .i64 f.lf, .int .i64 f.sto] 67)) := (Below.refl _ _).alloc (Nat.le_refl _) _
  have p0 : (w.alloc (.cells #[.string f.key, .string f.tx, .int .i64 f.st, .int .i64 f.lf, .int .i64 f.sto] 67)).cell? ⟨T, 0, none⟩ = some (.string key) := by rw [cell_of_row _ T 0 _ _ (0, 0) ((hb1.block T (Array.getElem?_eq_some_iff.1 hT).1).trans hT)]; rfl
  unfold openP eqS
  cases he : (f.key.toList == key.toList) with
  | false =>
    go_enter Try.func90, Try.ntmps90
    go_wp2_with fail
    go_ret
    exact ⟨rfl, hb1⟩
  | true =>
    go_enter Try.func90, Try.ntmps90
    go_wp2_with fail
    go_ret
    exact ⟨rfl, hb1⟩
set_option maxHeartbeats 4000000 in
theorem openPlace_any (w : World) (a : Option Addr) (c : Nat) (L : List Fet) (key : ByteArray) (hL : FetAt w a L w.heap.size) (hm : L.length ≤ 10000000) :
    Calls Try.prog 63 #[.slice a L.length c, .string key] w fun e w' => e = .returned (.int .i64 (idxX (openP key) L)) ∧ Below w.heap.size w w' := by
  obtain ⟨w1, hw1⟩ : ∃ y, w.alloc (.cells #[.string key] 9) = y := ⟨_, rfl⟩
  have hb1 : Below w.heap.size w w1 := by rw [← hw1]; exact (Below.refl _ _).alloc (Nat.le_refl _) _
  have hK : w1.heap[w.heap.size]? = some (.cells #[.string key] 9 (0, 0)) := by rw [← hw1]; exact heap_alloc_new _ _
  have c1 := indexFet_any 90 #[.pointer (some ⟨w.heap.size, 0, none⟩)] (openP key) open1_eg w1 a c L (hL.on hb1) hm (fun W x hb => (open1_any w.heap.size x key W ((hb.block _ (Array.getElem?_eq_some_iff.1 hK).1).trans hK)).mono (by rintro e w' ⟨rfl, h⟩; exact ⟨rfl, hb.trans (h.mono hb.size)⟩))
  have hmf : ∀ (fn : Fn) (first cap : Array Value) (w : World), (Instr.makeFunc fn first cap).run Try.prog w = .ok (.func fn first cap) w := fun _ _ _ _ => rfl
  have HW : Hid (w.alloc (.cells #[.string key] 9) = w1) := hw1
  have HB : Hid (Below w.heap.size w w1) := hb1
  clear hw1 hb1 hK hL
  generalize idxX (openP key) L = q at c1 ⊢
  go_enter Try.func63, Try.ntmps63
  go_wp2_with fail
  rw [HW.out]
  refine c1.mono ?_
  rintro e w2 ⟨rfl, hb2⟩
  go_wp2_with fail
  go_ret
  exact ⟨rfl, HB.out.trans (hb2.mono HB.out.size)⟩
end Go.Proofs.Ytpgcfgbhkodmeaa

namespace Go.Proofs.Ytpgcfgbhkodmeaa
open Go.RowKit Go.Sort
def oneF (L : List Fet) (i : Nat) : Bool := !(((L.getD i zFet).st == 1) && (L.take i).any (openP (L.getD i zFet).key))
def oneX (L : List Fet) : Bool := allT (oneF L) L.length
def fetG (now : Int) (L : List Fet) (i : Nat) : Bool :=
  enKey (L.getD i zFet).key && (decide ((L.getD i zFet).tx.size ≤ 400) && (inB (L.getD i zFet).st 1 3 && (inB (L.getD i zFet).lf 0 999999 && inB (L.getD i zFet).sto 0 now)))
theorem allT_and {f g : Nat → Bool} : ∀ n, allT (fun i => f i && g i) n = (allT f n && allT g n)
  | 0 => rfl
  | n + 1 => by
    unfold allT
    rw [allT_and n]
    cases allT f n <;> cases allT g n <;> cases f n <;> cases g n <;> rfl
theorem fesOkX_split (now : Int) (L : List Fet) : fesOkX now L = (decide (L.length ≤ 20) && (allT (fetG now L) L.length && oneX L)) := by
  unfold fesOkX oneX
  rw [← allT_and]
  rfl
end Go.Proofs.Ytpgcfgbhkodmeaa
