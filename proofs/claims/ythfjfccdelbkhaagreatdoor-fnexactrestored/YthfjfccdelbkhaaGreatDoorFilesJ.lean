/- Texts that stand in one: Files, EnRows, EnPlus. -/
import Derived.Test.YthfjfccdelbkhaaGreatDoorSkBaseJ
import Derived.Test.YthfjfccdelbkhaaGreatDoorReadPlainJ
import Derived.Deep.MidRow
namespace Go.Proofs.YthfjfccdelbkhaaGreatDoor
open Go.RowKit
structure Fil where
 nm : ByteArray
 tx : ByteArray
 kp : Int
def Fil.cells (f : Fil) : List Value := [.string f.nm,.string f.tx,.int .i64 f.kp]
def En.cells (f : En) : List Value := [.string f.key,.int .i64 f.st,.int .i64 f.lf,.string f.bd]
def enl (L : List En) : List Value := L.flatMap En.cells
theorem enl_length (L : List En) : (enl L).length = L.length * 4 := by
 induction L with
 | nil => rfl
 | cons f L ih => simp [enl,En.cells] at *; omega
theorem enl_cons (f : En) (L : List En) : enl (f :: L) = f.cells ++ enl L := by simp [enl]
theorem enl_at : ∀ (L : List En) (j : Nat) (h : j < L.length),(enl L)[4 * j]? = some (.string L[j].key) ∧ (enl L)[4 * j + 1]? = some (.int .i64 L[j].st) ∧ (enl L)[4 * j + 2]? = some (.int .i64 L[j].lf) ∧ (enl L)[4 * j + 3]? = some (.string L[j].bd)
 | [],j,h => by simp at h
 | f :: L, 0,h => by simp [enl_cons,En.cells]
 | f :: L,j + 1,h => by
  have ih := enl_at L j (by simpa using h)
  have e : ∀ k, 4 * (j + 1) + k = (4 * j + k) + 4 := fun k => by omega
  rw [enl_cons]
  refine ⟨?_, ?_, ?_, ?_⟩
  ·rw [show 4 * (j + 1) = 4 * j + 4 by omega]; simpa [En.cells] using ih.1
  ·rw [e 1]; simpa [En.cells] using ih.2.1
  ·rw [e 2]; simpa [En.cells] using ih.2.2.1
  ·rw [e 3]; simpa [En.cells] using ih.2.2.2
theorem enl_set : ∀ (L : List En) (j : Nat) (f : En),((((enl L).set (j * 4) (.string f.key)).set (j * 4 + 1) (.int .i64 f.st)).set (j * 4 + 2) (.int .i64 f.lf)).set (j * 4 + 3) (.string f.bd) = enl (L.set j f)
 | [],j,f => by simp [enl]
 | g :: L, 0,f => by simp [enl_cons,En.cells]
 | g :: L,j + 1,f => by
  have ih := enl_set L j f
  rw [show (j + 1) * 4 = j * 4 + 1 + 1 + 1 + 1 by omega,enl_cons,List.set_cons_succ,enl_cons, ← ih]
  simp [En.cells]
def NAt (w : World) (a : Option Addr) (L : List En) (B : Nat) : Prop :=
 ∀ j (hj : j < L.length), ∃ g off,a = some ⟨g,off,none⟩ ∧ g < B ∧ w.cell? ⟨g,off + j * 4,none⟩ = some (.string L[j].key) ∧ w.cell? ⟨g,off + j * 4 + 1,none⟩ = some (.int .i64 L[j].st) ∧ w.cell? ⟨g,off + j * 4 + 2,none⟩ = some (.int .i64 L[j].lf) ∧ w.cell? ⟨g,off + j * 4 + 3,none⟩ = some (.string L[j].bd)
theorem NAt.below {w w' : World} {a : Option Addr} {L : List En} {B B' : Nat} (h : NAt w a L B) (hb : Below B' w w') (hB : B ≤ B') : NAt w' a L B := by
 intro j hj
 obtain ⟨g,off,ha,hg,h0,h1,h2,h3⟩ := h j hj
 have hl := Nat.lt_of_lt_of_le hg hB
 exact ⟨g,off,ha,hg,(hb.cell hl).trans h0,(hb.cell hl).trans h1,(hb.cell hl).trans h2,(hb.cell hl).trans h3⟩
theorem NAt.on {w w' : World} {a : Option Addr} {L : List En} (h : NAt w a L w.heap.size) (hb : Below w.heap.size w w') : NAt w' a L w'.heap.size := by
 intro j hj
 obtain ⟨g,off,ha,hg,r⟩ := (h.below hb (Nat.le_refl _)) j hj
 exact ⟨g,off,ha,Nat.lt_of_lt_of_le hg hb.size,r⟩
def OwnN (w : World) (base : Nat) (e : TypeId) (v : Value) (L : List En) : Prop := w.ownsRow base e 4 v L.length (enl L)
theorem OwnN.lt {w : World} {base : Nat} {e : TypeId} {v : Value} {L : List En} (h : OwnN w base e v L) (k : Nat) (hk : v.ownBlock = some k) : base ≤ k ∧ k < w.heap.size := World.ownsRow.lt h k hk
theorem OwnN.mono {w : World} {base base' : Nat} {e : TypeId} {v : Value} {L : List En} (h : OwnN w base e v L) (hb : base' ≤ base) : OwnN w base' e v L := by
 refine ⟨h.1, ?_⟩
 rcases h.2 with h | ⟨g,cap,cur,hv,hg,rest⟩
 ·exact .inl h
 ·exact .inr ⟨g,cap,cur,hv,Nat.le_trans hb hg,rest⟩
theorem OwnN.kept {w w' : World} {base : Nat} {e : TypeId} {v : Value} {L : List En} (h : OwnN w base e v L) (hk : ∀ k,v.ownBlock = some k → w'.heap[k]? = w.heap[k]?) : OwnN w' base e v L := by
 refine ⟨h.1, ?_⟩
 rcases h.2 with hn | ⟨g,cap,cur,rfl,hb,hg,rest⟩
 ·exact .inl hn
 ·exact .inr ⟨g,cap,cur,rfl,hb,by rw [hk g rfl]; exact hg,rest⟩
theorem OwnN.below {w w' : World} {B base : Nat} {e : TypeId} {v : Value} {L : List En} (h : OwnN w base e v L) (hb : Below B w w') (hB : w.heap.size ≤ B) : OwnN w' base e v L :=
 h.kept fun k hk => hb.block k (Nat.lt_of_lt_of_le (h.lt k hk).2 hB)
theorem OwnN.grown {w w' : World} {row : Option Nat} {base : Nat} {e : TypeId} {v : Value} {L : List En} (h : OwnN w base e v L) (hb : w.grownBy w' row) (hne : ∀ k,v.ownBlock = some k → row ≠ some k) : OwnN w' base e v L :=
 h.kept fun k hk => hb.block k (h.lt k hk).2 (fun e => hne k hk e.symm)
theorem OwnN.at {w : World} {base : Nat} {e : TypeId} {v : Value} {L : List En} (h : OwnN w base e v L) : ∃ a cap,v = .slice a L.length cap ∧ NAt w a L w.heap.size := by
 have h0 := h
 rcases h.2 with ⟨rfl,hn⟩ | ⟨g,cap,cur,rfl,hb,hg,h1,h2,h3,h4⟩
 ·have hx : L = [] := List.length_eq_zero_iff.1 hn
  subst hx
  exact ⟨none, 0,rfl,fun j hj => by simp at hj⟩
 ·have hgs := (Array.getElem?_eq_some_iff.1 hg).1
  refine ⟨_,_,rfl,fun j hj => ⟨g, 0,rfl,hgs, ?_⟩⟩
  have := enl_at L j hj
  rw [World.ownsRow.cellAt h0 (0 + j * 4) (by omega),World.ownsRow.cellAt h0 (0 + j * 4 + 1) (by omega),World.ownsRow.cellAt h0 (0 + j * 4 + 2) (by omega),World.ownsRow.cellAt h0 (0 + j * 4 + 3) (by omega)]
  rw [show 0 + j * 4 = 4 * j by omega]
  exact this
theorem rowN_there {w : World} {base : Nat} {e : TypeId} {g n cap : Nat} {xs : List Value} (h : w.ownsRow base e 4 (.slice (some ⟨g, 0,none⟩) n cap) n xs) (i : Nat) (hi : i < n * 4) : ∃ u,w.cell? ⟨g,i,none⟩ = some u ∧ w.frozen? ⟨g,i,none⟩ = false := by
 refine ⟨xs[i]'(by rw [h.1]; exact hi), ?_,World.ownsRow.frozenAt h i⟩
 rw [World.ownsRow.cellAt h i hi,List.getElem?_eq_getElem (by rw [h.1]; exact hi)]
theorem rowN_addr {w : World} {base : Nat} {e : TypeId} {a : Option Addr} {n cap : Nat} {xs : List Value} (h : w.ownsRow base e 4 (.slice a n cap) n xs) (hne : 0 < n) : ∃ g,a = some ⟨g, 0,none⟩ ∧ g < w.heap.size ∧ base ≤ g := by
 rcases h.2 with ⟨_,hn⟩ | ⟨g,cap',cur,hv,hb,hg,_⟩
 ·omega
 ·simp only [Value.slice.injEq] at hv
  exact ⟨g,hv.1,(Array.getElem?_eq_some_iff.1 hg).1,hb⟩
theorem rowN_below {w w' : World} {B base : Nat} {e : TypeId} {v : Value} {n : Nat} {xs : List Value} (h : w.ownsRow base e 4 v n xs) (hb : Below B w w') (hB : w.heap.size ≤ B) : w'.ownsRow base e 4 v n xs := by
 have hl := fun k hk => (World.ownsRow.lt h k hk).2
 refine ⟨h.1, ?_⟩
 rcases h.2 with hn | ⟨g,cap,cur,rfl,hb',hg,rest⟩
 ·exact .inl hn
 ·exact .inr ⟨g,cap,cur,rfl,hb',by rw [hb.block g (Nat.lt_of_lt_of_le (hl g rfl) hB)]; exact hg,rest⟩
theorem OwnN.stored {w : World} {base : Nat} {e : TypeId} {g n cap : Nat} {L : List En} (h : OwnN w base e (.slice (some ⟨g, 0,none⟩) n cap) L) (hn : n = L.length) (j : Nat) (f : En) :
  OwnN ((((w.setCell ⟨g,j * 4,none⟩ (.string f.key)).setCell ⟨g,j * 4 + 1,none⟩ (.int .i64 f.st)).setCell ⟨g,j * 4 + 2,none⟩ (.int .i64 f.lf)).setCell ⟨g,j * 4 + 3,none⟩ (.string f.bd)) base e (.slice (some ⟨g, 0,none⟩) n cap) (L.set j f) ∧
   w.grownBy ((((w.setCell ⟨g,j * 4,none⟩ (.string f.key)).setCell ⟨g,j * 4 + 1,none⟩ (.int .i64 f.st)).setCell ⟨g,j * 4 + 2,none⟩ (.int .i64 f.lf)).setCell ⟨g,j * 4 + 3,none⟩ (.string f.bd)) (some g) := by
 subst hn
 have h1 := World.ownsRow.stored h (j * 4) (.string f.key)
 have h2 := World.ownsRow.stored h1.1 (j * 4 + 1) (.int .i64 f.st)
 have h3 := World.ownsRow.stored h2.1 (j * 4 + 2) (.int .i64 f.lf)
 have h4 := World.ownsRow.stored h3.1 (j * 4 + 3) (.string f.bd)
 rw [enl_set] at h4
 refine ⟨?_,grownBy_trans h1.2 (grownBy_trans h2.2 (grownBy_trans h3.2 h4.2))⟩
 unfold OwnN
 rw [List.length_set]
 exact h4.1
theorem enl_zero (n : Nat) : (madeCells #[.string ⟨#[]⟩,.int .i64 0,.int .i64 0,.string ⟨#[]⟩] (n * 4)).toList = enl (List.replicate n zen) := by
 apply List.ext_getElem?
 intro j
 by_cases hj : j < n * 4
 ·have hat := enl_at (List.replicate n zen) (j / 4) (by simp; omega)
  simp only [List.getElem_replicate] at hat
  rcases (by omega : j % 4 = 0 ∨ j % 4 = 1 ∨ j % 4 = 2 ∨ j % 4 = 3) with h | h | h | h
  ·rw [show j = 4 * (j / 4) by omega,hat.1]
   simp [madeCells,show 4 * (j / 4) < n * 4 by omega,zen]
  ·rw [show j = 4 * (j / 4) + 1 by omega,hat.2.1]
   simp [madeCells,show 4 * (j / 4) + 1 < n * 4 by omega,show (4 * (j / 4) + 1) % 4 = 1 by omega,zen]
  ·rw [show j = 4 * (j / 4) + 2 by omega,hat.2.2.1]
   simp [madeCells,show 4 * (j / 4) + 2 < n * 4 by omega,show (4 * (j / 4) + 2) % 4 = 2 by omega,zen]
  ·rw [show j = 4 * (j / 4) + 3 by omega,hat.2.2.2]
   simp [madeCells,show 4 * (j / 4) + 3 < n * 4 by omega,show (4 * (j / 4) + 3) % 4 = 3 by omega,zen]
 ·rw [List.getElem?_eq_none (by simp [size_madeCells]; omega),List.getElem?_eq_none (by rw [enl_length]; simp; omega)]
theorem make_entries {P : Program} (w : World) (t e : TypeId) (ht : P.underlying t = some (.slice e)) (hinfo : (P.info? e).map (fun i => (i.zero,i.size,i.bytes)) = some (some (.agg #[.string ⟨#[]⟩,.int .i64 0,.int .i64 0,.string ⟨#[]⟩]), 4, 48)) (n : Nat) (hn : n ≤ 1048576) :
  ∃ w',(Instr.makeSlice t (.int .i64 (n : Int)) (.int .i64 (n : Int))).run P w = .ok (.slice (some ⟨w.heap.size, 0,none⟩) n n) w' ∧ OwnN w' w.heap.size e (.slice (some ⟨w.heap.size, 0,none⟩) n n) (List.replicate n zen) ∧ Below w.heap.size w w' := by
 obtain ⟨i0,hi,hz0,hz1,hz2⟩ := info_parts hinfo
 obtain ⟨w',h1,h2,h3⟩ := run_make_full w w.heap.size t e i0 _ 4 ht hi hz0 hz1 .i64 .i64 n (by rw [hz2]; omega) (by unfold maxLen; omega) (Nat.le_refl _)
 refine ⟨w',h1, ?_,⟨h3.os,h3.tape,h3.output,h3.size,fun j hj => h3.block j hj (by simp)⟩⟩
 unfold OwnN
 rw [List.length_replicate, ← enl_zero]
 exact h2
def ewg : List En → Nat
 | [] => 0
 | f :: L => f.wg + ewg L
theorem ewg_append : ∀ (L M : List En),ewg (L ++ M) = ewg L + ewg M
 | [],M => by simp [ewg]
 | f :: L,M => by simp [ewg,ewg_append L M]; omega
theorem ewg_take_succ (L : List En) (k : Nat) (h : k < L.length) : ewg (L.take (k + 1)) = ewg (L.take k) + L[k].wg := by
 rw [List.take_succ_eq_append_getElem h,ewg_append]; simp [ewg]
theorem ewg_mem {L : List En} {j : Nat} (h : j < L.length) : L[j].wg ≤ ewg L := by
 have h1 := ewg_take_succ L j h
 have h2 := ewg_append (L.take (j + 1)) (L.drop (j + 1))
 rw [List.take_append_drop] at h2
 omega
def SizedN (L : List En) : Prop := ∀ j (hj : j < L.length),L[j].Sized
theorem take_set_zen (L : List En) (k : Nat) (h : k < L.length) (f : En) (hf : L[k] = f) : (L.take k ++ List.replicate (L.length - k) zen).set k f = L.take (k + 1) ++ List.replicate (L.length - (k + 1)) zen := by
 subst hf
 rw [List.set_append_right _ _ (by simp; omega),List.length_take,show k - min k L.length = 0 by omega,show L.length - k = (L.length - (k + 1)) + 1 by omega,List.replicate_succ,List.set_cons_zero,List.take_succ_eq_append_getElem h]
 rw [List.append_assoc]
 rfl
theorem ownN_new (w : World) (e : TypeId) (L : List En) (cs : Array Value) (hc : cs = (enl L).toArray) (hl : L.length ≤ maxLen) : OwnN (w.alloc (.cells cs e)) w.heap.size e (.slice (some ⟨w.heap.size, 0,none⟩) L.length L.length) L := by
 subst hc
 refine ⟨by rw [enl_length],.inr ⟨w.heap.size,L.length,_,rfl,Nat.le_refl _,heap_alloc_new w _,Nat.le_refl _,hl,by simp [enl_length], ?_⟩⟩
 exact List.take_of_length_le (by simp [enl_length])
theorem ownN_nil (w : World) (base : Nat) (e : TypeId) : OwnN w base e (.slice none 0 0) [] := World.ownsRow_nil _ _ _ _
theorem NAt.src {w : World} {ad : Addr} {l : List En} {B : Nat} (hI : NAt w (some ad) l B) : ∀ j u,(enl l)[j]? = some u → w.cell? (ad.add j) = some u := by
 intro j u hu
 obtain ⟨hj,_⟩ := List.getElem?_eq_some_iff.1 hu
 rw [enl_length] at hj
 obtain ⟨g,off,ha,_,h0,h1,h2,h3⟩ := hI (j / 4) (by omega)
 simp only [Option.some.injEq] at ha
 subst ha
 have hat := enl_at l (j / 4) (by omega)
 rw [Addr.add_mid]
 rcases (by omega : j % 4 = 0 ∨ j % 4 = 1 ∨ j % 4 = 2 ∨ j % 4 = 3) with h | h | h | h
 ·have e : j = 4 * (j / 4) := by omega
  rw [e,hat.1] at hu
  rw [show off + j = off + j / 4 * 4 by omega,h0]
  exact hu
 ·have e : j = 4 * (j / 4) + 1 := by omega
  rw [e,hat.2.1] at hu
  rw [show off + j = off + j / 4 * 4 + 1 by omega,h1]
  exact hu
 ·have e : j = 4 * (j / 4) + 2 := by omega
  rw [e,hat.2.2.1] at hu
  rw [show off + j = off + j / 4 * 4 + 2 by omega,h2]
  exact hu
 ·have e : j = 4 * (j / 4) + 3 := by omega
  rw [e,hat.2.2.2] at hu
  rw [show off + j = off + j / 4 * 4 + 3 by omega,h3]
  exact hu
theorem enl_one (l : List En) : ∀ v ∈ enl l,v.oneCell' = true := by
 intro v hv
 simp only [enl,List.mem_flatMap,En.cells] at hv
 obtain ⟨a,_,h⟩ := hv
 simp at h
 rcases h with rfl | rfl | rfl | rfl <;> rfl
theorem wpList_plusN {P : Program} {ops : Array Oper} {rest : List Oper} {o : Oper} {a : Act} {Q : Exit → Act → World → Prop} {w : World} (hgd : o.guard = none) (s x : Operand) (t : TypeId)
  (ho : o.op = .call { callee := .builtin .append,args := #[s,x],argTypes := #[t,t] }) (base : Nat) (e : TypeId) (ht : P.underlying t = some (.slice e))
  (hinfo : (P.info? e).map (fun i => (i.zero,i.size,i.bytes)) = some (some (.agg #[.string ⟨#[]⟩,.int .i64 0,.int .i64 0,.string ⟨#[]⟩]), 4, 48)) (v : Value) (A : List En) (hs : a.eval s = v) (hown : OwnN w base e v A)
  (l : List En) (cs : Array Value) (hc : cs = (enl l).toArray) (hx : a.eval x = .slice (some ⟨w.heap.size, 0,none⟩) l.length l.length) (hlen : A.length + l.length ≤ 2000000) (hbase : base ≤ w.heap.size)
  (h : ∀ v' w',OwnN w' base e v' (A ++ l) → w.grownBy w' v.ownBlock → wpList P ops Q rest (a.put o.dst v') w') :
  wpList P ops Q (o :: rest) a (w.alloc (.cells cs e)) := by
 obtain ⟨i0,hi,hz0,hz1,hz2⟩ := info_parts hinfo
 have hA : NAt (w.alloc (.cells cs e)) (some ⟨w.heap.size, 0,none⟩) l (w.alloc (.cells cs e)).heap.size := by
  obtain ⟨a',c',hv,hA⟩ := (ownN_new w e l cs hc (by unfold maxLen; omega)).at
  simp only [Value.slice.injEq,true_and] at hv
  rw [hv.1]
  exact hA
 refine wpList_append_own _ hgd s x t ho base e i0 _ 4 48 ht hi hz0 hz1 hz2 rfl (by decide) v A.length (enl A) hs (World.ownsRow.alloc hown _) ⟨w.heap.size, 0,none⟩ l.length l.length (enl l) hx (enl_length l) hA.src (enl_one l) (by unfold maxLen; omega) (by omega) (by simp; omega) ?_
 intro v' w' h1 h2 _
 refine h v' w' ?_ (grownBy_trans (grownBy_below ((Below.refl _ _).alloc (Nat.le_refl _) _)) h2)
 unfold OwnN
 rw [show enl (A ++ l) = enl A ++ enl l by simp [enl],List.length_append]
 exact h1
end Go.Proofs.YthfjfccdelbkhaaGreatDoor
