/- Texts that stand in one: SumPlain, Bytes, Base, SumImpl, SkBase, Rowed, Ints, Touch. -/
import Derived.WalkKit
import Derived.Laws.BitsAllLaws
import Derived.Laws.IdiomStrings
import Derived.Deep.AppendLies
import Derived.Test.YtpgcfgbhkodmeaaGreatDoorChecked
import Derived.Lib.LaidTab
import Derived.WalkSmall
import Derived.OpenShut
import Derived.Laws.OwnMore
import Derived.Lib.QuietBelow
import Derived.BigQuiet
namespace Go.Proofs.YtpgcfgbhkodmeaaGreatDoor
open Go.RowKit
def sumBit (n : Nat) : Nat := if n % 2 = 1 then n / 2 ^^^ 3558460437 else n / 2
def sumTab : List Nat := [0, 1166650509, 2333301018, 3466261911, 3189058079, 4221339282, 889615109, 1888477064, 3558460437, 2442158232, 1594529039, 444807554, 1779230218, 797264519, 3776954128, 2761298845]
def sumLook (n : Nat) : Nat := n / 16 ^^^ sumTab.getD (n % 16) 0
def sumByte (s b : Nat) : Nat := sumLook (sumLook (s ^^^ b))
def sumAll (s : Nat) (l : List UInt8) : Nat := l.foldl (fun s b => sumByte s b.toNat) s
theorem xor_two (a b : Nat) : (a ^^^ b) % 2 = (a + b) % 2 := by
 have h := Nat.xor_mod_two_pow (a := a) (b := b) (n := 1)
 rw [Nat.pow_one] at h
 rw [h]
 rcases Nat.mod_two_eq_zero_or_one a with ha | ha <;> rcases Nat.mod_two_eq_zero_or_one b with hb | hb <;> rw [ha,hb] <;> simp <;> omega
theorem sumBit_xor (a b : Nat) : sumBit (a ^^^ b) = sumBit a ^^^ sumBit b := by
 have h := xor_two a b
 unfold sumBit
 rw [h,Nat.xor_div_two]
 rcases Nat.mod_two_eq_zero_or_one a with ha | ha <;> rcases Nat.mod_two_eq_zero_or_one b with hb | hb
 ·rw [if_neg (by omega),if_neg (by omega),if_neg (by omega)]
 ·rw [if_pos (by omega),if_neg (by omega),if_pos (by omega),Nat.xor_assoc]
 ·rw [if_pos (by omega),if_pos (by omega),if_neg (by omega),Nat.xor_assoc,Nat.xor_assoc,Nat.xor_comm (b / 2)]
 ·rw [if_neg (by omega),if_pos (by omega),if_pos (by omega)]
  rw [Nat.xor_assoc,Nat.xor_comm 3558460437 (b / 2 ^^^ 3558460437),Nat.xor_assoc (b / 2),Nat.xor_self,Nat.xor_zero]
theorem sumBit_twice (m : Nat) : sumBit (2 * m) = m := by
 unfold sumBit
 rw [if_neg (by omega)]
 omega
theorem split16 (n : Nat) : n = 2 * (2 * (2 * (2 * (n / 16)))) ^^^ n % 16 := by
 have h : n = 2 ^ 4 * (n / 16) + n % 16 := by omega
 have hlt : n % 16 < 2 ^ 4 := by omega
 have e : 2 * (2 * (2 * (2 * (n / 16)))) = 2 ^ 4 * (n / 16) := by omega
 rw [e]
 refine Nat.eq_of_testBit_eq fun j => ?_
 rw [Nat.testBit_xor]
 conv => lhs; rw [h]
 rw [Nat.testBit_two_pow_mul_add _ hlt,Nat.testBit_two_pow_mul]
 by_cases hj : j < 4
 ·rw [if_pos hj]
  simp [show ¬ 4 ≤ j by omega]
 ·rw [if_neg hj]
  have : (n % 16).testBit j = false := Nat.testBit_lt_two_pow (Nat.lt_of_lt_of_le hlt (Nat.pow_le_pow_right (by omega) (by omega)))
  simp [this,show 4 ≤ j by omega]
theorem sumBit_small (k : Nat) (h : k < 16) : sumBit (sumBit (sumBit (sumBit k))) = sumTab.getD k 0 := by
 have : ∀ k : Fin 16,sumBit (sumBit (sumBit (sumBit k.val))) = sumTab.getD k.val 0 := by decide +kernel
 exact this ⟨k,h⟩
theorem sumBit_four (n : Nat) : sumBit (sumBit (sumBit (sumBit n))) = sumLook n := by
 conv => lhs; rw [split16 n]
 rw [sumBit_xor,sumBit_xor,sumBit_xor,sumBit_xor,sumBit_twice,sumBit_twice,sumBit_twice,sumBit_twice,sumBit_small _ (by omega)]
 rfl
def sumBits : Nat → Nat → Nat
 | 0,n => n
 | k + 1,n => sumBits k (sumBit n)
theorem sumBits_eight (n : Nat) : sumBits 8 n = sumLook (sumLook n) := by
 rw [← sumBit_four n, ← sumBit_four]
 rfl
theorem tab_lt (k : Nat) : sumTab.getD k 0 < 4294967296 := by
 by_cases h : k < 16
 ·have : ∀ k : Fin 16,sumTab.getD k.val 0 < 4294967296 := by decide +kernel
  exact this ⟨k,h⟩
 ·rw [List.getD_eq_getElem?_getD,List.getElem?_eq_none (by simp [sumTab]; omega)]
  decide
theorem sumBit_lt {n : Nat} (h : n < 4294967296) : sumBit n < 4294967296 := by
 unfold sumBit
 split
 ·exact Nat.xor_lt_two_pow (n := 32) (by omega) (by omega)
 ·omega
theorem sumLook_lt {n : Nat} (h : n < 4294967296) : sumLook n < 4294967296 :=
 Nat.xor_lt_two_pow (n := 32) (by omega) (tab_lt _)
theorem xor_lt32 {a b : Nat} (ha : a < 4294967296) (hb : b < 4294967296) : a ^^^ b < 4294967296 := Nat.xor_lt_two_pow (n := 32) ha hb
theorem sumByte_lt {s b : Nat} (hs : s < 4294967296) (hb : b < 256) : sumByte s b < 4294967296 :=
 sumLook_lt (sumLook_lt (xor_lt32 hs (by omega)))
theorem sumAll_lt {s : Nat} {l : List UInt8} (hs : s < 4294967296) : sumAll s l < 4294967296 := by
 induction l generalizing s with
 | nil => exact hs
 | cons b l ih => exact ih (sumByte_lt hs b.toNat_lt)
theorem sumAll_snoc (s : Nat) (l : List UInt8) (b : UInt8) : sumAll s (l ++ [b]) = sumByte (sumAll s l) b.toNat := by simp [sumAll]
def four (n : Nat) : List UInt8 := [UInt8.ofNat (n / 16777216),UInt8.ofNat (n / 65536),UInt8.ofNat (n / 256),UInt8.ofNat n]
structure Box (p : Prop) : Prop where
 out : p
theorem one_text {P : Program} (w : World) (src dst e : TypeId) (c : UInt8) (hs : P.underlying src = some (.slice e)) (he : P.underlying e = some (.int .u8)) (hd : P.underlying dst = some .string) :
  (convert src dst (.slice (some ⟨w.heap.size, 0,none⟩) 1 1)).run P (w.alloc (.cells #[.int .u8 (c.toNat : Int)] e)) = .ok (.string ⟨[c].toArray⟩) (w.alloc (.cells #[.int .u8 (c.toNat : Int)] e)) := by
 refine run_convert_bytes_back _ src dst e ⟨w.heap.size, 0,none⟩ 1 [c] hs he hd fun j hj => ?_
 match j,hj with
 | 0,_ => simp [Addr.add]
theorem one_text_of {P : Program} (w : World) (src dst e : TypeId) (c : UInt8) (x : Int) (hx : x = (c.toNat : Int)) (hs : P.underlying src = some (.slice e)) (he : P.underlying e = some (.int .u8)) (hd : P.underlying dst = some .string) :
  (convert src dst (.slice (some ⟨w.heap.size, 0,none⟩) 1 1)).run P (w.alloc (.cells #[.int .u8 x] e)) = .ok (.string ⟨[c].toArray⟩) (w.alloc (.cells #[.int .u8 x] e)) := by
 subst hx; exact one_text w src dst e c hs he hd
theorem ret_int {k : IntKind} {a b : Int} (h : a = b) : Ending.returned (.int k a) = .returned (.int k b) := by rw [h]
theorem Tryz.info5 : (Tryz.prog.info? 5).map (fun i => (i.zero,i.size,i.bytes)) = some (some (.int .u8 0), 1, 1) := by kernel_rfl
def inN (x a b : Int) : Bool := decide (a ≤ x ∧ x ≤ b)
theorem in_any (x a b : Int) (w : World) :
  Calls Tryz.prog 44 #[.int .i64 x,.int .i64 a,.int .i64 b] w fun e w' => e = .returned (.bool (inN x a b)) ∧ w' = w := by
 unfold inN
 by_cases h1 : a ≤ x
 ·by_cases h2 : x ≤ b
  ·rw [decide_eq_true (show a ≤ x ∧ x ≤ b from ⟨h1,h2⟩)]
   go_enter Tryz.func44,Tryz.ntmps44
   go_wp2
   go_ret
   exact ⟨rfl,rfl⟩
  ·rw [decide_eq_false (show ¬ (a ≤ x ∧ x ≤ b) by omega)]
   have h3 : decide (x ≤ b) = false := by simpa using h2
   go_enter Tryz.func44,Tryz.ntmps44
   go_wp2
   go_ret
   exact ⟨rfl,rfl⟩
 ·rw [decide_eq_false (show ¬ (a ≤ x ∧ x ≤ b) by omega)]
  have h3 : decide (a ≤ x) = false := by simpa using h1
  go_enter Tryz.func44,Tryz.ntmps44
  go_wp2
  go_ret
  exact ⟨rfl,rfl⟩
theorem gFour : Tryz.prog.globalNamed "loop.example/g00245/impl.fourSteps" = some 1 := by kernel_rfl
def Tab (w : World) : Prop := Lib.TabIs Tryz.prog w "loop.example/g00245/impl.fourSteps" .u32 (sumTab.map fun (n : Nat) => (n : Int))
theorem Tab.cell {w : World} (h : Tab w) (i : Nat) (hi : i < 16) : w.cell? ⟨1,i,none⟩ = some (.int .u32 (sumTab.getD i 0 : Nat)) := by
 have := Lib.TabIs.cell h gFour i (by simpa [sumTab] using hi)
 rw [this]
 simp [List.getD]
 cases sumTab[i]? <;> rfl
theorem Tab.lt {w : World} (h : Tab w) : 1 < w.heap.size := by
 unfold Tab Lib.TabIs World.var? at h
 simp only [gFour,Option.bind_some] at h
 cases hh : w.heap[1]? with
 | none => rw [hh] at h; cases h
 | some o => exact (Array.getElem?_eq_some_iff.1 hh).1
theorem Tab.below {w w' : World} {B : Nat} (h : Tab w) (hb : Below B w w') (hB : w.heap.size ≤ B) : Tab w' :=
 var?_below hb gFour (Nat.lt_of_lt_of_le h.lt hB) h
set_option maxHeartbeats 1000000 in
theorem withByte_any (s b : Nat) (w : World) (hs : s < 4294967296) (hb : b < 256) (ht : Tab w) :
  Calls Tryz.prog 245 #[.int .u32 (s : Int),.int .u8 (b : Int)] w fun e w' => e = .returned (.int .u32 (sumByte s b : Nat)) ∧ w = w' := by
 have hx := u32_xor_nat s b hs (by omega)
 obtain ⟨n,hn⟩ : ∃ n,s ^^^ b = n := ⟨_,rfl⟩
 have hnl : n < 4294967296 := by rw [← hn]; exact xor_lt32 hs (by omega)
 rw [hn] at hx
 have hc1 := ht.cell (n % 16) (by omega)
 have hl1 := tab_lt (n % 16)
 obtain ⟨m,hm⟩ : ∃ m,sumLook n = m := ⟨_,rfl⟩
 have hml : m < 4294967296 := by rw [← hm]; exact sumLook_lt hnl
 have hm1 : n / 16 ^^^ sumTab.getD (n % 16) 0 = m := hm
 have hc2 := ht.cell (m % 16) (by omega)
 have hl2 := tab_lt (m % 16)
 rw [show sumByte s b = m / 16 ^^^ sumTab.getD (m % 16) 0 by unfold sumByte; rw [hn,hm]; rfl]
 generalize sumTab.getD (n % 16) 0 = y1 at hc1 hl1 hm1
 generalize sumTab.getD (m % 16) 0 = y2 at hc2 hl2 ⊢
 have hx1 : bits .xor .u32 ((n : Int) / 16) (y1 : Int) = (m : Int) := by
  have := u32_xor_nat (n / 16) y1 (by omega) hl1
  rw [hm1] at this
  exact this
 obtain ⟨q,hq⟩ : ∃ q,m / 16 ^^^ y2 = q := ⟨_,rfl⟩
 have hx2 : bits .xor .u32 ((m : Int) / 16) (y2 : Int) = (q : Int) := by
  have := u32_xor_nat (m / 16) y2 (by omega) hl2
  rw [hq] at this
  exact this
 rw [hq]
 clear hm hm1 hq hn ht hl1 hl2
 go_enter Tryz.func245,Tryz.ntmps245
 go_wp2
 go_ret
 exact ⟨rfl,rfl⟩
theorem takeSnoc (s : ByteArray) (k : Nat) (hk : k < s.size) : s.data.toList.take (k + 1) = s.data.toList.take k ++ [s[k]] := by
 have h : k < s.data.toList.length := by simpa using hk
 rw [List.take_add_one,List.getElem?_eq_getElem h]
 rfl
set_option maxHeartbeats 1000000 in
theorem implSumMore_any (n : Nat) (s : ByteArray) (w : World) (hn : n < 4294967296) (hs : s.size ≤ 1048580) (ht : Tab w) :
  Calls Tryz.prog 241 #[.int .u32 (n : Int),.string s] w fun e w' => e = .returned (.int .u32 (sumAll n s.data.toList : Nat)) ∧ w = w' := by
 go_enter Tryz.func241,Tryz.ntmps241
 go_wp2
 go_loopw [5, 6, 10] (fun v _ i wr => Box (∃ (k m : Nat),k ≤ s.size ∧ i = .int .i64 k ∧ v = .int .u32 (m : Int) ∧ m < 4294967296 ∧ Hid (m = sumAll n (s.data.toList.take k)) ∧ w = wr))
  (fun _ _ i _ => s.size - (intOf i).toNat)
 case atStart => exact ⟨⟨0,n,Nat.zero_le _,rfl,rfl,hn,rfl,rfl⟩⟩
 case round =>
  obtain ⟨k,m,hk,rfl,rfl,hm,HM,rfl⟩ := hrel.out
  by_cases hlt : k < s.size
  ·obtain ⟨b,hb⟩ : ∃ b,s[k] = b := ⟨_,rfl⟩
   have HB : Hid (s[k] = b) := hb
   have hbl : b.toNat < 256 := b.toNat_lt
   have c := withByte_any m b.toNat w hm hbl ht
   have hl := sumByte_lt hm hbl
   have HS : Hid (sumByte m b.toNat = sumAll n (s.data.toList.take (k + 1))) := by
    show _ = _
    rw [takeSnoc s k hlt,HB.out,sumAll_snoc, ← HM.out]
   obtain ⟨q,hq⟩ : ∃ q,sumByte m b.toNat = q := ⟨_,rfl⟩
   rw [hq] at c hl HS
   clear hq
   go_wp2_with (go_at_call 245; refine c.mono ?_; rintro e w' ⟨rfl,rfl⟩)
   go_roundw
   case rel =>
    try ((repeat apply Exists.intro); refine ⟨?_,rfl⟩)
    exact ⟨⟨k + 1,q,by omega,by go_num,rfl,hl,HS,by first | rfl | trivial⟩⟩
   case measure => simp [intOf]; omega
  ·go_wp2
   go_ret
   exact ⟨by rw [HM.out,List.take_of_length_le (by simp; omega)]; rfl,rfl⟩
theorem implSumOf_any (s : ByteArray) (w : World) (hs : s.size ≤ 1048580) (ht : Tab w) :
  Calls Tryz.prog 231 #[.string s] w fun e w' => e = .returned (.int .u32 (sumAll 4294967295 s.data.toList : Nat)) ∧ w = w' := by
 have c := implSumMore_any 4294967295 s w (by omega) hs ht
 generalize sumAll 4294967295 s.data.toList = q at c
 go_enter Tryz.func231,Tryz.ntmps231
 go_wp2_with (go_at_call 241; refine c.mono ?_; rintro e w' ⟨rfl,rfl⟩)
 go_ret
 exact ⟨rfl,rfl⟩
structure Sk where
 rows : List (List Int)
 added : Int
def numOk (z : Int) : Bool := decide (0 ≤ z ∧ z ≤ 15)
def rowOk (r : List Int) : Bool := decide (r.length = 16) && r.all numOk
def headOkK (S : Sk) : Bool := decide (S.rows.length = 3) && decide (0 ≤ S.added ∧ S.added ≤ 63)
def okK (S : Sk) : Bool := headOkK S && S.rows.all rowOk
theorem rowOk_len {r : List Int} (h : rowOk r = true) : r.length = 16 := by
 unfold rowOk at h
 simp only [Bool.and_eq_true,decide_eq_true_eq] at h
 exact h.1
theorem rowOk_at {r : List Int} (h : rowOk r = true) (p : Nat) (hp : p < 16) : 0 ≤ r.getD p 0 ∧ r.getD p 0 ≤ 15 := by
 have hl := rowOk_len h
 unfold rowOk at h
 simp only [Bool.and_eq_true,List.all_eq_true] at h
 have h2 := h.2 r[p] (List.getElem_mem (by omega))
 simp only [numOk,decide_eq_true_eq] at h2
 rw [List.getD_eq_getElem?_getD,List.getElem?_eq_getElem (by omega)]
 exact h2
theorem list3S {l : List (List Int)} (h : l.length = 3) : ∃ a b c,l = [a,b,c] := by
 match l,h with
 | [a,b,c],_ => exact ⟨a,b,c,rfl⟩
theorem okK_parts {S : Sk} (h : okK S = true) : ∃ a b c,S.rows = [a,b,c] ∧ rowOk a = true ∧ rowOk b = true ∧ rowOk c = true ∧ 0 ≤ S.added ∧ S.added ≤ 63 := by
 unfold okK headOkK at h
 simp only [Bool.and_eq_true,decide_eq_true_eq,List.all_eq_true] at h
 obtain ⟨⟨h1,h2⟩,h3⟩ := h
 obtain ⟨a,b,c,e⟩ := list3S h1
 rw [e] at h3
 exact ⟨a,b,c,e,h3 a (by simp),h3 b (by simp),h3 c (by simp),h2.1,h2.2⟩
theorem okK_mk {a b c : List Int} {n : Int} (ha : rowOk a = true) (hb : rowOk b = true) (hc : rowOk c = true) (h0 : 0 ≤ n) (h1 : n ≤ 63) : okK ⟨[a,b,c],n⟩ = true := by
 simp [okK,headOkK,ha,hb,hc,h0,h1]
def OwnV (w : World) (base : Nat) (e : TypeId) (v : Value) (xs : List Value) : Prop := w.ownsRow base e 1 v xs.length xs
theorem OwnV.alloc {w : World} {base : Nat} {e : TypeId} {v : Value} {xs : List Value} (h : OwnV w base e v xs) (o : Obj) : OwnV (w.alloc o) base e v xs := World.ownsRow.alloc h o
theorem OwnV.lt {w : World} {base : Nat} {e : TypeId} {v : Value} {xs : List Value} (h : OwnV w base e v xs) (k : Nat) (hk : v.ownBlock = some k) : base ≤ k ∧ k < w.heap.size := World.ownsRow.lt h k hk
theorem OwnV.mono {w : World} {base base' : Nat} {e : TypeId} {v : Value} {xs : List Value} (h : OwnV w base e v xs) (hb : base' ≤ base) : OwnV w base' e v xs := by
 refine ⟨h.1, ?_⟩
 rcases h.2 with h | ⟨g,cap,cur,hv,hg,rest⟩
 ·exact .inl h
 ·exact .inr ⟨g,cap,cur,hv,Nat.le_trans hb hg,rest⟩
theorem OwnV.kept {w w' : World} {base : Nat} {e : TypeId} {v : Value} {xs : List Value} (h : OwnV w base e v xs) (hk : ∀ k,v.ownBlock = some k → w'.heap[k]? = w.heap[k]?) : OwnV w' base e v xs := by
 refine ⟨h.1, ?_⟩
 rcases h.2 with hn | ⟨g,cap,cur,rfl,hb,hg,rest⟩
 ·exact .inl hn
 ·exact .inr ⟨g,cap,cur,rfl,hb,by rw [hk g rfl]; exact hg,rest⟩
theorem OwnV.below {w w' : World} {B base : Nat} {e : TypeId} {v : Value} {xs : List Value} (h : OwnV w base e v xs) (hb : Below B w w') (hB : w.heap.size ≤ B) : OwnV w' base e v xs :=
 h.kept fun k hk => hb.block k (Nat.lt_of_lt_of_le (h.lt k hk).2 hB)
theorem OwnV.grown {w w' : World} {row : Option Nat} {base : Nat} {e : TypeId} {v : Value} {xs : List Value} (h : OwnV w base e v xs) (hb : w.grownBy w' row) (hne : ∀ k,v.ownBlock = some k → row ≠ some k) : OwnV w' base e v xs :=
 h.kept fun k hk => hb.block k (h.lt k hk).2 (fun e => hne k hk e.symm)
theorem OwnV.shape {w : World} {base : Nat} {e : TypeId} {v : Value} {xs : List Value} (h : OwnV w base e v xs) :
  ∃ a cap,v = .slice a xs.length cap ∧ ∀ j (hj : j < xs.length), ∃ g,a = some ⟨g, 0,none⟩ ∧ w.cell? ⟨g,j,none⟩ = some xs[j] ∧ w.frozen? ⟨g,j,none⟩ = false ∧ base ≤ g ∧ g < w.heap.size := by
 have h0 := h
 rcases h.2 with ⟨rfl,hn⟩ | ⟨g,cap,cur,rfl,hb,hg,rest⟩
 ·have hx : xs = [] := List.length_eq_zero_iff.1 hn
  subst hx
  exact ⟨none, 0,rfl,fun j hj => by simp at hj⟩
 ·refine ⟨_,_,rfl,fun j hj => ⟨g,rfl, ?_,World.ownsRow.frozenAt h0 j,hb,(Array.getElem?_eq_some_iff.1 hg).1⟩⟩
  rw [World.ownsRow.cellAt h0 j (by omega),List.getElem?_eq_getElem hj]
theorem OwnV.nil (w : World) (base : Nat) (e : TypeId) : OwnV w base e (.slice none 0 0) [] := World.ownsRow_nil w base e 1
theorem OwnV.stored {w : World} {base : Nat} {e : TypeId} {g n cap : Nat} {xs : List Value} (h : OwnV w base e (.slice (some ⟨g, 0,none⟩) n cap) xs) (hn : n = xs.length) (j : Nat) (u : Value) :
  OwnV (w.setCell ⟨g,j,none⟩ u) base e (.slice (some ⟨g, 0,none⟩) n cap) (xs.set j u) ∧ w.grownBy (w.setCell ⟨g,j,none⟩ u) (some g) := by
 subst hn
 have := World.ownsRow.stored h j u
 refine ⟨?_,this.2⟩
 unfold OwnV
 rw [List.length_set]
 exact this.1
theorem grownBy_refl (w : World) (row : Option Nat) : w.grownBy w row := ⟨rfl,rfl,rfl,Nat.le_refl _,fun _ _ _ => rfl⟩
theorem grownBy_trans {a b c : World} {row : Option Nat} (h : a.grownBy b row) (k : b.grownBy c row) : a.grownBy c row :=
 ⟨k.os.trans h.os,k.tape.trans h.tape,k.output.trans h.output,Nat.le_trans h.size k.size,fun j hj hr => (k.block j (Nat.lt_of_lt_of_le hj h.size) hr).trans (h.block j hj hr)⟩
theorem grownBy_below {a b : World} {row : Option Nat} (h : Below a.heap.size a b) : a.grownBy b row := ⟨h.os,h.tape,h.output,h.size,fun j hj _ => h.block j hj⟩
theorem wpList_snocV {P : Program} {ops : Array Oper} {rest : List Oper} {o : Oper} {a : Act} {Q : Exit → Act → World → Prop} {wr : World} (hgd : o.guard = none) (s x : Operand) (t : TypeId)
  (ho : o.op = .call { callee := .builtin .append,args := #[s,x],argTypes := #[t,t] }) (base : Nat) (e : TypeId) (ht : P.underlying t = some (.slice e)) (z : Value) (bytes : Nat)
  (hinfo : (P.info? e).map (fun i => (i.zero,i.size,i.bytes)) = some (some z, 1,bytes)) (hz : z.cells.size = 1) (v : Value) (xs : List Value) (hs : a.eval s = v) (hown : OwnV wr base e v xs)
  (y : Value) (hx : a.eval x = .slice (some ⟨wr.heap.size, 0,none⟩) 1 1) (hy : y.oneCell' = true) (hlen : (xs.length + 1) * bytes ≤ 140737488355328) (hlen2 : xs.length < 140737488355328) (hbase : base ≤ wr.heap.size)
  (h : ∀ v' w',OwnV w' base e v' (xs ++ [y]) → v' ≠ .slice none 0 0 → (∀ w0,Below base w0 wr → Below base w0 w') → wr.heap.size ≤ w'.heap.size → wpList P ops Q rest (a.put o.dst v') w') :
  wpList P ops Q (o :: rest) a (wr.alloc (.cells #[y] e)) := by
 obtain ⟨i0,hi,hz0,hz1,hz2⟩ := info_parts hinfo
 refine wpList_append_own _ hgd s x t ho base e i0 z 1 bytes ht hi hz0 hz1 hz2 hz (by decide) v xs.length xs hs (World.ownsRow.alloc hown _) ⟨wr.heap.size, 0,none⟩ 1 1 [y] hx rfl ?_ ?_ ?_ ?_ ?_ ?_
 ·intro j u hj
  match j,hj with
  | 0,hj => simp at hj; subst hj; simp [Addr.add]
 ·intro u hu; simp at hu; subst hu; exact hy
 ·unfold maxLen; omega
 ·exact hlen
 ·simp; omega
 ·intro v' w' h1 h2 h3
  refine h v' w' ?_ (fun hn => by have := h3.1 hn; omega) (fun w0 hb => ?_) ?_
  ·unfold OwnV; simpa using h1
  ·exact Below.grown (hb.alloc hbase _) h2 (by simp; omega) (fun k hk => (World.ownsRow.lt hown k hk).1)
  ·have := h2.size; simp at this; omega
def strs (l : List ByteArray) : List Value := l.map Value.string
theorem strs_length (l : List ByteArray) : (strs l).length = l.length := by simp [strs]
theorem strs_append (l m : List ByteArray) : strs (l ++ m) = strs l ++ strs m := by simp [strs]
theorem strs_at {l : List ByteArray} {j : Nat} (h : j < l.length) : (strs l)[j]'(by rw [strs_length]; exact h) = .string l[j] := by simp [strs]
def ints (l : List Int) : List Value := l.map (Value.int .i64)
theorem ints_length (l : List Int) : (ints l).length = l.length := by simp [ints]
theorem ints_at {l : List Int} {j : Nat} (h : j < l.length) : (ints l)[j]'(by rw [ints_length]; exact h) = .int .i64 l[j] := by simp [ints]
end Go.Proofs.YtpgcfgbhkodmeaaGreatDoor
namespace Go.Proofs.YtpgcfgbhkodmeaaGreatDoor
open Go.RowKit Go.Sort
theorem Tryz.infoInt : (Tryz.prog.info? 3).map (fun i => (i.zero,i.size,i.bytes)) = some (some (.int .i64 0), 1, 8) := by kernel_rfl
def IAt (w : World) (a : Option Addr) (l : List Int) (B : Nat) : Prop :=
 ∀ j (hj : j < l.length), ∃ g off,a = some ⟨g,off,none⟩ ∧ g < B ∧ w.cell? ⟨g,off + j,none⟩ = some (.int .i64 l[j])
theorem IAt.below {w w' : World} {a : Option Addr} {l : List Int} {B B' : Nat} (h : IAt w a l B) (hb : Below B' w w') (hB : B ≤ B') : IAt w' a l B := by
 intro j hj
 obtain ⟨g,off,ha,hg,h1⟩ := h j hj
 exact ⟨g,off,ha,hg,(hb.cell (Nat.lt_of_lt_of_le hg hB)).trans h1⟩
theorem IAt.mono {w : World} {a : Option Addr} {l : List Int} {B B' : Nat} (h : IAt w a l B) (hB : B ≤ B') : IAt w a l B' := by
 intro j hj
 obtain ⟨g,off,ha,hg,r⟩ := h j hj
 exact ⟨g,off,ha,Nat.lt_of_lt_of_le hg hB,r⟩
theorem IAt.on {w w' : World} {a : Option Addr} {l : List Int} (h : IAt w a l w.heap.size) (hb : Below w.heap.size w w') : IAt w' a l w'.heap.size := (h.below hb (Nat.le_refl _)).mono hb.size
theorem OwnV.ints {w : World} {base : Nat} {e : TypeId} {v : Value} {l : List Int} (h : OwnV w base e v (ints l)) : ∃ a cap,v = .slice a l.length cap ∧ IAt w a l w.heap.size := by
 obtain ⟨a,cap,hv,hc⟩ := h.shape
 rw [ints_length] at hv
 refine ⟨a,cap,hv,fun j hj => ?_⟩
 obtain ⟨g,ha,hcell,_,_,hg⟩ := hc j (by rw [ints_length]; exact hj)
 rw [ints_at hj] at hcell
 exact ⟨g, 0,ha,hg,by simpa using hcell⟩
set_option maxHeartbeats 1000000 in
theorem toIntS_any (w : World) (a : Option Addr) (cap : Nat) (l : List Int) (hL : IAt w a l w.heap.size) (hm : l.length ≤ 1048576) :
  Calls Tryz.prog 28 #[.slice a l.length cap] w fun e w' => ∃ v,e = .returned v ∧ OwnV w' w.heap.size 3 v (ints l) ∧ Below w.heap.size w w' := by
 obtain ⟨i0,hi,hz0,hz1,hz2⟩ := info_parts Tryz.infoInt
 obtain ⟨w0,hmk,hown0,hgr0⟩ := run_make_full (P := Tryz.prog) w w.heap.size 36 3 i0 (.int .i64 0) 1 Tryz.underlying36 hi hz0 hz1 .i64 .i64 l.length (by rw [hz2]; omega) (by unfold maxLen; omega) (Nat.le_refl _)
 have hb0 : Below w.heap.size w w0 := ⟨hgr0.os,hgr0.tape,hgr0.output,hgr0.size,fun j hj => hgr0.block j hj (by simp)⟩
 obtain ⟨G,hG⟩ : ∃ G,w.heap.size = G := ⟨_,rfl⟩
 have hown : OwnV w0 G 3 (.slice (some ⟨G, 0,none⟩) l.length l.length) (ints [] ++ List.replicate l.length (.int .i64 0)) := by
  rw [← hG]
  have := hown0
  simp only [Value.cells,Nat.mul_one,toList_madeCells_one] at this
  unfold OwnV
  simpa [Go.Proofs.YtpgcfgbhkodmeaaGreatDoor.ints] using this
 rw [hG] at hmk
 clear hown0 hgr0 hi hz0 hz1 hz2
 go_enter Tryz.func28,Tryz.ntmps28
 go_wp2
 go_loopw [4] (fun i wr => Box (∃ (k : Nat),k ≤ l.length ∧ i = .int .i64 k ∧ OwnV wr G 3 (.slice (some ⟨G, 0,none⟩) l.length l.length) (ints (l.take k) ++ List.replicate (l.length - k) (.int .i64 0)) ∧ Below w.heap.size w wr))
  (fun i _ => l.length - (intOf i).toNat)
 case atStart => exact ⟨⟨0,by omega,rfl,by simpa using hown,hb0⟩⟩
 case round =>
  obtain ⟨k,hk,rfl,hown1,hbel⟩ := hrel.out
  by_cases hlt : k < l.length
  ·obtain ⟨g,off,rfl,hg,hc0⟩ := (hL.below hbel (Nat.le_refl _)) k hlt
   have hlen : l.length = (ints (l.take k) ++ List.replicate (l.length - k) (Value.int .i64 0)).length := by simp [ints_length]; omega
   have hst := hown1.stored hlen k (.int .i64 l[k])
   have hset : (ints (l.take k) ++ List.replicate (l.length - k) (Value.int .i64 0)).set k (.int .i64 l[k]) = ints (l.take (k + 1)) ++ List.replicate (l.length - (k + 1)) (.int .i64 0) := by
    rw [List.set_append_right _ _ (by simp [ints_length]; omega),ints_length,List.length_take,show k - min k l.length = 0 by omega,show l.length - k = (l.length - (k + 1)) + 1 by omega,List.replicate_succ,List.set_cons_zero,List.take_succ_eq_append_getElem hlt]
    simp only [Go.Proofs.YtpgcfgbhkodmeaaGreatDoor.ints,List.map_append,List.map_cons,List.map_nil,List.append_assoc]
    rfl
   rw [hset] at hst
   obtain ⟨a',cap',hv,hc⟩ := hown1.shape
   obtain ⟨g',hg',hcell,hfr,_,hgs⟩ := hc k (by omega)
   rw [hg'] at hv
   simp only [Value.slice.injEq,Option.some.injEq,Addr.mk.injEq,and_true] at hv
   obtain ⟨rfl,e1,e2⟩ := hv
   clear e1 e2
   obtain ⟨x,hx⟩ : ∃ x,l[k] = x := ⟨_,rfl⟩
   obtain ⟨u,hu⟩ : ∃ u,(ints (l.take k) ++ List.replicate (l.length - k) (Value.int .i64 0))[k]'(by omega) = u := ⟨_,rfl⟩
   rw [hx] at hc0 hst
   rw [hu] at hcell
   have HST : Hid (OwnV (wr.setCell ⟨G,k,none⟩ (.int .i64 x)) G 3 (.slice (some ⟨G, 0,none⟩) l.length l.length) (ints (l.take (k + 1)) ++ List.replicate (l.length - (k + 1)) (.int .i64 0)) ∧ Below w.heap.size w (wr.setCell ⟨G,k,none⟩ (.int .i64 x))) := ⟨hst.1,hbel.setCell (by simp; omega) _⟩
   have hi1 : (0 : Int) ≤ (k : Int) := by omega
   have hi2 : (k : Int) < (l.length : Int) := by omega
   clear hrel hL hst hset hlen hc hu hx hg' hown1 hmk hown hb0
   go_wp2
   go_roundw
   case rel =>
    try ((repeat apply Exists.intro); refine ⟨?_,rfl⟩)
    exact ⟨⟨k + 1,by omega,by go_num,HST.out.1,HST.out.2⟩⟩
   case measure => simp [intOf]; omega
  ·go_wp2
   go_ret
   have hke : k = l.length := by omega
   subst hke
   simp only [List.take_length,Nat.sub_self,List.replicate_zero,List.append_nil] at hown1
   exact ⟨_,rfl,by rw [hG]; exact hown1,hbel⟩
set_option maxHeartbeats 1000000 in
theorem eqIntS_same (w : World) (a b : Option Addr) (c1 c2 : Nat) (l : List Int) (hA : IAt w a l w.heap.size) (hB : IAt w b l w.heap.size) (hl : l.length ≤ 1048576) :
  Calls Tryz.prog 38 #[.slice a l.length c1,.slice b l.length c2] w fun e w' => e = .returned (.bool true) ∧ Below w.heap.size w w' := by
 go_enter Tryz.func38,Tryz.ntmps38
 go_wp2
 go_loopw [5] (fun i wr => Box (∃ (k nq : Nat),k ≤ l.length ∧ i = .int .i64 k ∧ wr = w.drewN nq))
  (fun i _ => l.length - (intOf i).toNat)
 case atStart => exact ⟨⟨0, 0,by omega,rfl,rfl⟩⟩
 case round =>
  obtain ⟨k,nq,hk,rfl,rfl⟩ := hrel.out
  by_cases hlt : k < l.length
  ·obtain ⟨g,off,rfl,_,hc1⟩ := hA k hlt
   obtain ⟨g2,off2,rfl,_,hc2⟩ := hB k hlt
   obtain ⟨x,hx⟩ : ∃ x,l[k] = x := ⟨_,rfl⟩
   rw [hx] at hc1 hc2
   clear hA hB hx hrel
   have hi1 : (0 : Int) ≤ (k : Int) := by omega
   have hi2 : (k : Int) < (l.length : Int) := by omega
   go_wp2
   go_quiet (fail)
   go_wp2
   go_roundw
   case rel =>
    try ((repeat apply Exists.intro); refine ⟨?_,rfl⟩)
    exact ⟨⟨k + 1,_,by omega,by go_num,rfl⟩⟩
   case measure => simp [intOf]; omega
  ·go_wp2
   go_ret
   exact ⟨rfl,⟨rfl,rfl,rfl,Nat.le_refl _,fun _ _ => rfl⟩⟩
end Go.Proofs.YtpgcfgbhkodmeaaGreatDoor
namespace Go.Proofs.YtpgcfgbhkodmeaaGreatDoor
open Go.RowKit
def Tch (S : Nat → Prop) (w w' : World) : Prop := Below 0 w w' ∧ ∀ k,k < w.heap.size → ¬ S k → w'.heap[k]? = w.heap[k]?
theorem Tch.size {S : Nat → Prop} {w w' : World} (h : Tch S w w') : w.heap.size ≤ w'.heap.size := h.1.size
theorem Tch.of_below {S : Nat → Prop} {w w' : World} (h : Below w.heap.size w w') : Tch S w w' := ⟨h.mono (Nat.zero_le _),fun k hk _ => h.block k hk⟩
theorem Tch.of_grown {S : Nat → Prop} {w w' : World} {row : Option Nat} (h : w.grownBy w' row) (hS : ∀ k,row = some k → S k) : Tch S w w' :=
 ⟨⟨h.os,h.tape,h.output,h.size,fun _ hk => absurd hk (Nat.not_lt_zero _)⟩,fun k hk hn => h.block k hk (fun e => hn (hS k e.symm))⟩
theorem Tch.trans {S : Nat → Prop} {a b c : World} (h : Tch S a b) (k : Tch S b c) : Tch S a c :=
 ⟨h.1.trans k.1,fun j hj hn => (k.2 j (Nat.lt_of_lt_of_le hj h.size) hn).trans (h.2 j hj hn)⟩
theorem Tch.weak {S S' : Nat → Prop} {w w' : World} (h : Tch S w w') (hS : ∀ k,S k → S' k) : Tch S' w w' := ⟨h.1,fun k hk hn => h.2 k hk (fun e => hn (hS k e))⟩
theorem Tch.below {S : Nat → Prop} {w0 w w' : World} {B : Nat} (hb : Below B w0 w) (h : Tch S w w') (hB : B ≤ w.heap.size) (hS : ∀ k,S k → B ≤ k) : Below B w0 w' :=
 ⟨h.1.os.trans hb.os,h.1.tape.trans hb.tape,h.1.output.trans hb.output,Nat.le_trans hb.size h.size,fun k hk => (h.2 k (by omega) (fun e => by have := hS k e; omega)).trans (hb.block k hk)⟩
theorem Tch.keep {S : Nat → Prop} {w w' : World} (h : Tch S w w') {k : Nat} {o : Obj} (hk : w.heap[k]? = some o) (hn : ¬ S k) : w'.heap[k]? = some o := (h.2 k (Array.getElem?_eq_some_iff.1 hk).1 hn).trans hk
theorem OwnV.tch {S : Nat → Prop} {w w' : World} {base : Nat} {e : TypeId} {v : Value} {xs : List Value} (h : OwnV w base e v xs) (ht : Tch S w w') (hn : ∀ k,v.ownBlock = some k → ¬ S k) : OwnV w' base e v xs := h.kept fun k hk => ht.2 k (h.lt k hk).2 (hn k hk)
end Go.Proofs.YtpgcfgbhkodmeaaGreatDoor
