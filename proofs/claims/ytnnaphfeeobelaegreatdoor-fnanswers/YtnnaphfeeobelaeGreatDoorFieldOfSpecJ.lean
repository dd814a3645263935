/- Texts that stand in one: FieldOfSpec, Fig, Decimal, FieldSnoc. -/
import Derived.Test.YtnnaphfeeobelaeGreatDoorControlPlainJ
import Derived.Lib.QuietBelow
import Derived.BigQuiet
import Derived.Test.YtnnaphfeeobelaeGreatDoorHeadsPlainJ
import Derived.Test.YtnnaphfeeobelaeGreatDoorBaseJ
import Derived.Test.YtnnaphfeeobelaeGreatDoorDecPlain
import Derived.Test.YtnnaphfeeobelaeGreatDoorFieldLawJ
import Derived.Deep.RegionLaw
import Derived.Deep.AppendLies
namespace Go.Proofs.YtnnaphfeeobelaeGreatDoor
open Go.RowKit Go.Sort
/-- A head in a variable. -/
def KBy (w : World) (T : Nat) (l v : Value) : Prop := w.heap[T]? = some (.cells #[l, v] 32 (0, 0))
theorem KBy.lt {w : World} {T : Nat} {l v : Value} (h : KBy w T l v) : T < w.heap.size := (Array.getElem?_eq_some_iff.1 h).1
theorem KBy.on {w w' : World} {T : Nat} {l v : Value} (h : KBy w T l v) (hb : Below w.heap.size w w') : KBy w' T l v := (hb.block T h.lt).trans h
theorem KBy.cells {w : World} {T : Nat} {l v : Value} (h : KBy w T l v) : w.cell? ⟨T, 0, none⟩ = some l ∧ w.cell? ⟨T, 1, none⟩ = some v := by
  unfold KBy at h
  exact ⟨by simp [World.cell?, h], by simp [World.cell?, h]⟩
set_option maxRecDepth 100000 in
set_option maxHeartbeats 4000000 in
theorem specFieldOf_any (w : World) (a : Option Addr) (c : Nat) (line : ByteArray) (L : List (ByteArray × ByteArray)) (name : ByteArray) (hA : DAt w a L w.heap.size) (hz : HdSz line L) (_ : name.size ≤ 1048576) :
    Calls Tryz.prog 29 #[.agg #[.string line, .slice a L.length c], .string name] w fun e w' => e = .returned (.tuple #[.string (fieldOfS L name).1, .bool (fieldOfS L name).2]) ∧ Below w.heap.size w w' := by
  obtain ⟨wb, hwb⟩ : ∃ wb, w.alloc (.cells #[.string line, .slice a L.length c] 32) = wb := ⟨_, rfl⟩
  have hb : Below w.heap.size w wb := by rw [← hwb]; exact (Below.refl _ _).alloc (Nat.le_refl _) _
  have hX : KBy wb w.heap.size (.string line) (.slice a L.length c) := by rw [← hwb]; exact heap_alloc_new w _
  have hAb := hA.on hb
  have HW : Hid (w.alloc (.cells #[.string line, .slice a L.length c] 32) = wb) := hwb
  obtain ⟨b0, b1⟩ := hX.cells
  rw [← hwb] at b0 b1
  have hz' := hz
  unfold HdSz at hz'
  obtain ⟨R, hR⟩ : ∃ R, fieldOfS L name = R := ⟨_, rfl⟩
  rw [hR]
  have HR : Hid (fieldOfS L name = R) := hR
  clear hwb hA hR
  go_enter Tryz.func29, Tryz.ntmps29
  go_wp2
  rw [HW.out] at b0 b1 ⊢
  clear b0 b1
  go_loopw [6] (fun i wr => Box (∃ (k : Nat), k ≤ L.length ∧ i = .int .i64 k ∧ Hid (∀ q (hq : q < L.length), q < k → eqT L[q].1 name = false) ∧ Below wb.heap.size wb wr))
    (fun i _ => L.length - (intOf i).toNat)
  case atStart => exact ⟨⟨0, by omega, rfl, fun q _ hq => absurd hq (Nat.not_lt_zero _), Below.refl _ _⟩⟩
  case round =>
    obtain ⟨k, hk, rfl, HN, hbr⟩ := hrel.out
    clear hrel
    have hXr := hX.on hbr
    obtain ⟨x0, x1⟩ := hXr.cells
    by_cases hlt : k < L.length
    · obtain ⟨g, off, hga, _, q0, q1⟩ := (hAb.on hbr) k hlt
      obtain ⟨f, hf⟩ : ∃ f, L[k] = f := ⟨_, rfl⟩
      rw [hf] at q0 q1
      have HF : Hid (L[k] = f) := hf
      subst hga
      have hi1 : (0 : Int) ≤ (k : Int) := by omega
      have hi2 : (k : Int) < (L.length : Int) := by omega
      have HK : Hid (k < L.length) := hlt
      have hkb : k ≤ 1048576 := by omega
      clear hf
      cases he : eqT f.1 name with
      | true =>
        have HP : Hid (R = (f.2, true)) := by show _ = _; rw [← HR.out]; exact fieldOf_some HN.out hlt HF.out he
        have he' : (f.1.toList == name.toList) = true := he
        clear he hz' hz
        go_wp2
        go_ret2
        exact ⟨by rw [HP.out]; rfl, hb.trans (hbr.mono hb.size)⟩
      | false =>
        have HE : Hid (eqT f.1 name = false) := he
        have he' : (f.1.toList == name.toList) = false := he
        clear he hz' hz
        go_wp2
        go_roundw
        case rel =>
          try ((repeat apply Exists.intro); refine ⟨?_, rfl⟩)
          refine ⟨⟨k + 1, HK.out, by go_num, fun q hq hqk => ?_, hbr⟩⟩
          by_cases e : q = k
          · subst e; rw [HF.out]; exact HE.out
          · exact HN.out q hq (by omega)
        case measure => have := HK.out; simp [intOf]; omega
    · have hi2 : ¬ (k : Int) < (L.length : Int) := by omega
      have HP : Hid (R = (⟨#[]⟩, false)) := by show _ = _; rw [← HR.out]; exact fieldOf_none fun q hq => HN.out q hq (by omega)
      clear hz' hz
      go_wp2
      go_ret2
      exact ⟨by rw [HP.out]; rfl, hb.trans (hbr.mono hb.size)⟩
end Go.Proofs.YtnnaphfeeobelaeGreatDoor

namespace Go.Proofs.YtnnaphfeeobelaeGreatDoor
open Go.RowKit

theorem l01Figure_any (x : Nat) (w : World) (hx : x < 16) :
    Calls Tryz.prog 17 #[.int .i64 x] w fun e w' => e = .returned (.int .u8 ((fig x).toNat : Int)) ∧ w = w' := by
  by_cases h : x < 10
  · rw [fig_lo h]
    go_enter Tryz.func17, Tryz.ntmps17
    go_wp2
    go_ret
    exact ⟨by simp, rfl⟩
  · rw [fig_hi h hx]
    go_enter Tryz.func17, Tryz.ntmps17
    go_wp2
    go_ret
    exact ⟨ret_int (by omega), rfl⟩
end Go.Proofs.YtnnaphfeeobelaeGreatDoor

namespace Go.Proofs.YtnnaphfeeobelaeGreatDoor
open Go.RowKit

theorem text_cons (c : UInt8) (l : List UInt8) : (⟨[c].toArray⟩ : ByteArray) ++ (⟨l.toArray⟩ : ByteArray) = ⟨(c :: l).toArray⟩ := by rw [ByteArray.mk_append_mk]; rfl

theorem pow_down10 {f k : Nat} (h : k < 10 ^ (f + 1)) : k / 10 < 10 ^ f := by rw [Nat.pow_succ] at h; omega

set_option maxHeartbeats 1000000 in
theorem specDecimal_pos (m : Nat) (w : World) (h0 : 0 < m) (hm : m ≤ 9223372036854775807) :
    Calls Tryz.prog 7 #[.int .i64 m] w fun e w' => e = .returned (.string ⟨(digF 20 m []).toArray⟩) ∧ Below w.heap.size w w' := by
  have hz : ((m : Int) == 0) = false := by simp; omega
  have hn : decide ((m : Int) < 0) = false := by simp
  go_enter Tryz.func7, Tryz.ntmps7
  go_wp2
  go_loopw [0, 4] (fun n v wr => Box (∃ (f k : Nat) (l : List UInt8), n = .int .i64 k ∧ v = .string ⟨l.toArray⟩ ∧ k ≤ 9223372036854775807 ∧ k < 10 ^ f ∧ l.length + f ≤ 20 ∧ Hid (digF f k l = digF 20 m []) ∧ Below w.heap.size w wr))
    (fun n _ _ => (intOf n).toNat)
  case atStart => exact ⟨⟨20, m, [], rfl, rfl, hm, by omega, by simp, rfl, Below.refl _ _⟩⟩
  case round =>
    obtain ⟨f, k, l, rfl, rfl, hk, hkf, hlf, hl, hbel⟩ := hrel.out
    have hsz := hbel.size
    by_cases hlt : k = 0
    · have hk0 : ((k : Int) != 0) = false := by simp; omega
      have HK : Hid (k = 0) := hlt
      clear hlt
      go_wp2
      go_ret
      exact ⟨ret_str (by have := hl.out; rw [HK.out, digF_zero] at this; exact this), hbel⟩
    · have hk0 : ((k : Int) != 0) = true := by simp; omega
      obtain ⟨d, hd, HD⟩ : ∃ d : Nat, d < 10 ∧ (k : Int) % 10 = (d : Int) := ⟨k % 10, by omega, by omega⟩
      have hcv := fun w => one_text (P := Tryz.prog) w 22 9 5 (fig d) Tryz.underlying22 Tryz.underlying5 Tryz.underlying9
      go_wp2_with (go_at_call 17; refine (l01Figure_any d _ (by omega)).mono ?_; rintro e w' ⟨rfl, rfl⟩)
      go_roundw
      case rel =>
        try ((repeat apply Exists.intro); refine ⟨?_, rfl⟩)
        match f, hkf, hlf, hl with
        | 0, hkf, _, _ => simp at hkf; omega
        | f + 1, hkf, hlf, hl =>
          exact ⟨⟨f, k / 10, fig d :: l, by go_num, congrArg Value.string (text_cons _ _), by omega, pow_down10 hkf, by simp; omega, by
            have := hl.out
            rw [digF_on hlt, show k % 10 = d by omega] at this
            exact this, hbel.alloc hsz _⟩⟩
      case measure => simp [intOf]; omega

theorem l01Figure_zero (w : World) :
    Calls Tryz.prog 17 #[.int .i64 0] w fun e w' => e = .returned (.int .u8 ((fig 0).toNat : Int)) ∧ w = w' := by
  go_enter Tryz.func17, Tryz.ntmps17
  go_wp2
  go_ret
  exact ⟨rfl, rfl⟩

set_option maxHeartbeats 1000000 in
theorem specDecimal_neg (m : Nat) (w : World) (h0 : 0 < m) (hm : m ≤ 9223372036854775808) :
    Calls Tryz.prog 7 #[.int .i64 (-(m : Int))] w fun e w' => e = .returned (.string ⟨(45 :: digF 20 m []).toArray⟩) ∧ Below w.heap.size w w' := by
  have hz : (-(m : Int) == 0) = false := by simp; omega
  have hn : decide (-(m : Int) < 0) = true := by simp; omega
  go_enter Tryz.func7, Tryz.ntmps7
  go_wp2
  go_loopw [0, 4] (fun n v wr => Box (∃ (f k : Nat) (l : List UInt8), n = .int .i64 (-(k : Int)) ∧ v = .string ⟨l.toArray⟩ ∧ k ≤ 9223372036854775808 ∧ k < 10 ^ f ∧ l.length + f ≤ 20 ∧ Hid (digF f k l = digF 20 m []) ∧ Below w.heap.size w wr))
    (fun n _ _ => (-(intOf n)).toNat)
  case atStart => exact ⟨⟨20, m, [], rfl, rfl, hm, by omega, by simp, rfl, Below.refl _ _⟩⟩
  case round =>
    obtain ⟨f, k, l, rfl, rfl, hk, hkf, hlf, hl, hbel⟩ := hrel.out
    have hsz := hbel.size
    by_cases hlt : k = 0
    · have hk0 : (-(k : Int) != 0) = false := by simp; omega
      have HK : Hid (k = 0) := hlt
      clear hlt
      go_wp2
      go_ret
      exact ⟨by rw [show (⟨#[45]⟩ : ByteArray) ++ ⟨l.toArray⟩ = ⟨(45 :: l).toArray⟩ from text_cons _ _]; exact ret_str (by have := hl.out; rw [HK.out, digF_zero] at this; rw [this]), hbel⟩
    · have hk0 : (-(k : Int) != 0) = true := by simp; omega
      obtain ⟨q, hq, HQ⟩ : ∃ q : Nat, Hid (q = k / 10) ∧ (-(k : Int)).tdiv 10 = -(q : Int) := ⟨k / 10, rfl, by rw [Int.neg_tdiv, Int.tdiv_eq_ediv_of_nonneg (by omega)]; omega⟩
      have hq' : q ≤ 922337203685477581 := by have := hq.out; omega
      by_cases hk10 : k % 10 = 0
      · have HD : (-(k : Int)).tmod 10 = 0 := by rw [Int.neg_tmod, Int.tmod_eq_emod_of_nonneg (by omega)]; omega
        have hcv := fun w => one_text (P := Tryz.prog) w 22 9 5 (fig 0) Tryz.underlying22 Tryz.underlying5 Tryz.underlying9
        go_wp2_with (go_at_call 17; refine (l01Figure_zero _).mono ?_; rintro e w' ⟨rfl, rfl⟩)
        go_roundw
        case rel =>
          try ((repeat apply Exists.intro); refine ⟨?_, rfl⟩)
          match f, hkf, hlf, hl with
          | 0, hkf, _, _ => simp at hkf; omega
          | f + 1, hkf, hlf, hl =>
            exact ⟨⟨f, q, fig 0 :: l, by go_num, congrArg Value.string (text_cons _ _), by have := hq.out; omega, by rw [hq.out]; exact pow_down10 hkf, by simp; omega, by
              have := hl.out
              rw [digF_on hlt, ← hq.out, show k % 10 = 0 by omega] at this
              exact this, hbel.alloc hsz _⟩⟩
        case measure => simp [intOf]; have := hq.out; omega
      · obtain ⟨d, hd, hd0, HD, HD2⟩ : ∃ d : Nat, d < 10 ∧ 0 < d ∧ (-(k : Int)).tmod 10 = -(d : Int) ∧ Hid (d = k % 10) := ⟨k % 10, by omega, by omega, by rw [Int.neg_tmod, Int.tmod_eq_emod_of_nonneg (by omega)]; omega, rfl⟩
        have hcv := fun w => one_text (P := Tryz.prog) w 22 9 5 (fig d) Tryz.underlying22 Tryz.underlying5 Tryz.underlying9
        go_wp2_with (go_at_call 17; refine (l01Figure_any d _ (by omega)).mono ?_; rintro e w' ⟨rfl, rfl⟩)
        go_roundw
        case rel =>
          try ((repeat apply Exists.intro); refine ⟨?_, rfl⟩)
          match f, hkf, hlf, hl with
          | 0, hkf, _, _ => simp at hkf; omega
          | f + 1, hkf, hlf, hl =>
            exact ⟨⟨f, q, fig d :: l, by go_num, congrArg Value.string (text_cons _ _), by have := hq.out; omega, by rw [hq.out]; exact pow_down10 hkf, by simp; omega, by
              have := hl.out
              rw [digF_on hlt, ← hq.out, show k % 10 = d from HD2.out.symm] at this
              exact this, hbel.alloc hsz _⟩⟩
        case measure => simp [intOf]; have := hq.out; omega

/-- The whole: of every int. -/
theorem specDecimal_any (n : Int) (w : World) (h1 : -9223372036854775808 ≤ n) (h2 : n ≤ 9223372036854775807) :
    Calls Tryz.prog 7 #[.int .i64 n] w fun e w' => e = .returned (.string ⟨(decOf n).toArray⟩) ∧ Below w.heap.size w w' := by
  rcases (show n = 0 ∨ 0 < n ∨ n < 0 by omega) with h | h | h
  · subst h
    go_enter Tryz.func7, Tryz.ntmps7
    go_wp2
    go_ret
    exact ⟨rfl, Below.refl _ _⟩
  · obtain ⟨m, rfl⟩ : ∃ m : Nat, n = m := ⟨n.toNat, by omega⟩
    have hd : decOf (m : Int) = digF 20 m [] := by
      unfold decOf
      rw [if_neg (by omega), if_neg (by omega)]
      simp
    rw [hd]
    exact specDecimal_pos m w (by omega) (by omega)
  · obtain ⟨m, rfl⟩ : ∃ m : Nat, n = -(m : Int) := ⟨n.natAbs, by omega⟩
    have hd : decOf (-(m : Int)) = 45 :: digF 20 m [] := by
      unfold decOf
      rw [if_neg (by omega), if_pos h]
      simp
    rw [hd]
    exact specDecimal_neg m w (by omega) (by omega)
end Go.Proofs.YtnnaphfeeobelaeGreatDoor

namespace Go.Proofs.YtnnaphfeeobelaeGreatDoor
open Go.RowKit Go.Sort
/-- 'append(v, f)' of one field onto fields that are owned, at a step of a statement that leaves its order open; f lies in the block B. -/
theorem step_snocE {P : Program} {ops : Array Oper} {o : Oper} {a : Act} {K : Act → World → Prop} {Q : Exit → Act → World → Prop} {E : Prop} {w : World} (hgd : o.guard = none) (s x : Operand) (t : TypeId)
    (ho : o.op = .call { callee := .builtin .append, args := #[s, x], argTypes := #[t, t] }) (base : Nat) (e : TypeId) (ht : P.underlying t = some (.slice e))
    (hinfo : (P.info? e).map (fun i => (i.zero, i.size, i.bytes)) = some (some (.agg #[.string ⟨#[]⟩, .string ⟨#[]⟩]), 2, 32)) (v : Value) (L : List (ByteArray × ByteArray)) (hs : a.eval s = v) (hown : OwnD w base e v L)
    (B : Nat) (f : ByteArray × ByteArray) (fr : Nat × Nat) (hx : a.eval x = .slice (some ⟨B, 0, none⟩) 1 1) (hB : w.heap[B]? = some (.cells #[.string f.1, .string f.2] e fr)) (hlen : L.length < 10000000) (hbase : base ≤ w.heap.size)
    (h : ∀ g cap w', OwnD w' base e (.slice (some ⟨g, 0, none⟩) (L.length + 1) cap) (L ++ [f]) → w.grownBy w' v.ownBlock → K (a.put o.dst (.slice (some ⟨g, 0, none⟩) (L.length + 1) cap)) w') :
    if Region.wanted o (yielded ops a.tmps) = true then Oper.wp P o a w K Q else E := by
  obtain ⟨i0, hi, hz0, hz1, hz2⟩ := info_parts hinfo
  refine step_append_lies w hgd s x t ho base e i0 _ 2 32 ht hi hz0 hz1 hz2 rfl (by decide) v L.length (fdl L) hs hown ⟨B, 0, none⟩ 1 1 (fdl [f]) hx rfl (fun j u hu => World.news_of_block hB j u (by simpa [fdl, fdCells] using hu)) ?_ (by decide) (by unfold maxLen; omega) (by omega) hbase w.heap.size rfl ?_
  · intro u hu
    simp [fdl, fdCells] at hu
    rcases hu with rfl | rfl <;> rfl
  · intro g cap w' h1 h2 _ _
    refine h g cap w' ?_ h2
    unfold OwnD
    rw [show fdl (L ++ [f]) = fdl L ++ fdl [f] by simp [fdl], List.length_append, List.length_singleton]
    exact h1

end Go.Proofs.YtnnaphfeeobelaeGreatDoor
