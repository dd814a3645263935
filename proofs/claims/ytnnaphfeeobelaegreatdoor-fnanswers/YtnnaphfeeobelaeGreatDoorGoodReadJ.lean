/- Texts that stand in one: GoodRead, FieldOfImpl, BodyFields, FieldPlus. -/
import Derived.Test.YtnnaphfeeobelaeGreatDoorSmugPlainJ
import Derived.Test.YtnnaphfeeobelaeGreatDoorHeadsRead
import Derived.Test.YtnnaphfeeobelaeGreatDoorControlPlainJ
import Derived.Test.YtnnaphfeeobelaeGreatDoorShelf
import Derived.Test.YtnnaphfeeobelaeGreatDoorFieldRows
namespace Go.Proofs.YtnnaphfeeobelaeGreatDoor
open Go.RowKit Go.Sort
theorem good_words {L : List (ByteArray × ByteArray)} (h2 : ∀ f ∈ L, Gd f) : ∀ b ∈ linesOf L, b.all (fun b => wordB b) = true := by
  intro b hb
  unfold linesOf at hb
  rcases List.mem_append.1 hb with hb | hb
  · obtain ⟨f, hf, rfl⟩ := List.mem_map.1 hb
    exact (h2 f hf).words
  · simp at hb
    subst hb
    rfl
theorem good_asc {line : ByteArray} {L : List (ByteArray × ByteArray)} (h1 : line ∈ hlL) (h2 : ∀ f ∈ L, Gd f) : ∀ x ∈ (headT line L).data.toList, x.toNat < 128 := by
  rw [headT_list]
  intro x hx
  rcases List.mem_append.1 hx with hx | hx
  · exact words_asc (hl_ok line h1).1 x hx
  · rcases List.mem_cons.1 hx with rfl | hx
    · decide
    · rcases List.mem_cons.1 hx with rfl | hx
      · decide
      · exact flat_asc _ (fun b hb => words_asc (good_words h2 b hb)) x hx
theorem readHead_good (w : World) (t line : ByteArray) (L : List (ByteArray × ByteArray)) (tail : List UInt8) (h1 : line ∈ hlL) (h2 : ∀ f ∈ L, Gd f) (h3 : L.length ≤ 3) (ht : t.data.toList = (headT line L).data.toList ++ tail) (hasc : ∀ x ∈ tail, x.toNat < 128) (htl : tail.length ≤ 1000) :
    Calls Tryz.prog 9 #[.string t] w fun e w' => ∃ v, e = .returned (.tuple #[.agg #[.string line, v], .int .i64 ((headT line L).size : Int), .int .i64 0]) ∧ OwnD w' w.heap.size 29 v L ∧ Below w.heap.size w w' := by
  obtain ⟨hok, hsz⟩ := good_ok h1 h2 h3
  have hz := (headOk_sz hok).1
  have hll := linesOf_len L
  have hts : t.size ≤ 1048576 := by
    rw [Lib.size_eq, ht, List.length_append, ← Lib.size_eq]
    omega
  have hl : t.data.toList = line.data.toList ++ 13 :: 10 :: (flatL (linesOf L) ++ tail) := by
    rw [ht, headT_list]
    simp
  have hK : posL (line.data.toList.length + 2) (linesOf L) (L.length + 1) = (headT line L).size := by
    unfold posL
    rw [List.take_of_length_le (by omega), Lib.size_eq, headT_list]
    simp
    omega
  have h := readLines_whole ((( readW w t).heap.size, .cells #[.int .i64 0] 3 (0, 0)) :: besideR w) w (w.heap.size + 1) ⟨#[]⟩ (.slice none 0 0) t ((readW w t).alloc (.cells #[.int .i64 0] 3)) ((readW_rr w t).push #[.int .i64 0] 3 (by decide)) hts
    (by rw [ht]; intro x hx; rcases List.mem_append.1 hx with hx | hx; exact good_asc h1 h2 x hx; exact hasc x hx)
    line.data.toList (linesOf L) tail L L.length hl (wordB_noEnd (hl_ok line h1).1) (lineOk_back h1) (fun i hi => wordB_noEnd (good_words h2 _ (List.getElem_mem hi))) rfl (by omega) hll
    (fun i hi hi' hi'' => by rw [linesOf_at L i hi hi']; exact (h2 _ (List.getElem_mem _)).line) (linesOf_last L) (by rw [mk_back]; exact hok)
  rw [mk_back, hK] at h
  exact readHead_ok w t line L (headT line L).size hz (read_of_ok (readW_rr w t) (beside_lt w t) h)
end Go.Proofs.YtnnaphfeeobelaeGreatDoor

namespace Go.Proofs.YtnnaphfeeobelaeGreatDoor
open Go.RowKit Go.Sort
theorem cloneH_any (s : ByteArray) (w : World) (hs : s.size ≤ 281474976710656) :
    Calls Tryz.prog 40 #[.string s] w fun e w' => e = .returned (.string s) ∧ Below w.heap.size w w' := by
  go_enter Tryz.func40, Tryz.ntmps40
  go_wp2_with (go_at_call 56; refine (Tryz.stringslite_Clone s _ hs).mono ?_; rintro e w' ⟨rfl, hb⟩)
  go_ret
  exact ⟨rfl, hb⟩
theorem KBz_cells {w : World} {T : Nat} {e : TypeId} {l v : Value} (h : w.heap[T]? = some (.cells #[l, v] e (0, 0))) : w.cell? ⟨T, 0, none⟩ = some l ∧ w.cell? ⟨T, 1, none⟩ = some v :=
  ⟨by simp [World.cell?, h], by simp [World.cell?, h]⟩
set_option maxRecDepth 100000 in
set_option maxHeartbeats 4000000 in
theorem implValue_any (w : World) (a : Option Addr) (c : Nat) (line : ByteArray) (L : List (ByteArray × ByteArray)) (name : ByteArray) (hA : DAt w a L w.heap.size) (hz : HdSz line L) :
    Calls Tryz.prog 48 #[.slice a L.length c, .string name] w fun e w' => e = .returned (.tuple #[.string (fieldOfS L name).1, .bool (fieldOfS L name).2]) ∧ Below w.heap.size w w' := by
  have hz' := hz
  unfold HdSz at hz'
  obtain ⟨R, hR⟩ : ∃ R, fieldOfS L name = R := ⟨_, rfl⟩
  rw [hR]
  have HR : Hid (fieldOfS L name = R) := hR
  clear hR
  go_enter Tryz.func48, Tryz.ntmps48
  go_wp2_with fail
  go_loopw [7, 10] (fun _ i wr => Box (∃ (k : Nat), k ≤ L.length ∧ i = .int .i64 k ∧ Hid (∀ q (hq : q < L.length), q < k → eqT L[q].1 name = false) ∧ Below w.heap.size w wr))
    (fun _ i _ => L.length - (intOf i).toNat)
  case atStart => exact ⟨⟨0, by omega, rfl, fun q _ hq => absurd hq (Nat.not_lt_zero _), Below.refl _ _⟩⟩
  case round =>
    obtain ⟨k, hk, rfl, HN, hbr⟩ := hrel.out
    clear hrel
    by_cases hlt : k < L.length
    · obtain ⟨g, off, hga, _, q0, q1⟩ := (hA.on hbr) k hlt
      have hsz := hz.at k hlt
      obtain ⟨f, hf⟩ : ∃ f, L[k] = f := ⟨_, rfl⟩
      rw [hf] at q0 q1 hsz
      have HF : Hid (L[k] = f) := hf
      obtain ⟨wx, hwx⟩ : ∃ x, wr.alloc (.cells #[.string f.1, .string f.2] 29) = x := ⟨_, rfl⟩
      have hbx : Below wr.heap.size wr wx := by rw [← hwx]; exact (Below.refl _ _).alloc (Nat.le_refl _) _
      have hbrx := hbr.trans (hbx.mono hbr.size)
      have HX : Hid (wr.alloc (.cells #[.string f.1, .string f.2] 29) = wx) := hwx
      have cC := cloneH_any f.2 wx (by omega)
      subst hga
      have hi1 : (0 : Int) ≤ (k : Int) := by omega
      have hi2 : (k : Int) < (L.length : Int) := by omega
      have HK : Hid (k < L.length) := hlt
      have hkb : k ≤ 1048576 := by omega
      clear hf hsz hwx
      cases he : eqT f.1 name with
      | true =>
        have HP : Hid (R = (f.2, true)) := by show _ = _; rw [← HR.out]; exact fieldOf_some HN.out hlt HF.out he
        have he' : (f.1.toList == name.toList) = true := he
        clear he hz' hz
        go_wp2_with fail
        rw [HX.out]
        refine cC.mono ?_
        rintro e w2 ⟨rfl, hb2⟩
        go_wp2_with fail
        go_ret2
        exact ⟨by rw [HP.out]; rfl, hbrx.trans (hb2.mono hbrx.size)⟩
      | false =>
        have HE : Hid (eqT f.1 name = false) := he
        have he' : (f.1.toList == name.toList) = false := he
        clear he hz' hz cC
        go_wp2_with fail
        go_roundw
        case rel =>
          try ((repeat apply Exists.intro); refine ⟨?_, rfl⟩)
          refine ⟨⟨k + 1, HK.out, by go_num, fun q hq hqk => ?_, by rw [HX.out]; exact hbrx⟩⟩
          by_cases e : q = k
          · subst e; rw [HF.out]; exact HE.out
          · exact HN.out q hq (by omega)
        case measure => have := HK.out; simp [intOf]; omega
    · have hi2 : ¬ (k : Int) < (L.length : Int) := by omega
      have HP : Hid (R = (⟨#[]⟩, false)) := by show _ = _; rw [← HR.out]; exact fieldOf_none fun q hq => HN.out q hq (by omega)
      clear hz' hz
      go_wp2_with fail
      go_ret2
      exact ⟨by rw [HP.out]; rfl, hbr⟩
set_option maxHeartbeats 4000000 in
theorem implWireF_any (w : World) (a : Option Addr) (c n : Nat) (line : ByteArray) :
    Calls Tryz.prog 34 #[.agg #[.string line, .slice a n c]] w fun e w' => e = .returned (.agg #[.string line, .slice a n c]) ∧ Below w.heap.size w w' := by
  go_enter Tryz.func34, Tryz.ntmps34
  go_wp2
  refine bodyPost_ret (v := .agg #[.string line, .slice a n c]) (by simp [results, Tryz.results34, go_sem]) rfl ⟨rfl, ?_⟩
  exact ((Below.refl w.heap.size w).alloc (Nat.le_refl _) _).alloc (by simp) _
set_option maxRecDepth 100000 in
set_option maxHeartbeats 4000000 in
theorem implFieldOf_any (w : World) (a : Option Addr) (c : Nat) (line : ByteArray) (L : List (ByteArray × ByteArray)) (name : ByteArray) (hA : DAt w a L w.heap.size) (hz : HdSz line L) (_ : name.size ≤ 1048576) :
    Calls Tryz.prog 32 #[.agg #[.string line, .slice a L.length c], .string name] w fun e w' => e = .returned (.tuple #[.string (fieldOfS L name).1, .bool (fieldOfS L name).2]) ∧ Below w.heap.size w w' := by
  obtain ⟨wb, hwb⟩ : ∃ wb, w.alloc (.cells #[.string line, .slice a L.length c] 32) = wb := ⟨_, rfl⟩
  have hb : Below w.heap.size w wb := by rw [← hwb]; exact (Below.refl _ _).alloc (Nat.le_refl _) _
  have hX : wb.heap[w.heap.size]? = some (.cells #[.string line, .slice a L.length c] 32 (0, 0)) := by rw [← hwb]; exact heap_alloc_new w _
  have hAb := hA.on hb
  have HW : Hid (w.alloc (.cells #[.string line, .slice a L.length c] 32) = wb) := hwb
  obtain ⟨b0, b1⟩ := KBz_cells hX
  rw [← hwb] at b0 b1
  have hfd : ∀ wi : World, (Instr.field 53 (.agg #[.string line, .slice a L.length c]) 1).run Tryz.prog wi = .ok (.slice a L.length c) wi := fun _ => by kernel_rfl
  clear hwb hA hX
  go_enter Tryz.func32, Tryz.ntmps32
  go_wp2_with fail
  rw [HW.out] at b0 b1 ⊢
  refine (implWireF_any wb a c L.length line).mono ?_
  rintro e w1 ⟨rfl, hb1⟩
  have cO := implValue_any w1 a c line L name (hAb.on hb1) hz
  clear b0 b1
  go_wp2_with fail
  refine cO.mono ?_
  rintro e w2 ⟨rfl, hb2⟩
  go_wp2_with fail
  go_ret2
  exact ⟨rfl, hb.trans ((hb1.trans (hb2.mono hb1.size)).mono hb.size)⟩
end Go.Proofs.YtnnaphfeeobelaeGreatDoor

namespace Go.Proofs.YtnnaphfeeobelaeGreatDoor
open Go.RowKit Go.Sort
set_option maxHeartbeats 4000000 in
theorem bodyFields_any (w : World) (a : Option Addr) (c : Nat) (line : ByteArray) (L : List (ByteArray × ByteArray)) (hA : DAt w a L w.heap.size) (hz : HdSz line L) :
    Calls Tryz.prog 18 #[.agg #[.string line, .slice a L.length c]] w fun e w' => e = .returned (.tuple #[.bool (fieldOfS L clN).2, .bool (fieldOfS L teN).2]) ∧ Below w.heap.size w w' := by
  obtain ⟨wb, hwb⟩ : ∃ wb, w.alloc (.cells #[.string line, .slice a L.length c] 32) = wb := ⟨_, rfl⟩
  have hb : Below w.heap.size w wb := by rw [← hwb]; exact (Below.refl _ _).alloc (Nat.le_refl _) _
  have hX : wb.heap[w.heap.size]? = some (.cells #[.string line, .slice a L.length c] 32 (0, 0)) := by rw [← hwb]; exact heap_alloc_new w _
  have HX : Hid (∀ wi, Below wb.heap.size wb wi → wi.cell? ⟨w.heap.size, 0, none⟩ = some (.string line) ∧ wi.cell? ⟨w.heap.size, 1, none⟩ = some (.slice a L.length c)) := fun wi hi => KBz_cells ((hi.block _ (Array.getElem?_eq_some_iff.1 hX).1).trans hX)
  obtain ⟨b0, b1⟩ := KBz_cells hX
  rw [← hwb] at b0 b1
  have HW : Hid (w.alloc (.cells #[.string line, .slice a L.length c] 32) = wb) := hwb
  have hAb := hA.on hb
  have c1 := implFieldOf_any wb a c line L clN hAb hz (by decide)
  have C2 : Hid (∀ wi, Below wb.heap.size wb wi → Calls Tryz.prog 32 #[.agg #[.string line, .slice a L.length c], .string teN] wi fun e w' => e = .returned (.tuple #[.string (fieldOfS L teN).1, .bool (fieldOfS L teN).2]) ∧ Below wi.heap.size wi w') := fun wi hi => implFieldOf_any wi a c line L teN (hAb.on hi) hz (by decide)
  have HB : Hid (Below w.heap.size w wb) := hb
  generalize (fieldOfS L clN).1 = f1 at c1
  generalize (fieldOfS L clN).2 = g1 at c1
  generalize (fieldOfS L teN).1 = f2 at C2
  generalize (fieldOfS L teN).2 = g2 at C2
  clear hwb hA hAb hb hX hz
  go_enter Tryz.func18, Tryz.ntmps18
  go_wp2_with fail
  rw [HW.out] at b0 b1 ⊢
  refine c1.mono ?_
  rintro e w1 ⟨rfl, hb1⟩
  clear c1 b0 b1
  have c2 := C2.out w1 hb1
  obtain ⟨b0, b1⟩ := HX.out w1 hb1
  clear C2
  go_wp2_with fail
  refine c2.mono ?_
  rintro e w2 ⟨rfl, hb2⟩
  have HB2 : Hid (Below w.heap.size w w2) := HB.out.trans ((hb1.trans (hb2.mono hb1.size)).mono HB.out.size)
  clear c2 b0 b1
  go_wp2_with fail
  go_ret2
  exact ⟨rfl, HB2.out⟩
end Go.Proofs.YtnnaphfeeobelaeGreatDoor

namespace Go.Proofs.YtnnaphfeeobelaeGreatDoor
open Go.RowKit
theorem DAt.src {w : World} {ad : Addr} {l : List (ByteArray × ByteArray)} {B : Nat} (hI : DAt w (some ad) l B) : ∀ j u, (fdl l)[j]? = some u → w.cell? (ad.add j) = some u := by
  intro j u hu
  obtain ⟨hj, _⟩ := List.getElem?_eq_some_iff.1 hu
  rw [fdl_length] at hj
  obtain ⟨g, off, ha, _, hc0, hc1⟩ := hI (j / 2) (by omega)
  simp only [Option.some.injEq] at ha
  subst ha
  have hat := fdl_at l (j / 2) (by omega)
  rw [Addr.add_mid]
  rcases (by omega : j % 2 = 0 ∨ j % 2 = 1) with h | h
  · have e : j = 2 * (j / 2) := by omega
    rw [e, hat.1] at hu
    rw [show off + j = off + j / 2 * 2 by omega, hc0]
    exact hu
  · have e : j = 2 * (j / 2) + 1 := by omega
    rw [e, hat.2] at hu
    rw [show off + j = off + j / 2 * 2 + 1 by omega, hc1]
    exact hu
theorem DAt.none_nil {w : World} {l : List (ByteArray × ByteArray)} {B : Nat} (h : DAt w none l B) : l = [] := by
  cases l with
  | nil => rfl
  | cons x r =>
    obtain ⟨g, off, ha, _⟩ := h 0 (by simp)
    cases ha
theorem wpList_plusD {P : Program} {ops : Array Oper} {rest : List Oper} {o : Oper} {a : Act} {Q : Exit → Act → World → Prop} {w : World} (hgd : o.guard = none) (s x : Operand) (t : TypeId)
    (ho : o.op = .call { callee := .builtin .append, args := #[s, x], argTypes := #[t, t] }) (base : Nat) (e : TypeId) (ht : P.underlying t = some (.slice e))
    (hinfo : (P.info? e).map (fun i => (i.zero, i.size, i.bytes)) = some (some (.agg #[.string ⟨#[]⟩, .string ⟨#[]⟩]), 2, 32)) (v : Value) (A : List (ByteArray × ByteArray)) (hs : a.eval s = v) (hown : OwnD w base e v A)
    (a0 : Option Addr) (cap : Nat) (l : List (ByteArray × ByteArray)) (B : Nat) (hx : a.eval x = .slice a0 l.length cap) (hI : DAt w a0 l B) (hlen : A.length + l.length ≤ 2000000) (hbase : base ≤ w.heap.size)
    (h : ∀ v' w', OwnD w' base e v' (A ++ l) → w.grownBy w' v.ownBlock → wpList P ops Q rest (a.put o.dst v') w') :
    wpList P ops Q (o :: rest) a w := by
  obtain ⟨i0, hi, hz0, hz1, hz2⟩ := info_parts hinfo
  cases a0 with
  | some ad =>
    refine wpList_append_own _ hgd s x t ho base e i0 _ 2 32 ht hi hz0 hz1 hz2 rfl (by decide) v A.length (fdl A) hs hown ad l.length cap (fdl l) hx (fdl_length l) hI.src (fdl_one' l) (by unfold maxLen; omega) (by omega) hbase ?_
    intro v' w' h1 h2 _
    refine h v' w' ?_ h2
    unfold OwnD
    rw [show fdl (A ++ l) = fdl A ++ fdl l by simp [fdl], List.length_append]
    exact h1
  | none =>
    have := hI.none_nil
    subst this
    refine wpList_plain hgd fun K hK => ?_
    have hrun : (Builtin.append_ #[t, t] o.type #[v, .slice none 0 cap]).run P w = .ok v w := by
      rcases hown.2 with ⟨rfl, _⟩ | ⟨g, cp, cur, rfl, _, _, hnc, _⟩
      · simp [Builtin.append_, run_underlying ht, sizeOf, typeInfo, hi, Builtin.lenOf, Builtin.firstCells]
      · simp [Builtin.append_, run_underlying ht, sizeOf, typeInfo, hi, Builtin.lenOf, Builtin.firstCells, storeCells, hnc]
    unfold Oper.wp
    simp at hx
    simp [execOp, ho, resolve, invoke, builtin, hs, hx, hrun, Result.andThen]
    exact hK _ _ (h v w (by simpa using hown) ⟨rfl, rfl, rfl, Nat.le_refl _, fun _ _ _ => rfl⟩)
end Go.Proofs.YtnnaphfeeobelaeGreatDoor
