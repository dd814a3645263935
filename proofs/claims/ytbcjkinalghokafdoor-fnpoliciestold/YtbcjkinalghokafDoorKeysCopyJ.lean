/- Texts that stand in one: KeysCopy, Enter. -/
import Derived.Test.YtbcjkinalghokafDoorSkNewSpecJ
import Derived.Test.YtbcjkinalghokafDoorPolStepJ
import Derived.Test.YtbcjkinalghokafDoorShelf
import Derived.Test.YtbcjkinalghokafDoorSettle
import Derived.Deep.RegionLaw
namespace Go.Proofs.YtbcjkinalghokafDoor
open Go.RowKit Go.Sort

theorem cloneS_any (s : ByteArray) (w : World) (hs : s.size ≤ 281474976710656) :
    Calls Tryd.prog 75 #[.string s] w fun e w' => e = .returned (.string s) ∧ Below w.heap.size w w' := by
  go_enter Tryd.func75, Tryd.ntmps75
  go_wp2_with (go_at_call 83; refine (Tryd.stringslite_Clone s _ hs).mono ?_; rintro e w' ⟨rfl, hb⟩)
  go_ret
  exact ⟨rfl, hb⟩
theorem set_part {l : List ByteArray} {k : Nat} (hk : k < l.length) (z : Value) : (strs (l.take k) ++ List.replicate (l.length - k) z).set k (.string l[k]) = strs (l.take (k + 1)) ++ List.replicate (l.length - (k + 1)) z := by
  have hl : (strs (l.take k)).length = k := by rw [strs_length, List.length_take]; omega
  obtain ⟨m, hm⟩ : ∃ m, l.length - k = m + 1 := ⟨l.length - k - 1, by omega⟩
  rw [List.set_append_right _ _ (by omega), hl, hm, Nat.sub_self, List.replicate_succ, List.set_cons_zero, List.take_succ_eq_append_getElem hk, strs_append, show l.length - (k + 1) = m by omega]
  simp [strs]
set_option maxRecDepth 100000 in
set_option maxHeartbeats 2000000 in
theorem keysCopy_any (w : World) (a : Option Addr) (c : Nat) (L : List ByteArray) (hA : LAt w a L w.heap.size) (hm : L.length ≤ 1048576) (hz : ∀ z ∈ L, z.size ≤ 281474976710656) :
    Calls Tryd.prog 58 #[.slice a L.length c] w fun e w' => ∃ v, e = .returned v ∧ OwnV w' w.heap.size 9 v (strs L) ∧ Below w.heap.size w w' := by
  obtain ⟨i0, hi, hz0, hz1, hz2⟩ := info_parts Tryd.infoSK
  obtain ⟨w2, hmk, hown0, hgr0⟩ := run_make_full (P := Tryd.prog) w w.heap.size 24 9 i0 (.string ⟨#[]⟩) 1 Tryd.underlying24 hi hz0 hz1 .i64 .i64 L.length (by rw [hz2]; omega) (by unfold maxLen; omega) (Nat.le_refl _)
  have HO : Hid (OwnV w2 w.heap.size 9 (.slice (some ⟨w.heap.size, 0, none⟩) L.length L.length) (strs (L.take 0) ++ List.replicate (L.length - 0) (.string ⟨#[]⟩))) := by
    have := hown0
    rw [show (Value.string ⟨#[]⟩).cells = #[Value.string ⟨#[]⟩] from rfl, toList_madeCells_one, Nat.mul_one] at this
    show OwnV _ _ _ _ _
    rw [List.take_zero, show strs [] = [] from rfl, List.nil_append, Nat.sub_zero]
    unfold OwnV
    rw [List.length_replicate]
    exact this
  have HB : Hid (Below w.heap.size w w2) := ⟨hgr0.os, hgr0.tape, hgr0.output, hgr0.size, fun j hj => hgr0.block j hj (by simp)⟩
  have HZ : Hid (∀ z ∈ L, z.size ≤ 281474976710656) := hz
  obtain ⟨G, hG⟩ : ∃ G, w.heap.size = G := ⟨_, rfl⟩
  rw [hG] at hmk HO HB
  have HG : Hid (w.heap.size = G) := hG
  rw [hG] at hA
  clear hown0 hgr0 hz hz0 hz1 hz2 hi hG
  go_enter Tryd.func58, Tryd.ntmps58
  go_wp2
  go_loopw [11] (fun i wr => Box (∃ (k : Nat), k ≤ L.length ∧ i = .int .i64 k ∧ Hid (OwnV wr G 9 (.slice (some ⟨G, 0, none⟩) L.length L.length) (strs (L.take k) ++ List.replicate (L.length - k) (.string ⟨#[]⟩))) ∧ Hid (Below G w wr)))
    (fun i _ => L.length - (intOf i).toNat)
  case atStart => exact ⟨⟨0, by omega, rfl, HO, HB⟩⟩
  case round =>
    obtain ⟨k, hk, rfl, HO1, HB1⟩ := hrel.out
    clear hrel HO HB hmk
    by_cases hlt : k < L.length
    · obtain ⟨g, off, hga, _, q0⟩ := (hA.below HB1.out (Nat.le_refl _)) k hlt
      have hsz := HZ.out _ (List.getElem_mem hlt)
      have HS := fun (W : World) (h : OwnV W G 9 (.slice (some ⟨G, 0, none⟩) L.length L.length) (strs (L.take k) ++ List.replicate (L.length - k) (.string ⟨#[]⟩))) => (h.stored (by rw [List.length_append, strs_length, List.length_take, List.length_replicate]; omega) k (.string L[k]))
      rw [set_part hlt] at HS
      obtain ⟨f, hf⟩ : ∃ f, L[k] = f := ⟨_, rfl⟩
      rw [hf] at q0 hsz HS
      have HSS : Hid _ := HS
      subst hga
      have HC : Hid (∀ wi, Calls Tryd.prog 75 #[.string f] wi fun e w' => e = .returned (.string f) ∧ Below wi.heap.size wi w') := fun wi => cloneS_any f wi hsz
      have hi1 : (0 : Int) ≤ (k : Int) := by omega
      have hi2 : (k : Int) < (L.length : Int) := by omega
      have HK : Hid (k < L.length) := hlt
      have hkb : k ≤ 1048576 := by omega
      clear hf hsz hlt hk HS
      go_wp2_with fail
      refine (HC.out _).mono ?_
      rintro e w3 ⟨rfl, hb3⟩
      have hO3 := HO1.out.below hb3 (Nat.le_refl _)
      have HB3 : Hid (Below G w w3) := HB1.out.trans (hb3.mono (by have := HB1.out.size; have := HG.out; omega))
      have HN := HSS.out w3 hO3
      have s0 : w3.cell? ⟨G, k, none⟩ = some (.string ⟨#[]⟩) := by
        obtain ⟨a', c', e', h'⟩ := hO3.shape
        have hlen : (strs (L.take k) ++ List.replicate (L.length - k) (Value.string ⟨#[]⟩)).length = L.length := by rw [List.length_append, strs_length, List.length_take, List.length_replicate]; have := HK.out; omega
        obtain ⟨g', e1, h1, _⟩ := h' k (by rw [hlen]; exact HK.out)
        simp only [Value.slice.injEq] at e'
        rw [← e'.1] at e1
        simp only [Option.some.injEq, Addr.mk.injEq, and_true] at e1
        rw [e1, h1, List.getElem_append_right (by rw [strs_length, List.length_take]; omega)]
        simp
      have s1 : w3.frozen? ⟨G, k, none⟩ = false := by
        obtain ⟨a', c', e', h'⟩ := hO3.shape
        have hlen : (strs (L.take k) ++ List.replicate (L.length - k) (Value.string ⟨#[]⟩)).length = L.length := by rw [List.length_append, strs_length, List.length_take, List.length_replicate]; have := HK.out; omega
        obtain ⟨g', e1, _, h1, _⟩ := h' k (by rw [hlen]; exact HK.out)
        simp only [Value.slice.injEq] at e'
        rw [← e'.1] at e1
        simp only [Option.some.injEq, Addr.mk.injEq, and_true] at e1
        rw [e1]
        exact h1
      have HNN : Hid _ := HN
      clear HN hO3 hb3 HC HO1 q0 HSS
      go_wp2_with fail
      go_roundw
      case rel =>
        try ((repeat apply Exists.intro); refine ⟨?_, rfl⟩)
        exact ⟨⟨k + 1, HK.out, by go_num, HNN.out.1, HB3.out.setCell (Nat.le_refl _) _⟩⟩
      case measure => have := HK.out; simp [intOf]; omega
    · have hke : k = L.length := by omega
      have HO2 : Hid (OwnV wr w.heap.size 9 (.slice (some ⟨G, 0, none⟩) L.length L.length) (strs L)) := by
        have := HO1.out
        rw [hke, List.take_length, Nat.sub_self, List.replicate_zero, List.append_nil] at this
        rw [HG.out]
        exact this
      clear hA HO1
      go_wp2_with fail
      go_ret
      exact ⟨_, rfl, HO2.out, by rw [HG.out]; exact HB1.out⟩
end Go.Proofs.YtbcjkinalghokafDoor

namespace Go.Proofs.YtbcjkinalghokafDoor
open Go.RowKit Go.Sort

theorem step_snocS {P : Program} {ops : Array Oper} {o : Oper} {a : Act} {K : Act → World → Prop} {Q : Exit → Act → World → Prop} {E : Prop} {wr : World} (hgd : o.guard = none) (s x : Operand) (t : TypeId)
    (ho : o.op = .call { callee := .builtin .append, args := #[s, x], argTypes := #[t, t] }) (base : Nat) (ht : P.underlying t = some (.slice 9))
    (hinfo : (P.info? 9).map (fun i => (i.zero, i.size, i.bytes)) = some (some (.string ⟨#[]⟩), 1, 16)) (v : Value) (L : List ByteArray) (hs : a.eval s = v) (hown : OwnV wr base 9 v (strs L))
    (y : ByteArray) (hx : a.eval x = .slice (some ⟨wr.heap.size, 0, none⟩) 1 1) (hlen : L.length ≤ 2000000) (hbase : base ≤ wr.heap.size)
    (h : ∀ g cap w', OwnV w' base 9 (.slice (some ⟨g, 0, none⟩) (L.length + 1) cap) (strs (L ++ [y])) → wr.grownBy w' v.ownBlock → (v.ownBlock = some g ∨ wr.heap.size ≤ g) → K (a.put o.dst (.slice (some ⟨g, 0, none⟩) (L.length + 1) cap)) w') :
    if Region.wanted o (yielded ops a.tmps) = true then Oper.wp P o a (wr.alloc (.cells #[.string y] 9)) K Q else E := by
  obtain ⟨i0, hi, hz0, hz1, hz2⟩ := info_parts hinfo
  have hO : (wr.alloc (.cells #[.string y] 9)).ownsRow base 9 1 v L.length (strs L) := by
    have h1 := OwnV.alloc hown (.cells #[.string y] 9)
    unfold OwnV at h1
    rw [strs_length] at h1
    exact h1
  refine step_append_lies _ hgd s x t ho base 9 i0 _ 1 16 ht hi hz0 hz1 hz2 rfl (by decide) v L.length (strs L) hs hO ⟨wr.heap.size, 0, none⟩ 1 1 [.string y] hx rfl (fun j u hj => ?_) (fun u hu => ?_) (by decide) (by unfold maxLen; omega) (by omega) (by simp; omega) (wr.heap.size + 1) (by simp) ?_
  · match j, hj with
    | 0, hj => simp at hj; subst hj; simp [Addr.add]
  · simp at hu; subst hu; rfl
  · intro g cap w' h1 h2 h3 _
    refine h g cap w' ?_ (grown_alloc h2) ?_
    · unfold OwnV
      rw [strs_append, List.length_append, strs_length]
      exact h1
    · rcases h3 with h3 | h3
      · exact .inl h3
      · exact .inr (by omega)
/-- Who was not there comes: what is left, and who is out. -/
def enterP (P : Pol) (key : ByteArray) : Pol × ByteArray := if P.win.length + 1 ≤ 2 then (⟨P.win ++ [key], P.main, P.sk⟩, noKey) else pushP (P.win ++ [key]).tail P.main P.sk (P.win.getD 0 noKey)
/-- Both ways of it. -/
theorem settle_any (w : World) (V G lo : Nat) (v1 v2 v3 : Value) (P : Pol) (key : ByteArray) (h : Seats w V G lo v1 v2 v3 P noKey) (hm : P.main.length ≤ 4) (hs : P.sk.rows.length ≤ 1048576) (hk : key.size ≤ 1048576) (hz : ∀ z ∈ P.main, z.size ≤ 1048576) (ht : ∀ W, Below G w W → Tab W) :
    Calls Tryd.prog 79 #[.pointer (some ⟨V, 0, none⟩), .string key] w fun e w' => e = .returned (.tuple #[]) ∧ Below G w w' ∧ ∃ v1' v2' v3', Seats w' V G lo v1' v2' v3' (pushP P.win P.main P.sk key).1 (pushP P.win P.main P.sk key).2 := by
  by_cases h4 : P.main.length < 4
  · refine (settle_room w V G lo v1 v2 v3 P noKey key h h4).mono ?_
    rintro e w' ⟨rfl, v2', hS, hB⟩
    refine ⟨rfl, hB, v1, v2', v3, ?_⟩
    unfold pushP
    rw [if_pos h4]
    exact hS
  · obtain ⟨m0, mr, he⟩ : ∃ m0 mr, P.main = m0 :: mr := by
      cases hM : P.main with
      | nil => rw [hM] at h4; simp at h4
      | cons a r => exact ⟨a, r, rfl⟩
    refine (settle_full w V G lo v1 v2 v3 P noKey key m0 mr h (by omega) he hs hk (hz m0 (by rw [he]; exact List.mem_cons_self ..)) ht).mono ?_
    rintro e w' ⟨rfl, hB, hS⟩
    refine ⟨rfl, hB, ?_⟩
    unfold pushP
    rw [if_neg h4, show P.main.getD 0 noKey = m0 by rw [he]; rfl]
    rcases hS with ⟨hg, hS⟩ | ⟨hg, v2', hS⟩
    · rw [if_neg (by omega)]
      exact ⟨v1, v2, v3, hS⟩
    · rw [if_pos hg, show P.main.tail = mr by rw [he]; rfl]
      exact ⟨v1, v2', v3, hS⟩
set_option maxRecDepth 100000 in
set_option maxHeartbeats 4000000 in
theorem enter_any (w : World) (V G lo : Nat) (v1 v2 v3 : Value) (P : Pol) (key : ByteArray) (h : Seats w V G lo v1 v2 v3 P noKey) (hw : P.win.length ≤ 2) (hm : P.main.length ≤ 4) (hs : P.sk.rows.length ≤ 1048576) (hk : key.size ≤ 1048576) (hz : ∀ z ∈ P.win ++ P.main, z.size ≤ 1048576) (ht : ∀ W, Below G w W → Tab W) :
    Calls Tryd.prog 62 #[.pointer (some ⟨V, 0, none⟩), .string key] w fun e w' => e = .returned (.tuple #[]) ∧ Below G w w' ∧ ∃ v1' v2' v3', Seats w' V G lo v1' v2' v3' (enterP P key).1 (enterP P key).2 := by
  have HS : Hid (Seats w V G lo v1 v2 v3 P noKey) := h
  obtain ⟨b0, _, _, _, _⟩ := h.1.cells
  have hO1 := h.1.2.1
  obtain ⟨a1, k1, rfl, _⟩ := hO1.strsAt
  have HC : Hid (∀ wi, Calls Tryd.prog 75 #[.string key] wi fun e w' => e = .returned (.string key) ∧ Below wi.heap.size wi w') := fun wi => cloneS_any key wi (by omega)
  have hdr : Below w.heap.size w w.drew := ⟨rfl, rfl, rfl, Nat.le_refl _, fun _ _ => rfl⟩
  have hwl : P.win.length ≤ 2000000 := by omega
  have HON : Hid (∀ W, Below w.heap.size w W → Seats W V G lo (.slice a1 P.win.length k1) v2 v3 P noKey ∧ Below G w W) := fun W hW => ⟨h.on hW, hW.mono (by have := h.lo; have := h.2.2.1; omega)⟩
  have HX : Hid (P.win.length ≤ 2 ∧ P.main.length ≤ 4 ∧ P.sk.rows.length ≤ 1048576 ∧ (∀ z ∈ P.win ++ P.main, z.size ≤ 1048576) ∧ ∀ W, Below G w W → Tab W) := ⟨hw, hm, hs, hz, ht⟩
  clear h hw hm hs hz ht hO1
  go_enter Tryd.func62, Tryd.ntmps62
  go_wp2_with fail
  go_region_law (first
    | (go_simp; go_at_call 75; refine (HC.out _).mono ?_; rintro e w3 ⟨rfl, hb3⟩; obtain ⟨S3, B3⟩ := HON.out w3 (hdr.trans (hb3.mono hdr.size)); obtain ⟨c0, _, _, _, _⟩ := S3.1.cells; obtain ⟨c0', _, _, _, _⟩ := (S3.on (w' := w3.alloc (.cells #[.string key] 9)) ((Below.refl _ _).alloc (Nat.le_refl _) _)).1.cells)
    | (refine step_snocS rfl (.tmp 10) (.tmp 13) 24 rfl lo Tryd.underlying24 Tryd.infoSK _ P.win rfl S3.1.2.1 key rfl hwl S3.lo ?_; intro g cap w4 ho4 hg4 hn4; obtain ⟨q0, qf⟩ := S3.1.var1 seats_ty hg4; have q1 := qf 0))
  all_goals (
    obtain ⟨S5, B5⟩ := S3.win hg4 ho4 (fun k e => by simp only [Value.ownBlock, Option.some.injEq] at e; subst e; exact hn4)
    have HB5 : Hid (Below G w (w4.setCell ⟨V, 0, none⟩ (.slice (some ⟨g, 0, none⟩) (P.win.length + 1) cap))) := B3.trans B5
    obtain ⟨w5, hw5⟩ : ∃ x, w4.setCell ⟨V, 0, none⟩ (.slice (some ⟨g, 0, none⟩) (P.win.length + 1) cap) = x := ⟨_, rfl⟩
    rw [hw5] at S5 HB5 ⊢
    clear S3 B3 B5 hw5 c0 c0' q0 qf q1 hg4 ho4 hn4 hb3 hdr
    obtain ⟨n, hn⟩ : ∃ n, P.win.length + 1 = n := ⟨_, rfl⟩
    obtain ⟨l1, l2, l3, l4, l5⟩ := HX.out
    obtain ⟨d0, _, _, _, _⟩ := S5.1.cells
    rw [hn] at S5 d0 ⊢
    by_cases hn2 : n ≤ 2
    · have hi : ¬ ((2 : Int) < (n : Int)) := by omega
      have HF : Hid (Seats w5 V G lo (.slice (some ⟨g, 0, none⟩) n cap) v2 v3 ⟨P.win ++ [key], P.main, P.sk⟩ noKey) := S5
      have HE : Hid (enterP P key = (⟨P.win ++ [key], P.main, P.sk⟩, noKey)) := by show _ = _; unfold enterP; rw [hn, if_pos hn2]
      clear S5 HX l1 l2 l3 l4 l5 HON HS b0 hn hwl
      go_wp2_with fail
      go_end0
      refine ⟨rfl, HB5.out, .slice (some ⟨g, 0, none⟩) n cap, v2, v3, ?_⟩
      rw [HE.out]
      exact HF.out
    · have hi : ((2 : Int) < (n : Int)) := by omega
      obtain ⟨f, s, hfs⟩ : ∃ f s, P.win = [f, s] := by
        match hP : P.win with
        | [f, s] => exact ⟨f, s, rfl⟩
        | [] => rw [hP] at hn; simp at hn; omega
        | [_] => rw [hP] at hn; simp at hn; omega
        | _ :: _ :: _ :: _ => rw [hP] at l1; simp at l1
      have e1 : (P.win ++ [key]).tail = [s, key] := by rw [hfs]; rfl
      have e2 : P.win.getD 0 noKey = f := by rw [hfs]; rfl
      have hcf : w5.cell? ⟨g, 0, none⟩ = some (.string f) := by
        have hc := (S5.1.2.1.cell (j := 0) (by rw [strs_length]; simp)).1
        rw [hc]
        simp [hfs, strs]
      have cD := deleteFirst_any w5 lo _ (P.win ++ [key]) S5.1.2.1 (by simp)
      rw [e1] at cD
      have HE : Hid (enterP P key = pushP [s, key] P.main P.sk f) := by show _ = _; unfold enterP; rw [hn, if_neg hn2, e1, e2]
      have HS5 : Hid (Seats w5 V G lo (.slice (some ⟨g, 0, none⟩) n cap) v2 v3 ⟨P.win ++ [key], P.main, P.sk⟩ noKey) := S5
      have HFZ : Hid (f.size ≤ 1048576) := l4 f (by rw [hfs]; simp)
      clear S5 l1 l2 l3 l4 l5 HON HS b0 hn hwl hfs e1 e2
      go_wp2_with fail
      refine cD.mono ?_
      rintro e w6 ⟨v6, rfl, ho6, hn6, hg6⟩
      obtain ⟨a6, k6, rfl, _⟩ := ho6.strsAt
      have S5 : Seats w5 V G lo (.slice (some ⟨g, 0, none⟩) n cap) v2 v3 ⟨P.win ++ [key], P.main, P.sk⟩ noKey := HS5.out
      obtain ⟨u0, uf⟩ := S5.1.var1 seats_ty hg6
      have u1 := uf 0
      obtain ⟨S7, B7⟩ := S5.win hg6 ho6 (fun k e => .inl (by rw [← hn6]; exact e))
      have HB7 : Hid (Below G w (w6.setCell ⟨V, 0, none⟩ (.slice a6 [s, key].length k6))) := HB5.out.trans B7
      obtain ⟨w7, hw7⟩ : ∃ x, w6.setCell ⟨V, 0, none⟩ (.slice a6 [s, key].length k6) = x := ⟨_, rfl⟩
      have HW7 : Hid (w6.setCell ⟨V, 0, none⟩ (.slice a6 2 k6) = w7) := hw7
      rw [hw7] at S7 HB7
      obtain ⟨l1, l2, l3, l4, l5⟩ := HX.out
      have cS := settle_any w7 V G lo _ v2 v3 ⟨[s, key], P.main, P.sk⟩ f S7 l2 l3 HFZ.out (fun z hz => l4 z (List.mem_append_right _ hz)) (fun W hW => l5 W (HB7.out.trans hW))
      dsimp only at cS
      clear S5 S7 B7 hw7 ho6 hn6 hg6 uf l1 l2 l3 l4 l5 cD
      go_wp2_with fail
      rw [HW7.out]
      refine cS.mono ?_
      rintro e w8 ⟨rfl, hb8', v1', v2', v3', hS8⟩
      have hb8 := HB7.out.trans hb8'
      have HF : Hid _ := hS8
      clear hS8 cS hb8'
      go_wp2_with fail
      go_end0
      refine ⟨rfl, hb8, v1', v2', v3', ?_⟩
      rw [HE.out]
      exact HF.out)
end Go.Proofs.YtbcjkinalghokafDoor
