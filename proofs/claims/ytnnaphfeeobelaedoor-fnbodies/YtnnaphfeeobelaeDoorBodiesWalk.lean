/- The law on bodies, walked. -/
import Derived.Test.YtnnaphfeeobelaeDoorPartsDraw11
import Derived.Test.YtnnaphfeeobelaeDoorChunkBack
import Derived.Test.YtnnaphfeeobelaeDoorDrawTurn
import Derived.Test.YtnnaphfeeobelaeDoorBig
import Derived.Test.YtnnaphfeeobelaeDoorBodyAns
import Derived.Test.YtnnaphfeeobelaeDoorChunkTextImpl
import Derived.Lib.Strings
namespace Go.Proofs.YtnnaphfeeobelaeDoor
open Go.RowKit Go.Sort
theorem bysL_ok {P : List ByteArray} (h : fewB P) : ∀ p ∈ bysL P, 1 ≤ p.length ∧ p.length ≤ 20 := by
  intro p hp
  unfold bysL at hp
  obtain ⟨x, hx, rfl⟩ := List.mem_map.1 hp
  have := h x hx
  rw [← Lib.size_eq]
  exact this
theorem flat_len {P : List (List UInt8)} (h : ∀ p ∈ P, p.length ≤ 20) : P.flatten.length ≤ 20 * P.length := by
  induction P with
  | nil => simp
  | cons p r ih =>
    have h1 := ih (fun q hq => h q (List.mem_cons_of_mem _ hq))
    have h2 := h p List.mem_cons_self
    rw [List.flatten_cons, List.length_append, List.length_cons]
    omega
theorem partsT_len20 {P : List (List UInt8)} (h : ∀ p ∈ P, p.length ≤ 20) : (partsT P).length ≤ 26 * P.length := by
  induction P with
  | nil => simp [partsT]
  | cons p r ih =>
    have h1 := ih (fun q hq => h q (List.mem_cons_of_mem _ hq))
    have h2 := h p List.mem_cons_self
    have h3 := partT_len p
    simp only [partsT, List.length_append, List.length_cons]
    omega
theorem chunkS_few {P : List ByteArray} (h3 : P.length ≤ 3) (h : fewB P) : chunkS P = (⟨(partsT (bysL P) ++ lastL).toArray⟩, true) := by
  unfold chunkS
  rw [if_pos]
  unfold partsOk
  rw [decide_eq_true (by omega), Bool.true_and, List.all_eq_true]
  intro p hp
  have := h p hp
  exact decide_eq_true (by omega)
theorem bysL_snoc {P : List ByteArray} {k : Nat} (hk : k < P.length) : (bysL (P.take (k + 1))).flatten = (bysL (P.take k)).flatten ++ (P[k]).data.toList := by
  unfold bysL
  rw [List.take_succ_eq_append_getElem hk, List.map_append, List.flatten_append]
  simp
set_option maxRecDepth 100000 in
set_option maxHeartbeats 16000000 in
theorem bodies_walk (ca : Option Addr) (n cap : Nat) (w : World) (hcode : CodeAt w ca n w.heap.size) (hlen : n ≤ maxLen) (hT : ErrT w) :
    Calls Tryd.prog 3 #[.slice ca n cap] w fun e w' => e = .returned (.bool true) ∧ Below w.heap.size w w' := by
  unfold maxLen at hlen
  have cb := big_any ca n cap w hlen
  by_cases hn : n ≤ 1048576
  case neg =>
    rw [show decide (1048576 < n) = true by simp; omega] at cb
    clear hT
    go_enter Tryd.func3, Tryd.ntmps3
    go_wp2_with fail
    refine cb.mono ?_
    rintro e w' ⟨rfl, rfl⟩
    go_wp2_with fail
    go_ret
    exact ⟨rfl, Below.refl _ _⟩
  rw [show decide (1048576 < n) = false by simp; omega] at cb
  have HRC : Hid (∀ (wi : World) (s : ByteArray) (B : ByteArray) (x y : Int), Below w.heap.size w wi → s.size ≤ 145 → (⟨(chunksS s.data.toList).1.toArray⟩ : ByteArray) = B → (chunksS s.data.toList).2.1 = x → (chunksS s.data.toList).2.2 = y → Calls Tryd.prog 9 #[.string s] wi fun e w' => e = .returned (.tuple #[.string B, .int .i64 x, .int .i64 y]) ∧ Below wi.heap.size wi w') := by
    intro wi s B x y hb h1 h2 h3 h4
    have h := implReadChunks_any s wi (by omega) (hT.on hb (Nat.le_refl _))
    rw [chunks_short (by rw [← Lib.size_eq]; exact h1), h2, h3, h4] at h
    exact h
  have HCT : Hid (∀ (wi : World) (a : Option Addr) (c : Nat) (P : List ByteArray), LAt wi a P wi.heap.size → P.length ≤ 3 → fewB P → Calls Tryd.prog 8 #[.slice a P.length c] wi fun e w' => e = .returned (.tuple #[.string ⟨(partsT (bysL P) ++ lastL).toArray⟩, .bool true]) ∧ Below wi.heap.size wi w') := by
    intro wi a c P h1 h2 h3
    have h := implChunkText_any wi a c P h1 (by omega) (fun p hp => by have := h3 p hp; omega)
    rw [chunkS_few h2 h3] at h
    exact h
  have c1 := drawParts_any w ca n cap hcode hn
  have C2 : Hid (∀ w', Below w.heap.size w w' → Calls Tryd.prog 10 #[.slice ca n cap] w' fun e w'' => ∃ (v : Value) (l : List Int), e = .returned v ∧ l.length = 12 ∧ (∀ z ∈ l, 0 ≤ z ∧ z < 10000) ∧ OwnV w'' w'.heap.size 3 v (ints l) ∧ Below w'.heap.size w' w'') := by
    intro w' hb
    refine drawPlaces_any w' ca n cap (fun j hj => ?_) hn
    obtain ⟨b, off, z, h1, h2, h3, h4⟩ := hcode j hj
    exact ⟨b, off, z, h1, Nat.lt_of_lt_of_le h2 hb.size, (hb.cell (p := ⟨b, off + j, none⟩) h2).trans h3, h4⟩
  clear hcode hT
  go_enter Tryd.func3, Tryd.ntmps3
  go_wp2_with fail
  refine cb.mono ?_
  rintro e w' ⟨rfl, rfl⟩
  clear cb
  go_wp2_with fail
  refine c1.mono ?_
  rintro e w1 ⟨a, c, P, rfl, h3, hf, hA, hb1⟩
  clear c1
  have cT := HCT.out w1 a c P hA h3 hf
  have hT := bysL_ok hf
  have HP : Hid (∀ p ∈ bysL P, 1 ≤ p.length ∧ p.length ≤ 99) := fun p hp => by have := hT p hp; omega
  have e3 : (bysL P).length = P.length := by unfold bysL; simp
  have HFL : Hid ((bysL P).flatten.length ≤ 60) := by show _ ≤ _; have := flat_len (fun p hp => (hT p hp).2); omega
  have HTL : Hid ((partsT (bysL P)).length ≤ 78) := by show _ ≤ _; have := partsT_len20 (fun p hp => (hT p hp).2); omega
  obtain ⟨S, hS⟩ : ∃ S : ByteArray, (⟨(partsT (bysL P) ++ lastL).toArray⟩ : ByteArray) = S := ⟨_, rfl⟩
  have HSD : Hid (S.data.toList = partsT (bysL P) ++ lastL) := by show _ = _; rw [← hS]
  have HSL : Hid ((S.size : Int) = ((partsT (bysL P) ++ lastL).length : Int)) := by show _ = _; rw [Lib.size_eq, HSD.out]
  have hSz : S.size ≤ 83 := by
    have h1 := HSL.out
    have h2 := HTL.out
    rw [List.length_append] at h1
    have h3 : lastL.length = 5 := rfl
    omega
  have hS5 : 5 ≤ S.size := by
    have h1 := HSL.out
    rw [List.length_append] at h1
    have h3 : lastL.length = 5 := rfl
    omega
  rw [hS] at cT
  obtain ⟨F, hF⟩ : ∃ F : ByteArray, (⟨(bysL P).flatten.toArray⟩ : ByteArray) = F := ⟨_, rfl⟩
  have HFD : Hid ((⟨(bysL P).flatten.toArray⟩ : ByteArray) = F) := hF
  -- what is read of it
  have R1 : Hid (∀ wi, Below w.heap.size w wi → Calls Tryd.prog 9 #[.string S] wi fun e w' => e = .returned (.tuple #[.string F, .int .i64 (S.size : Int), .int .i64 0]) ∧ Below wi.heap.size wi w') := by
    intro wi hb
    have h := chunksS_back (bysL P) [] HP.out (by have := HFL.out; omega)
    rw [List.append_nil] at h
    exact HRC.out wi S F _ 0 hb (by omega) (by rw [HSD.out, h]; exact hF) (by rw [HSD.out, h]; exact HSL.out.symm) (by rw [HSD.out, h])
  have s1 := fun w => run_string_add_sum (P := Tryd.prog) (w := w) S ⟨#[98, 101, 104, 105, 110, 100]⟩ (by show _ + 6 ≤ _; omega)
  have R2 : Hid (∀ wi, Below w.heap.size w wi → Calls Tryd.prog 9 #[.string (S ++ ⟨#[98, 101, 104, 105, 110, 100]⟩)] wi fun e w' => e = .returned (.tuple #[.string F, .int .i64 (S.size : Int), .int .i64 0]) ∧ Below wi.heap.size wi w') := by
    intro wi hb
    have h := chunksS_back (bysL P) [98, 101, 104, 105, 110, 100] HP.out (by have := HFL.out; omega)
    have e : (S ++ ⟨#[98, 101, 104, 105, 110, 100]⟩ : ByteArray).data.toList = partsT (bysL P) ++ (lastL ++ [98, 101, 104, 105, 110, 100]) := by
      rw [← List.append_assoc, ← HSD.out]; simp
    exact HRC.out wi _ F _ 0 hb (by rw [ByteArray.size_append]; show _ + 6 ≤ _; omega) (by rw [e, h]; exact hF) (by rw [e, h]; exact HSL.out.symm) (by rw [e, h])
  have s2 := fun w => run_string_add_sum (P := Tryd.prog) (w := w) S ⟨#[120]⟩ (by show _ + 1 ≤ _; omega)
  have hs2z : (S ++ ⟨#[120]⟩ : ByteArray).size = S.size + 1 := by rw [ByteArray.size_append]; rfl
  generalize (S ++ ⟨#[98, 101, 104, 105, 110, 100]⟩ : ByteArray) = S6 at s1 R2
  have RC : Hid (∀ (k : Nat) wi, Below w.heap.size w wi → k < S.size → Calls Tryd.prog 9 #[.string (S.extract 0 k)] wi fun e w' => e = .returned (.tuple #[.string ⟨#[]⟩, .int .i64 0, .int .i64 1]) ∧ Below wi.heap.size wi w') := by
    intro k wi hb hk
    have h := chunksS_cut (bysL P) k HP.out (by have := HFL.out; omega) (by have := HSL.out; omega)
    have e : (S.extract 0 k).data.toList = (partsT (bysL P) ++ lastL).take k := by rw [Lib.extract_data, HSD.out, List.drop_zero, Nat.sub_zero]
    exact HRC.out wi _ ⟨#[]⟩ 0 1 hb (by rw [ByteArray.size_extract]; omega) (by rw [e, h]) (by rw [e, h]) (by rw [e, h])
  have HA : Hid (LAt w1 a P w1.heap.size) := hA
  have HF : Hid (fewB P) := hf
  have HB1 : Hid (Below w.heap.size w w1) := hb1
  clear hS hF hA hf hb1 HCT HRC hT e3
  go_wp2_with fail
  refine cT.mono ?_
  rintro e w2 ⟨rfl, hb2⟩
  have HB2 : Hid (Below w1.heap.size w1 w2) := hb2
  clear cT hb2
  go_wp2_with fail
  go_loopw [6, 7] (fun al i wr => Box (∃ k : Nat, k ≤ P.length ∧ i = .int .i64 k ∧ al = .string ⟨((bysL (P.take k)).flatten).toArray⟩ ∧ wr = w2))
    (fun _ i _ => P.length - (intOf i).toNat)
  case atStart => exact ⟨⟨0, by omega, rfl, by simp [bysL], rfl⟩⟩
  case round =>
    obtain ⟨k, hk, rfl, rfl, hwr⟩ := hrel.out
    rw [hwr]
    clear hwr hrel
    by_cases hlt : k < P.length
    · obtain ⟨g, off, ha, hg, hc⟩ := (HA.out.on HB2.out) k hlt
      subst ha
      obtain ⟨p, hp⟩ : ∃ p, P[k] = p := ⟨_, rfl⟩
      rw [hp] at hc
      have hpz : p.size ≤ 20 := by rw [← hp]; exact (HF.out _ (List.getElem_mem hlt)).2
      have hi : (k : Int) < (P.length : Int) := by omega
      have hi0 : (0 : Int) ≤ (k : Int) := by omega
      obtain ⟨U, hU⟩ : ∃ U : ByteArray, (⟨((bysL (P.take k)).flatten).toArray⟩ : ByteArray) = U := ⟨_, rfl⟩
      have hUz : U.size ≤ 60 := by
        rw [← hU]
        show ((bysL (P.take k)).flatten).toArray.size ≤ _
        have h1 := flat_len (P := bysL (P.take k)) (fun q hq => by
          unfold bysL at hq
          obtain ⟨x, hx, rfl⟩ := List.mem_map.1 hq
          have := HF.out x (List.mem_of_mem_take hx)
          rw [← Lib.size_eq]
          exact this.2)
        have h2 : (bysL (P.take k)).length = k := by unfold bysL; rw [List.length_map, List.length_take]; omega
        simp only [List.size_toArray]
        omega
      have HNX : Hid ((U ++ p : ByteArray) = ⟨((bysL (P.take (k + 1))).flatten).toArray⟩) := by
        show _ = _
        rw [bysL_snoc hlt, hp, ← hU, ← Lib.mk_data ((⟨((bysL (P.take k)).flatten).toArray⟩ : ByteArray) ++ p)]
        congr 1
      rw [hU]
      have q1 := fun w => run_string_add_sum (P := Tryd.prog) (w := w) U p (by omega)
      generalize (U ++ p : ByteArray) = V at q1 HNX
      clear hU hp s1 s2
      go_wp2_with fail
      go_roundw
      case rel =>
        try ((repeat apply Exists.intro); refine ⟨?_, rfl⟩)
        exact ⟨⟨k + 1, by omega, by go_num, by rw [HNX.out], by first | rfl | trivial⟩⟩
      case measure => simp [intOf]; omega
    · have hi : ¬ (k : Int) < (P.length : Int) := by omega
      have hke : k = P.length := by omega
      rw [hke, List.take_length, HFD.out]
      rw [hke] at hi
      clear hke hk hlt
      have HW2 : Hid (Below w.heap.size w w2) := HB1.out.trans (HB2.out.mono HB1.out.size)
      go_wp2_with fail
      refine (R1.out _ HW2.out).mono ?_
      rintro e w3 ⟨rfl, hb3⟩
      have HW3 : Hid (Below w.heap.size w w3) := HW2.out.trans (hb3.mono HW2.out.size)
      go_wp2_with fail
      refine (R2.out _ HW3.out).mono ?_
      rintro e w4 ⟨rfl, hb4⟩
      have HB4 : Hid (Below w.heap.size w w4) := by
        have h24 : Below w2.heap.size w2 w4 := hb3.trans (hb4.mono hb3.size)
        have h14 : Below w1.heap.size w1 w4 := HB2.out.trans (h24.mono HB2.out.size)
        exact HB1.out.trans (h14.mono HB1.out.size)
      clear hb3 hb4 R2 s1 hi
      go_wp2_with fail
      refine (C2.out w4 HB4.out).mono ?_
      rintro e w5 ⟨v7, l, rfl, hl, hlz, hown, hb5⟩
      have HB5 : Hid (Below w.heap.size w w5) := HB4.out.trans (hb5.mono HB4.out.size)
      obtain ⟨pa, pc, rfl, hcells⟩ := hown.shape
      obtain ⟨g, rfl, hz0, _, _, _⟩ := hcells 0 (by rw [ints_length]; omega)
      rw [ints_at (by omega)] at hz0
      obtain ⟨q0, hq0⟩ : ∃ x, l[0] = x := ⟨_, rfl⟩
      rw [hq0] at hz0
      have hr0 := hlz q0 (by rw [← hq0]; exact List.getElem_mem _)
      have hln : (ints l).length = 12 := by rw [ints_length]; exact hl
      rw [hln]
      obtain ⟨d, hd⟩ : ∃ d : Nat, (d : Int) = q0 % ((S.size : Int) + 1) := ⟨(q0 % ((S.size : Int) + 1)).toNat, by have := Int.emod_nonneg q0 (show (S.size : Int) + 1 ≠ 0 by omega); omega⟩
      have hdl : d ≤ S.size := by have := Int.emod_lt_of_pos q0 (show (0 : Int) < (S.size : Int) + 1 by omega); omega
      have m1 : q0.tmod ((S.size : Int) + 1) = (d : Int) := by rw [Int.tmod_eq_emod_of_nonneg hr0.1]; exact hd.symm
      have m2 : (d : Int).tmod ((S.size : Int) + 1) = (d : Int) := by rw [Int.tmod_eq_emod_of_nonneg (by omega)]; exact Int.emod_eq_of_lt (by omega) (by omega)
      have nz : ¬ (S.size : Int) + 1 = 0 := by omega
      have hsl := fun w => run_slice_string_h (P := Tryd.prog) w 9 S Tryd.underlying9 .i64 (d : Int) (by omega) (by omega)
      rw [Int.toNat_natCast] at hsl
      have hs2i : ((S ++ ⟨#[120]⟩ : ByteArray).size : Int) = (S.size : Int) + 1 := by rw [hs2z]; omega
      generalize (S ++ ⟨#[120]⟩ : ByteArray) = Sx at s2 hs2i hs2z
      have hff : (F.toList == F.toList) = true := by simp
      have hss : ((S.size : Int) == (S.size : Int)) = true := by simp
      clear hown hcells hlz hl hln hq0 hb5 C2 hd hr0 hs2z
      by_cases hk : d = S.size
      · subst hk
        rw [show S.extract 0 S.size = S by simp] at hsl
        go_wp2_with fail
        refine (R1.out _ HB5.out).mono ?_
        rintro e w6 ⟨rfl, hb6⟩
        clear R1
        go_wp2_with fail
        go_ret
        exact ⟨rfl, HB5.out.trans (hb6.mono HB5.out.size)⟩
      · have hkb : ((d : Int) == (S.size : Int)) = false := by rw [beq_eq_false_iff_ne]; omega
        have cC := RC.out d w5 HB5.out (by omega)
        generalize S.extract 0 d = Sd at hsl cC
        go_wp2_with fail
        refine cC.mono ?_
        rintro e w6 ⟨rfl, hb6⟩
        clear cC
        go_wp2_with fail
        go_ret
        exact ⟨rfl, HB5.out.trans (hb6.mono HB5.out.size)⟩
end Go.Proofs.YtnnaphfeeobelaeDoor
