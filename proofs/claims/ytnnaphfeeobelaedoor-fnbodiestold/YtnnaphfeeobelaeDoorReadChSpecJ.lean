/- Texts that stand in one: ReadChSpec, BodySpec. -/
import Derived.Test.YtnnaphfeeobelaeDoorSizeSpec
import Derived.Test.YtnnaphfeeobelaeDoorChunkBack
import Derived.Test.YtnnaphfeeobelaeDoorLengthSpec
namespace Go.Proofs.YtnnaphfeeobelaeDoor
open Go.RowKit Go.Sort
set_option maxRecDepth 100000 in
set_option maxHeartbeats 8000000 in
theorem specReadChunks_any (s : ByteArray) (hs : s.size ≤ 1048576) (w : World) :
    Calls Tryd.prog 12 #[.string s] w fun e w' => e = .returned (.tuple #[.string ⟨(chunksS s.data.toList).1.toArray⟩, .int .i64 (chunksS s.data.toList).2.1, .int .i64 (chunksS s.data.toList).2.2]) ∧ Below w.heap.size w w' := by
  obtain ⟨l, hl⟩ : ∃ l, s.data.toList = l := ⟨_, rfl⟩
  have hsz : s.size = l.length := by rw [← hl]; exact Lib.size_eq s
  have CZ : Hid (∀ (k : Nat) (wi : World), k ≤ s.size → Calls Tryd.prog 28 #[.string s, .int .i64 k] wi fun e w' => e = .returned (.tuple #[.int .i64 (sizeS l k).1, .int .i64 (sizeS l k).2]) ∧ w' = wi) := by
    intro k wi hk; have h := specSize_any s k hk hs wi; rw [hl] at h; exact h
  have CE : Hid (∀ (k : Nat) (wi : World), k ≤ s.size → Calls Tryd.prog 29 #[.string s, .int .i64 k] wi fun e w' => e = .returned (.int .i64 (endS l k)) ∧ Below wi.heap.size wi w') := by
    intro k wi hk; have h := specEnd_any s k hk hs wi; rw [hl] at h; exact h
  rw [hl]
  obtain ⟨R, hR⟩ : ∃ R, chunksS l = R := ⟨_, rfl⟩
  have HR : Hid (readS l (l.length + 1) [] 0 = R) := hR
  rw [hR]
  have HL : Hid (s.data.toList = l ∧ s.size = l.length) := ⟨hl, hsz⟩
  clear hR hl hsz
  go_enter Tryd.func12, Tryd.ntmps12
  go_wp2_with fail
  go_loopw [5, 6, 7, 8] (fun bd at' _ _ wr => Box (∃ (k f : Nat) (B : List UInt8), bd = .string ⟨B.toArray⟩ ∧ at' = .int .i64 k ∧ k ≤ s.size ∧ B.length ≤ 400 ∧ Hid (l.length + 1 ≤ k + f) ∧ Hid (readS l f B k = R) ∧ Below w.heap.size w wr))
    (fun _ at' _ _ _ => s.size - (intOf at').toNat)
  case atStart => exact ⟨⟨0, l.length + 1, [], rfl, rfl, by omega, by simp, by simp [Hid], HR, Below.refl _ _⟩⟩
  case round =>
    obtain ⟨k, f, B, rfl, rfl, hk, hB, HF, HS, hbw⟩ := hrel.out
    clear hrel
    obtain ⟨f, rfl⟩ : ∃ g, f = g + 1 := ⟨f - 1, by have := HF.out; have := HL.out.2; omega⟩
    have HS2 := HS
    unfold readS at HS2
    have cz := CZ.out k wr hk
    obtain ⟨n, hn⟩ : ∃ x, (sizeS l k).1 = x := ⟨_, rfl⟩
    obtain ⟨m, hm⟩ : ∃ x, (sizeS l k).2 = x := ⟨_, rfl⟩
    have hge := sizeS_any l k
    have HOK : Hid (0 < m → 0 ≤ n ∧ n ≤ 255 ∧ (k : Int) + 3 ≤ m ∧ m ≤ (l.length : Int)) := fun h => sizeS_ok (by rw [← hn, ← hm]) h
    rw [hm] at hge
    rw [hn, hm] at cz HS2
    have hBs : (⟨B.toArray⟩ : ByteArray).size = B.length := by show B.toArray.size = _; simp
    clear hn hm
    by_cases h1 : m < 0
    · have HE : Hid (R = ([], 0, 2)) := by show _ = _; rw [← HS2.out, if_pos h1]
      clear HS HS2 HOK
      go_wp2_with fail
      refine cz.mono ?_
      rintro e wv ⟨rfl, hwv⟩
      rw [hwv]
      clear hwv wv cz
      go_wp2_with fail
      go_ret3
      exact ⟨by rw [HE.out]; rfl, hbw⟩
    by_cases h2 : m = 0
    · have HE : Hid (R = ([], 0, 1)) := by show _ = _; rw [← HS2.out, if_neg h1, if_pos h2]
      subst h2
      clear HS HS2 HOK h1 hge
      go_wp2_with fail
      refine cz.mono ?_
      rintro e wv ⟨rfl, hwv⟩
      rw [hwv]
      clear hwv wv cz
      go_wp2_with fail
      go_ret3
      exact ⟨by rw [HE.out]; rfl, hbw⟩
    obtain ⟨o1, o2, o3, o4⟩ := HOK.out (by omega)
    have hsl : (l.length : Int) = (s.size : Int) := by have := HL.out.2; omega
    have o5 : m ≤ (s.size : Int) := by omega
    have h2b : (m == 0) = false := by rw [beq_eq_false_iff_ne]; exact h2
    by_cases h3 : 400 < (B.length : Int) + n
    · have HE : Hid (R = ([], 0, 2)) := by show _ = _; rw [← HS2.out, if_neg h1, if_neg h2, if_pos h3]
      clear HS HS2 HOK h2 hsl hge
      go_wp2_with fail
      refine cz.mono ?_
      rintro e wv ⟨rfl, hwv⟩
      rw [hwv]
      clear hwv wv cz
      go_wp2_with fail
      go_ret3
      exact ⟨by rw [HE.out]; rfl, hbw⟩
    by_cases h4 : (s.size : Int) - m < n
    · have HE : Hid (R = ([], 0, 1)) := by show _ = _; rw [← HS2.out, if_neg h1, if_neg h2, if_neg h3, if_pos (by rw [hsl]; exact h4)]
      clear HS HS2 HOK h2 hsl hge
      go_wp2_with fail
      refine cz.mono ?_
      rintro e wv ⟨rfl, hwv⟩
      rw [hwv]
      clear hwv wv cz
      go_wp2_with fail
      go_ret3
      exact ⟨by rw [HE.out]; rfl, hbw⟩
    -- the part is there
    obtain ⟨mN, hmN⟩ : ∃ x : Nat, m = (x : Int) := ⟨m.toNat, by omega⟩
    obtain ⟨nN, hnN⟩ : ∃ x : Nat, n = (x : Int) := ⟨n.toNat, by omega⟩
    subst hmN
    subst hnN
    obtain ⟨q, hq⟩ : ∃ q : Nat, mN + nN = q := ⟨_, rfl⟩
    have hqi : (mN : Int) + (nN : Int) = (q : Int) := by omega
    have hqn : ((mN : Int) + (nN : Int)).toNat = q := by omega
    have hslc := fun w => run_slice_string (P := Tryd.prog) (w := w) 9 s .i64 .i64 (mN : Int) (q : Int) Tryd.underlying9 (by omega) (by omega) (by omega)
    simp only [Int.toNat_natCast] at hslc
    have HX : Hid ((s.extract mN q).data.toList = (l.drop mN).take nN) := by show _ = _; rw [Lib.extract_data, HL.out.1, show q - mN = nN by omega]
    have hxz : (s.extract mN q).size ≤ nN := by rw [ByteArray.size_extract]; omega
    have hadd := fun w => run_string_add_sum (P := Tryd.prog) (w := w) ⟨B.toArray⟩ (s.extract mN q) (by rw [hBs]; omega)
    have HC : Hid ((⟨B.toArray⟩ ++ s.extract mN q : ByteArray) = ⟨(B ++ (l.drop mN).take nN).toArray⟩) := by
      show _ = _
      rw [← Lib.mk_data (⟨B.toArray⟩ ++ s.extract mN q : ByteArray)]
      congr 1
      rw [← HX.out]
      simp
    have HCL : Hid ((B ++ (l.drop mN).take nN).length ≤ 400) := by show _ ≤ _; rw [List.length_append]; have := List.length_take_le nN (l.drop mN); omega
    obtain ⟨C, hC⟩ : ∃ x, B ++ (l.drop mN).take nN = x := ⟨_, rfl⟩
    rw [hC] at HC HCL
    rw [HC.out] at hadd
    have HS3 : Hid ((if endS l q < 0 then ([], 0, 2) else if endS l q = 0 then ([], 0, 1) else if (nN : Int) = 0 then (C, endS l q, 0) else readS l f C (endS l q).toNat) = R) := by
      show _ = _
      rw [← HS2.out, if_neg h1, if_neg h2, if_neg h3, if_neg (show ¬ (l.length : Int) - (mN : Int) < (nN : Int) by omega), hqn]
      simp only [Int.toNat_natCast, hC]
    have ce := CE.out q wr (by omega)
    obtain ⟨e, he⟩ : ∃ x, endS l q = x := ⟨_, rfl⟩
    have HEO : Hid (0 < e → e = (q : Int) + 2 ∧ e ≤ (l.length : Int)) := fun h => endS_ok he h
    have hge2 := endS_any l q
    rw [he] at ce HS3 hge2
    generalize s.extract mN q = sg at hslc hadd hxz
    have HQ : Hid (mN + nN = q ∧ k + 3 ≤ mN) := ⟨hq, by omega⟩
    clear HS HS2 HOK h2 hC HX HC he hq hqn hxz hge hsl
    go_wp2_with fail
    refine cz.mono ?_
    rintro e wv ⟨rfl, hwv⟩
    rw [hwv]
    clear hwv wv cz
    go_wp2_with fail
    refine ce.mono ?_
    rintro e' w2 ⟨rfl, hb2⟩
    have hbw2 : Below w.heap.size w w2 := hbw.trans (hb2.mono hbw.size)
    clear ce hb2 hslc hadd
    by_cases g1 : e < 0
    · have HE : Hid (R = ([], 0, 2)) := by show _ = _; rw [← HS3.out, if_pos g1]
      clear HS3
      go_wp2_with fail
      go_ret3
      exact ⟨by rw [HE.out]; rfl, hbw2⟩
    by_cases g2 : e = 0
    · have HE : Hid (R = ([], 0, 1)) := by show _ = _; rw [← HS3.out, if_neg g1, if_pos g2]
      subst g2
      clear HS3 g1 hge2
      go_wp2_with fail
      go_ret3
      exact ⟨by rw [HE.out]; rfl, hbw2⟩
    obtain ⟨e1, e2⟩ := HEO.out (by omega)
    have g2b : (e == 0) = false := by rw [beq_eq_false_iff_ne]; exact g2
    by_cases g3 : nN = 0
    · have HE : Hid (R = (C, e, 0)) := by show _ = _; rw [← HS3.out, if_neg g1, if_neg g2, if_pos (by omega)]
      have g3b : ((nN : Int) == 0) = true := by simp [g3]
      clear HS3 g2 e1 e2 g3
      go_wp2_with fail
      go_ret3
      exact ⟨by rw [HE.out]; rfl, hbw2⟩
    · have HN : Hid (readS l f C e.toNat = R) := by show _ = _; rw [← HS3.out, if_neg g1, if_neg g2, if_neg (by omega)]
      have g3b : ((nN : Int) == 0) = false := by rw [beq_eq_false_iff_ne]; omega
      obtain ⟨eN, heN⟩ : ∃ x : Nat, e = (x : Int) := ⟨e.toNat, by omega⟩
      have HEN : Hid (e = (eN : Int) ∧ eN = q + 2 ∧ eN ≤ l.length) := ⟨heN, by omega, by omega⟩
      subst heN
      clear HS3 g2 e1 e2 g3
      go_wp2_with fail
      go_roundw
      case rel =>
        try ((repeat apply Exists.intro); refine ⟨?_, rfl⟩)
        have h5 := HEN.out
        have h6 := HQ.out
        have h7 := HL.out.2
        have h8 := HF.out
        exact ⟨⟨eN, f, C, rfl, rfl, by omega, HCL.out, (by show _ ≤ _; omega), (by have h9 := HN.out; rw [Int.toNat_natCast] at h9; exact h9), hbw2⟩⟩
      case measure =>
        have h5 := HEN.out
        have h6 := HQ.out
        have h7 := HL.out.2
        simp [intOf]; omega
end Go.Proofs.YtnnaphfeeobelaeDoor

namespace Go.Proofs.YtnnaphfeeobelaeDoor
open Go.RowKit Go.Sort
theorem lenF_few : ∀ (L : List (ByteArray × ByteArray)) (n many : Nat), n ≤ 999999 → (lenF n many L).1 ≤ 999999
  | [], n, many, h => h
  | f :: r, n, many, h => by
    cases he : eqT f.1 clN with
    | false => rw [lenF_skip he]; exact lenF_few r n many h
    | true =>
      cases hv : numL f.2.data.toList with
      | none => rw [lenF_none he hv]; exact Nat.zero_le _
      | some k =>
        by_cases hb : 3 < f.2.size ∨ (0 < many ∧ k ≠ n)
        · rw [lenF_bad he hv hb]; exact Nat.zero_le _
        · rw [lenF_on he hv hb]; exact lenF_few r k (many + 1) (numL_few hv)
set_option maxRecDepth 100000 in
set_option maxHeartbeats 8000000 in
theorem specBodyOf_any (w : World) (a : Option Addr) (c : Nat) (line : ByteArray) (L : List (ByteArray × ByteArray)) (t : ByteArray) (hA : DAt w a L w.heap.size) (hz : HdSz line L) (ht : t.size ≤ 1048576) :
    Calls Tryd.prog 17 #[.agg #[.string line, .slice a L.length c], .string t] w fun e w' => e = .returned (.tuple #[.string ⟨(bodyS L t.data.toList).1.toArray⟩, .int .i64 (bodyS L t.data.toList).2.1, .int .i64 (bodyS L t.data.toList).2.2]) ∧ Below w.heap.size w w' := by
  obtain ⟨wb, hwb⟩ : ∃ wb, w.alloc (.cells #[.string line, .slice a L.length c] 35) = wb := ⟨_, rfl⟩
  have hb : Below w.heap.size w wb := by rw [← hwb]; exact (Below.refl _ _).alloc (Nat.le_refl _) _
  have hX : KBy wb w.heap.size (.string line) (.slice a L.length c) := by rw [← hwb]; exact heap_alloc_new w _
  have hAb := hA.on hb
  have c1 := specLength_any wb a c line L hAb hz
  have C2 : Hid (∀ wi, Below wb.heap.size wb wi → Calls Tryd.prog 36 #[.agg #[.string line, .slice a L.length c], .string teN] wi fun e w' => e = .returned (.tuple #[.string (fieldOfS L teN).1, .bool (fieldOfS L teN).2]) ∧ Below wi.heap.size wi w') := fun wi hi => specFieldOf_any wi a c line L teN (hAb.on hi) hz (by decide)
  have HC : Hid (∀ wi, Below wb.heap.size wb wi → wi.cell? ⟨w.heap.size, 0, none⟩ = some (.string line) ∧ wi.cell? ⟨w.heap.size, 1, none⟩ = some (.slice a L.length c)) := fun wi hi => (hX.on hi).cells
  have CR : Hid (∀ wi, Calls Tryd.prog 12 #[.string t] wi fun e w' => e = .returned (.tuple #[.string ⟨(chunksS t.data.toList).1.toArray⟩, .int .i64 (chunksS t.data.toList).2.1, .int .i64 (chunksS t.data.toList).2.2]) ∧ Below wi.heap.size wi w') := fun wi => specReadChunks_any t ht wi
  obtain ⟨R, hR⟩ : ∃ R, bodyS L t.data.toList = R := ⟨_, rfl⟩
  rw [hR]
  unfold bodyS at hR
  generalize (fieldOfS L teN).1 = fc at C2 hR
  generalize (fieldOfS L teN).2 = fh at C2 hR
  obtain ⟨V, hV⟩ : ∃ V, lenF 0 0 L = V := ⟨_, rfl⟩
  rw [hV] at c1 hR
  have hV9 : V.1 ≤ 999999 := by rw [← hV]; exact lenF_few L 0 0 (by omega)
  clear hV
  obtain ⟨n, m, ok⟩ := V
  dsimp only at c1 hR hV9
  have HR : Hid ((if fh = true then if 0 < m ∨ eqT fc chN = false then ([], 0, 2) else chunksS t.data.toList else if m = 0 then ([], 0, 0) else if ok = false ∨ 400 < n then ([], 0, 2) else if t.data.toList.length < n then ([], 0, 1) else (t.data.toList.take n, (n : Int), 0)) = R) := hR
  have HB : Hid (Below w.heap.size w wb) := hb
  obtain ⟨b0, b1⟩ := hX.cells
  clear hR hb hX hAb hA hz
  go_enter Tryd.func17, Tryd.ntmps17
  go_wp2_with fail
  refine c1.mono ?_
  rintro e w1 ⟨rfl, hb1⟩
  clear c1 b0 b1 hwb
  obtain ⟨b0, b1⟩ := HC.out w1 hb1
  go_wp2_with fail
  refine (C2.out w1 hb1).mono ?_
  rintro e w2 ⟨rfl, hb2⟩
  have HW : Hid (Below w.heap.size w w2) := HB.out.trans ((hb1.trans (hb2.mono hb1.size)).mono HB.out.size)
  clear C2 HC b0 b1 hb1 hb2
  cases fh with
  | true =>
    by_cases h1 : 0 < m
    · have HE : Hid (R = ([], 0, 2)) := by show _ = _; rw [← HR.out, if_pos rfl, if_pos (.inl h1)]
      have h1i : (0 : Int) < (m : Int) := by omega
      clear HR
      go_wp2_with fail
      go_ret3
      exact ⟨by rw [HE.out]; rfl, HW.out⟩
    have h1i : ¬ (0 : Int) < (m : Int) := by omega
    have hm0 : m = 0 := by omega
    subst hm0
    cases he : eqT fc chN with
    | false =>
      have HE : Hid (R = ([], 0, 2)) := by show _ = _; rw [← HR.out, if_pos rfl, if_pos (.inr he)]
      have he1 : (fc.toList == [99, 104, 117, 110, 107, 101, 100]) = false := by unfold eqT at he; rw [ByteArray.toList_eq chN] at he; exact he
      have he2 : (fc.toList != [99, 104, 117, 110, 107, 101, 100]) = true := by unfold bne; rw [he1]; rfl
      clear HR he h1 h1i
      go_wp2_with fail
      go_ret3
      exact ⟨by rw [HE.out]; rfl, HW.out⟩
    | true =>
      have HE : Hid (R = chunksS t.data.toList) := by show _ = _; rw [← HR.out, if_pos rfl, if_neg (by rw [he]; simp)]
      have he1 : (fc.toList == [99, 104, 117, 110, 107, 101, 100]) = true := by unfold eqT at he; rw [ByteArray.toList_eq chN] at he; exact he
      have he2 : (fc.toList != [99, 104, 117, 110, 107, 101, 100]) = false := by unfold bne; rw [he1]; rfl
      clear HR he h1 h1i
      go_wp2_with fail
      refine (CR.out _).mono ?_
      rintro e w3 ⟨rfl, hb3⟩
      clear CR
      go_wp2_with fail
      go_ret3
      exact ⟨by rw [HE.out]; rfl, HW.out.trans (hb3.mono HW.out.size)⟩
  | false =>
    by_cases h1 : m = 0
    · have HE : Hid (R = ([], 0, 0)) := by show _ = _; rw [← HR.out, if_neg (by simp), if_pos h1]
      subst h1
      clear HR
      go_wp2_with fail
      go_ret3
      exact ⟨by rw [HE.out]; rfl, HW.out⟩
    have h1i : ((m : Int) == 0) = false := by rw [beq_eq_false_iff_ne]; omega
    cases ok with
    | false =>
      have HE : Hid (R = ([], 0, 2)) := by show _ = _; rw [← HR.out, if_neg (by simp), if_neg h1, if_pos (.inl rfl)]
      clear HR h1
      go_wp2_with fail
      go_ret3
      exact ⟨by rw [HE.out]; rfl, HW.out⟩
    | true =>
      by_cases h2 : 400 < n
      · have HE : Hid (R = ([], 0, 2)) := by show _ = _; rw [← HR.out, if_neg (by simp), if_neg h1, if_pos (.inr h2)]
        have h2i : (400 : Int) < (n : Int) := by omega
        clear HR h1
        go_wp2_with fail
        go_ret3
        exact ⟨by rw [HE.out]; rfl, HW.out⟩
      have h2i : ¬ (400 : Int) < (n : Int) := by omega
      have hts : t.data.toList.length = t.size := (Lib.size_eq _).symm
      by_cases h3 : t.size < n
      · have HE : Hid (R = ([], 0, 1)) := by show _ = _; rw [← HR.out, if_neg (by simp), if_neg h1, if_neg (by simp; omega), if_pos (by rw [hts]; exact h3)]
        have h3i : (t.size : Int) < (n : Int) := by omega
        clear HR h1 hts
        go_wp2_with fail
        go_ret3
        exact ⟨by rw [HE.out]; rfl, HW.out⟩
      · have HE : Hid (R = (t.data.toList.take n, (n : Int), 0)) := by show _ = _; rw [← HR.out, if_neg (by simp), if_neg h1, if_neg (by simp; omega), if_neg (by rw [hts]; exact h3)]
        have h3i : ¬ (t.size : Int) < (n : Int) := by omega
        have hsl := fun w => run_slice_string_h (P := Tryd.prog) w 9 t Tryd.underlying9 .i64 (n : Int) (by omega) (by omega)
        rw [Int.toNat_natCast] at hsl
        have HX : Hid (t.extract 0 n = ⟨(t.data.toList.take n).toArray⟩) := by
          show _ = _
          rw [← Lib.mk_data (t.extract 0 n)]
          congr 2
          rw [Lib.extract_data, List.drop_zero, Nat.sub_zero]
        rw [HX.out] at hsl
        obtain ⟨z, hz⟩ : ∃ z : ByteArray, ⟨(t.data.toList.take n).toArray⟩ = z := ⟨_, rfl⟩
        have HZ : Hid ((⟨(t.data.toList.take n).toArray⟩ : ByteArray) = z) := hz
        rw [hz] at hsl
        clear HR h1 hts hz HX
        go_wp2_with fail
        go_ret3
        exact ⟨by rw [HE.out, ← HZ.out]; rfl, HW.out⟩
end Go.Proofs.YtnnaphfeeobelaeDoor
